/-
  Proved: what term.work returns, of a right term and a right world: the set that the pile comes to; what was in memory is as it was (a contract that the statements lean on).
  Proved: what term.CheckWorld and term.Value return, of any row of signs and any world; what was in memory is as it was (a contract that the statements lean on).
  Proved: what fields.with returns; what was in memory is as it was (a contract that the statements lean on).
  Proved: what the reference's functions Power, Has and Set return, and that they leave memory as it was.
-/
import Derived.Test.YtjaedfjfcghgcaaDoorLibA7
import Derived.Test.YtjaedfjfcghgcaaDoorLibA2
import Derived.Test.YtjaedfjfcghgcaaDoorLibA5
import Derived.Handy
import Derived.Test.YtjaedfjfcghgcaaDoorRows
import Derived.Test.YtjaedfjfcghgcaaDoorLibA1
import Derived.WalkKit
import Derived.ProofKit
import Derived.OpenShut
namespace Go.Proofs.YtjaedfjfcghgcaaDoor
open Go.ChangeShapes Go.WideShapes Go.ChangeAt Go.RowKit

/-- behind a draw or some. -/
theorem below_of_drew {w wm : World} (h : Below w.drew.heap.size w.drew wm) : Below w.heap.size w wm := ((Below.refl _ w).drew).trans h

set_option maxRecDepth 100000 in
set_option maxHeartbeats 4000000 in
theorem work_any (u a b c : Int) (t : List Int) (B off cap : Nat) (w : World) (hw : (Wd.mk u a b c).ok = true) (hs : t.all signB = true) (hone : cnt t 0 = some 1) (hl : t.length ≤ 12) (hB : B < w.heap.size)
    (hc : ∀ k, k < t.length → w.cell? ⟨B, off + k, none⟩ = some (.int .i64 (t.getD k 0))) :
    Calls Tryd.prog 84 #[.slice (some ⟨B, off, none⟩) t.length cap, .agg #[.int .i64 u, .int .i64 a, .int .i64 b, .int .i64 c]] w fun e w' => e = .returned (.tuple #[.int .i64 ((Wd.mk u a b c).val t), .nilIface]) ∧ Below w.heap.size w w' := by
  obtain ⟨i0, hi, hz0, hz1, hz2⟩ := info_parts infoInt
  obtain ⟨w1, hw1⟩ : ∃ w1, w1 = w.alloc (.cells #[.int .i64 u, .int .i64 a, .int .i64 b, .int .i64 c] 37) := ⟨_, rfl⟩
  obtain ⟨K, hK⟩ : ∃ K, K = w.heap.size + 1 := ⟨_, rfl⟩
  have HK1 : Hid (w1.heap.size = K) := by unfold Hid; rw [hw1, hK]; simp
  have HC : Hid (∀ k, k < t.length → w1.cell? ⟨B, off + k, none⟩ = some (.int .i64 (t.getD k 0))) := fun k hk => by
    rw [hw1, World.cell?_alloc_lt _ _ ⟨B, off + k, none⟩ hB]; exact hc k hk
  have HX : Hid (w1.cell? ⟨w.heap.size, 0, none⟩ = some (.int .i64 u) ∧ w1.cell? ⟨w.heap.size, 1, none⟩ = some (.int .i64 a) ∧ w1.cell? ⟨w.heap.size, 2, none⟩ = some (.int .i64 b) ∧ w1.cell? ⟨w.heap.size, 3, none⟩ = some (.int .i64 c)) := by
    unfold Hid; rw [hw1]; simp
  have HBK : Hid (B < K ∧ w.heap.size < K) := ⟨by omega, by omega⟩
  have HW : Hid (Below w.heap.size w w1) := by unfold Hid; rw [hw1]; exact below_alloc1 _ _
  have HKs : Hid (w.heap.size ≤ K) := by unfold Hid; omega
  clear hc hB hK
  obtain ⟨n, hn⟩ : ∃ n, n = t.length := ⟨_, rfl⟩
  rw [← hn] at hl ⊢
  have HN : Hid (n = t.length) := hn
  clear hn
  have HOK : Hid ((Wd.mk u a b c).ok = true) := hw
  have HS : Hid (t.all signB = true) := hs
  have HO : Hid (cnt t 0 = some 1) := hone
  clear hw hs hone
  obtain ⟨V, hV⟩ : ∃ V, V = (Wd.mk u a b c).val t := ⟨_, rfl⟩
  rw [← hV]
  have HV : Hid (V = (Wd.mk u a b c).val t) := hV
  clear hV
  go_enter Tryd.func84, Tryd.ntmps84
  go_wp2
  rw [← hw1]
  clear hw1
  go_loopw [6, 14] (fun v i wr => ∃ (k : Nat) (p : List Int), k ≤ n ∧ i = .int .i64 k ∧ wr.ownsRow K 3 1 v p.length (p.map (Value.int .i64)) ∧ Below K w1 wr ∧ K ≤ wr.heap.size ∧ p = (Wd.mk u a b c).pile (t.take k) [])
    (fun _ i _ => n - (intOf i).toNat)
  case atStart => exact ⟨0, [], Nat.zero_le _, rfl, World.ownsRow_nil _ _ _ _, Below.refl _ _, by rw [HK1.out]; exact Nat.le_refl _, rfl⟩
  case round =>
    obtain ⟨k, p, hk, rfl, hown0, hbel0, hKw0, hp0⟩ := hrel
    have hkt0 : cnt (t.take k) 0 = some (p.length : Int) := by
      obtain ⟨m, hm⟩ := cnt_take_some t k HO.out
      have := pile_length (Wd.mk u a b c) (t.take k) [] hm
      rw [← hp0] at this
      rw [this]; exact hm
    by_cases hlt : k < n
    · obtain ⟨s, hs⟩ : ∃ s, s = t.getD k 0 := ⟨_, rfl⟩
      have hkt : k < t.length := by rw [← HN.out]; exact hlt
      have hcell : wr.cell? ⟨B, off + k, none⟩ = some (.int .i64 s) := by rw [hs, hbel0.cell HBK.out.1]; exact HC.out k hkt
      have x0 : wr.cell? ⟨w.heap.size, 0, none⟩ = some (.int .i64 u) := by rw [hbel0.cell HBK.out.2]; exact HX.out.1
      have x1 : wr.cell? ⟨w.heap.size, 1, none⟩ = some (.int .i64 a) := by rw [hbel0.cell HBK.out.2]; exact HX.out.2.1
      have x2 : wr.cell? ⟨w.heap.size, 2, none⟩ = some (.int .i64 b) := by rw [hbel0.cell HBK.out.2]; exact HX.out.2.2.1
      have x3 : wr.cell? ⟨w.heap.size, 3, none⟩ = some (.int .i64 c) := by rw [hbel0.cell HBK.out.2]; exact HX.out.2.2.2
      have hsg : 0 ≤ s ∧ s ≤ 8 := by
        refine signB_iff.1 (List.all_eq_true.1 HS.out s ?_)
        rw [hs, List.getD_eq_getElem?_getD, List.getElem?_eq_getElem hkt]; exact List.getElem_mem hkt
      have htk : takesN s ≤ p.length := by
        have h1 := cnt_take_succ t hkt hkt0
        rw [← hs] at h1
        obtain ⟨m, hm⟩ := cnt_take_some t (k + 1) HO.out
        by_cases h2 : (p.length : Int) < takesN s
        · rw [if_pos h2] at h1; rw [h1] at hm; cases hm
        · omega
      have HP : Hid ((Wd.mk u a b c).step p s = (Wd.mk u a b c).pile (t.take (k + 1)) []) := by
        unfold Hid; rw [pile_succ _ t [] hkt, ← hs, ← hp0]
      have hpl : p.length ≤ 12 := by
        have := (cnt_nonneg (Int.le_refl 0) hkt0).2
        simp at this; omega
      have HOKP : Hid (∀ j, okB u (p.getD j 0) = true) := fun j => by
        rw [hp0]
        exact ok_getD HOK.out (ok_pile HOK.out (t.take k) (p := []) (by intro x hx; cases hx)) j
      clear hs hkt hkt0 hp0
      have HBEL : Hid (Below K w1 wr) := hbel0
      have HKW : Hid (K ≤ wr.heap.size) := hKw0
      clear hbel0 hKw0
      by_cases h4 : s ≤ 4
      · have ht : takesN s = 0 := takes5 s (by omega)
        have HM : Hid (∀ v W, Calls Tryd.prog 91 #[.int .i64 s, v, .agg #[.int .i64 u, .int .i64 a, .int .i64 b, .int .i64 c]] W fun e w' => e = .returned (.tuple #[.int .i64 ((Wd.mk u a b c).made s []), .nilIface]) ∧ Below W.heap.size W w') := fun v W => made_leaf_any u a b c s v W hsg.1 h4 HOK.out
        have HQ : Hid ((Wd.mk u a b c).step p s = p.take p.length ++ [(Wd.mk u a b c).made s []]) := step_leaf _ p s h4
        obtain ⟨X, hX⟩ : ∃ X, X = (Wd.mk u a b c).made s [] := ⟨_, rfl⟩
        rw [← hX] at HM HQ
        clear hX htk hsg h4
        rcases hown0.2 with ⟨rfl, hp0⟩ | ⟨g, cap', cur, rfl, hg, hh, hm, hmax, _, _⟩
        · obtain rfl : p = [] := List.eq_nil_of_length_eq_zero hp0
          clear hown0 hp0
          go_wp2_with (go_at_call 63; refine (takes_any _ _).mono ?_; rintro e w' ⟨rfl, rfl⟩)
          go_region_with (first | (go_at_call 91; refine (HM.out _ _).mono ?_; rintro e wm ⟨rfl, hbm⟩))
          go_wp2_with (first | (at_builtin; refine wpList_append_own _ rfl (.tmp 37) (.tmp 39) 30 rfl K 3 i0 (.int .i64 0) 1 8 Tryd.underlying30 hi hz0 hz1 hz2 rfl (by decide) (.slice none 0 0) 0 [] rfl (World.ownsRow_nil _ _ _ _) ⟨wm.heap.size, 0, none⟩ 1 1 [.int .i64 X] rfl rfl ?a1 ?a2 ?a3 ?a4 ?a5 ?_))
          case a1 =>
            intro j y hj
            match j, hj with
            | 0, hj => simp at hj; subst hj; simp [Addr.add]
          case a2 => intro y hy; simp at hy; subst hy; rfl
          case a3 => unfold maxLen; omega
          case a4 => omega
          case a5 => have h1 := hbm.size; have h2 := HKW.out; simp at h1 ⊢; omega
          intro v' w2 hown' hgrow _
          have R := work_rel (q := (Wd.mk u a b c).pile (t.take (k + 1)) []) HKW.out HBEL.out (below_of_drew hbm) hown' (by intro k hk; cases hk) hgrow (Nat.le_refl _) (HP.out.symm.trans HQ.out)
          clear hown' hgrow hbm
          go_wp2
          go_roundw
          case rel => exact ⟨k + 1, _, by omega, by go_num, R.1, R.2.1, R.2.2, rfl⟩
          case measure => simp [intOf]; omega
        · obtain ⟨m, hm0⟩ : ∃ m, m = p.length := ⟨_, rfl⟩
          have HOW : Hid (wr.ownsRow K 3 1 (.slice (some ⟨g, 0, none⟩) m cap') m (p.map (Value.int .i64))) := by
            unfold Hid; rw [hm0]; exact hown0
          rw [← hm0] at HQ hm hpl ⊢
          have HM0 : Hid (m = p.length) := hm0
          clear hown0 hm0 hh
          by_cases hcap : cap' = m
          · subst hcap
            go_wp2_with (go_at_call 63; refine (takes_any _ _).mono ?_; rintro e w' ⟨rfl, rfl⟩)
            go_region_with (first | (go_at_call 91; refine (HM.out _ _).mono ?_; rintro e wm ⟨rfl, hbm⟩))
            have HOm := ownsRow_below HOW.out (below_of_drew hbm)
            go_wp2_with (first | (at_builtin; refine wpList_append_own _ rfl (.tmp 37) (.tmp 39) 30 rfl K 3 i0 (.int .i64 0) 1 8 Tryd.underlying30 hi hz0 hz1 hz2 rfl (by decide) (.slice (some ⟨g, 0, none⟩) cap' cap') cap' ((p.map (Value.int .i64)).take cap') rfl ((ownsRow_take HOm (by have := HM0.out; omega)).alloc _) ⟨wm.heap.size, 0, none⟩ 1 1 [.int .i64 X] rfl rfl ?e1 ?e2 ?e3 ?e4 ?e5 ?_))
            case e1 =>
              intro j y hj
              match j, hj with
              | 0, hj => simp at hj; subst hj; simp [Addr.add]
            case e2 => intro y hy; simp at hy; subst hy; rfl
            case e3 => unfold maxLen; omega
            case e4 => omega
            case e5 => have h1 := hbm.size; have h2 := HKW.out; simp at h1 ⊢; omega
            intro v' w2 hown' hgrow _
            have R := work_rel (q := (Wd.mk u a b c).pile (t.take (k + 1)) []) HKW.out HBEL.out (below_of_drew hbm) (by rw [List.map_take]; exact hown') (by intro k hk; cases hk; exact hg) hgrow (by have := HM0.out; omega) (HP.out.symm.trans HQ.out)
            clear hown' hgrow hbm HOm
            go_wp2
            go_roundw
            case rel => exact ⟨k + 1, _, by omega, by go_num, R.1, R.2.1, R.2.2, rfl⟩
            case measure => simp [intOf]; omega
          · go_wp2_with (go_at_call 63; refine (takes_any _ _).mono ?_; rintro e w' ⟨rfl, rfl⟩)
            go_region_with (first | (go_at_call 91; refine (HM.out _ _).mono ?_; rintro e wm ⟨rfl, hbm⟩))
            have HOm := ownsRow_below HOW.out (below_of_drew hbm)
            go_wp2_with (first | (at_builtin; refine wpList_append_own _ rfl (.tmp 37) (.tmp 39) 30 rfl K 3 i0 (.int .i64 0) 1 8 Tryd.underlying30 hi hz0 hz1 hz2 rfl (by decide) (.slice (some ⟨g, 0, none⟩) m cap') m ((p.map (Value.int .i64)).take m) rfl ((ownsRow_take HOm (by have := HM0.out; omega)).alloc _) ⟨wm.heap.size, 0, none⟩ 1 1 [.int .i64 X] rfl rfl ?b1 ?b2 ?b3 ?b4 ?b5 ?_))
            case b1 =>
              intro j y hj
              match j, hj with
              | 0, hj => simp at hj; subst hj; simp [Addr.add]
            case b2 => intro y hy; simp at hy; subst hy; rfl
            case b3 => unfold maxLen; omega
            case b4 => omega
            case b5 => have h1 := hbm.size; have h2 := HKW.out; simp at h1 ⊢; omega
            intro v' w2 hown' hgrow _
            have R := work_rel (q := (Wd.mk u a b c).pile (t.take (k + 1)) []) HKW.out HBEL.out (below_of_drew hbm) (by rw [List.map_take]; exact hown') (by intro k hk; cases hk; exact hg) hgrow (by have := HM0.out; omega) (HP.out.symm.trans HQ.out)
            clear hown' hgrow hbm HOm
            go_wp2
            go_roundw
            case rel => exact ⟨k + 1, _, by omega, by go_num, R.1, R.2.1, R.2.2, rfl⟩
            case measure => simp [intOf]; omega
      by_cases h8 : s = 8
      · subst h8
        rw [takes1] at htk
        have ht : takesN 8 = 1 := takes1
        rcases hown0.2 with ⟨rfl, hp0⟩ | ⟨g, cap', cur, rfl, hg, hh, hm, hmax, _, _⟩
        · omega
        · obtain ⟨r, hr⟩ : ∃ r, p.length = r + 1 := ⟨p.length - 1, by omega⟩
          have HM0 : Hid (p.length = r + 1) := hr
          have HOW : Hid (wr.ownsRow K 3 1 (.slice (some ⟨g, 0, none⟩) (r + 1) cap') (r + 1) (p.map (Value.int .i64))) := by
            unfold Hid; rw [← hr]; exact hown0
          have hcx : Hid (∀ W, Below wr.heap.size wr W → W.cell? ⟨g, r, none⟩ = some (.int .i64 (p.getD r 0))) := fun W hb => by
            rw [hb.cell (ownsRow_block hown0).2.1]; exact ownsRow_int hown0 (by omega)
          have HG : Hid (g < wr.heap.size) := (ownsRow_block hown0).2.1
          obtain ⟨x, hx⟩ : ∃ x, x = p.getD r 0 := ⟨_, rfl⟩
          have HX' : Hid (okB u x = true) := by unfold Hid; rw [hx]; exact HOKP.out r
          rw [← hx] at hcx
          have HM : Hid (∀ W c', Below wr.heap.size wr W → Calls Tryd.prog 91 #[.int .i64 8, .slice (some ⟨g, r, none⟩) 1 c', .agg #[.int .i64 u, .int .i64 a, .int .i64 b, .int .i64 c]] W fun e w' => e = .returned (.tuple #[.int .i64 (doN 8 u x x), .nilIface]) ∧ Below W.heap.size W w') := fun W c' hb => made_one_any u a b c 8 x g r c' W (by omega) (by omega) HX'.out (Nat.lt_of_lt_of_le HG.out hb.size) (hcx.out W hb)
          have HQ : Hid ((Wd.mk u a b c).step p 8 = p.take r ++ [doN 8 u x x]) := by
            have := step_one (Wd.mk u a b c) p (by omega)
            rw [hr, Nat.add_sub_cancel, ← hx] at this; exact this
          obtain ⟨X, hX⟩ : ∃ X, X = doN 8 u x x := ⟨_, rfl⟩
          rw [← hX] at HM HQ
          have hle : (r : Int) ≤ (r : Int) + 1 := by omega
          have hcap : ¬ cap' = r := by omega
          have hcap2 : r < cap' := by omega
          rw [hr] at hm hpl ⊢
          clear hX hx hcx hown0 hh hr htk
          go_wp2_with (go_at_call 63; refine (takes_any _ _).mono ?_; rintro e w' ⟨rfl, rfl⟩)
          go_region_with (first | (go_at_call 91; refine (HM.out _ _ ((Below.refl _ wr).drew)).mono ?_; rintro e wm ⟨rfl, hbm⟩))
          have HOm := ownsRow_below HOW.out (below_of_drew hbm)
          go_wp2_with (first | (at_builtin; refine wpList_append_own _ rfl (.tmp 37) (.tmp 39) 30 rfl K 3 i0 (.int .i64 0) 1 8 Tryd.underlying30 hi hz0 hz1 hz2 rfl (by decide) (.slice (some ⟨g, 0, none⟩) r cap') r ((p.map (Value.int .i64)).take r) rfl ((ownsRow_take HOm (by have := HM0.out; omega)).alloc _) ⟨wm.heap.size, 0, none⟩ 1 1 [.int .i64 X] rfl rfl ?c1 ?c2 ?c3 ?c4 ?c5 ?_))
          case c1 =>
            intro j y hj
            match j, hj with
            | 0, hj => simp at hj; subst hj; simp [Addr.add]
          case c2 => intro y hy; simp at hy; subst hy; rfl
          case c3 => unfold maxLen; omega
          case c4 => omega
          case c5 => have h1 := hbm.size; have h2 := HKW.out; simp at h1 ⊢; omega
          intro v' w2 hown' hgrow _
          have R := work_rel (q := (Wd.mk u a b c).pile (t.take (k + 1)) []) HKW.out HBEL.out (below_of_drew hbm) (by rw [List.map_take]; exact hown') (by intro k hk; cases hk; exact hg) hgrow (by have := HM0.out; omega) (HP.out.symm.trans HQ.out)
          clear hown' hgrow hbm HOm
          go_wp2
          go_roundw
          case rel => exact ⟨k + 1, _, by omega, by go_num, R.1, R.2.1, R.2.2, rfl⟩
          case measure => simp [intOf]; omega
      · have h7 : s ≤ 7 := by omega
        have h5 : 5 ≤ s := by omega
        have ht : takesN s = 2 := takes2 s h5 h7
        rw [ht] at htk
        rcases hown0.2 with ⟨rfl, hp0⟩ | ⟨g, cap', cur, rfl, hg, hh, hm, hmax, _, _⟩
        · omega
        · obtain ⟨r, hr⟩ : ∃ r, p.length = r + 2 := ⟨p.length - 2, by omega⟩
          have HM0 : Hid (p.length = r + 2) := hr
          have HOW : Hid (wr.ownsRow K 3 1 (.slice (some ⟨g, 0, none⟩) (r + 2) cap') (r + 2) (p.map (Value.int .i64))) := by
            unfold Hid; rw [← hr]; exact hown0
          have hcx : Hid (∀ W, Below wr.heap.size wr W → W.cell? ⟨g, r, none⟩ = some (.int .i64 (p.getD r 0))) := fun W hb => by
            rw [hb.cell (ownsRow_block hown0).2.1]; exact ownsRow_int hown0 (by omega)
          have hcy : Hid (∀ W, Below wr.heap.size wr W → W.cell? ⟨g, r + 1, none⟩ = some (.int .i64 (p.getD (r + 1) 0))) := fun W hb => by
            rw [hb.cell (ownsRow_block hown0).2.1]; exact ownsRow_int hown0 (by omega)
          have HG : Hid (g < wr.heap.size) := (ownsRow_block hown0).2.1
          obtain ⟨x, hx⟩ : ∃ x, x = p.getD r 0 := ⟨_, rfl⟩
          obtain ⟨y, hy⟩ : ∃ y, y = p.getD (r + 1) 0 := ⟨_, rfl⟩
          have HX' : Hid (okB u x = true) := by unfold Hid; rw [hx]; exact HOKP.out r
          have HY' : Hid (okB u y = true) := by unfold Hid; rw [hy]; exact HOKP.out (r + 1)
          rw [← hx] at hcx
          rw [← hy] at hcy
          have HM : Hid (∀ W c', Below wr.heap.size wr W → Calls Tryd.prog 91 #[.int .i64 s, .slice (some ⟨g, r, none⟩) 2 c', .agg #[.int .i64 u, .int .i64 a, .int .i64 b, .int .i64 c]] W fun e w' => e = .returned (.tuple #[.int .i64 (doN s u x y), .nilIface]) ∧ Below W.heap.size W w') := fun W c' hb => made_two_any u a b c s x y g r c' W (by omega) (by omega) HX'.out HY'.out (Nat.lt_of_lt_of_le HG.out hb.size) (hcx.out W hb) (hcy.out W hb)
          have HQ : Hid ((Wd.mk u a b c).step p s = p.take r ++ [doN s u x y]) := by
            have := step_two (Wd.mk u a b c) p s h5 h7 (by omega)
            rw [hr, Nat.add_sub_cancel, ← hx, ← hy] at this; exact this
          obtain ⟨X, hX⟩ : ∃ X, X = doN s u x y := ⟨_, rfl⟩
          rw [← hX] at HM HQ
          have hle : (r : Int) ≤ (r : Int) + 2 := by omega
          have hcap : ¬ cap' = r := by omega
          have hcap2 : r < cap' := by omega
          rw [hr] at hm hpl ⊢
          clear hX hx hy hcx hcy hown0 hh hr htk h4 h8
          go_wp2_with (go_at_call 63; refine (takes_any _ _).mono ?_; rintro e w' ⟨rfl, rfl⟩)
          go_region_with (first | (go_at_call 91; refine (HM.out _ _ ((Below.refl _ wr).drew)).mono ?_; rintro e wm ⟨rfl, hbm⟩))
          have HOm := ownsRow_below HOW.out (below_of_drew hbm)
          go_wp2_with (first | (at_builtin; refine wpList_append_own _ rfl (.tmp 37) (.tmp 39) 30 rfl K 3 i0 (.int .i64 0) 1 8 Tryd.underlying30 hi hz0 hz1 hz2 rfl (by decide) (.slice (some ⟨g, 0, none⟩) r cap') r ((p.map (Value.int .i64)).take r) rfl ((ownsRow_take HOm (by have := HM0.out; omega)).alloc _) ⟨wm.heap.size, 0, none⟩ 1 1 [.int .i64 X] rfl rfl ?d1 ?d2 ?d3 ?d4 ?d5 ?_))
          case d1 =>
            intro j y hj
            match j, hj with
            | 0, hj => simp at hj; subst hj; simp [Addr.add]
          case d2 => intro y hy; simp at hy; subst hy; rfl
          case d3 => unfold maxLen; omega
          case d4 => omega
          case d5 => have h1 := hbm.size; have h2 := HKW.out; simp at h1 ⊢; omega
          intro v' w2 hown' hgrow _
          have R := work_rel (q := (Wd.mk u a b c).pile (t.take (k + 1)) []) HKW.out HBEL.out (below_of_drew hbm) (by rw [List.map_take]; exact hown') (by intro k hk; cases hk; exact hg) hgrow (by have := HM0.out; omega) (HP.out.symm.trans HQ.out)
          clear hown' hgrow hbm HOm
          go_wp2
          go_roundw
          case rel => exact ⟨k + 1, _, by omega, by go_num, R.1, R.2.1, R.2.2, rfl⟩
          case measure => simp [intOf]; omega
    · obtain rfl : k = n := by omega
      rw [List.take_of_length_le (by rw [← HN.out]; exact Nat.le_refl _)] at hkt0 hp0
      have h1 : p.length = 1 := by
        rw [HO.out] at hkt0
        have := Option.some.inj hkt0
        omega
      have HVp : Hid (p.getD 0 0 = V) := by unfold Hid; rw [HV.out, hp0]; rfl
      have HF : Hid (Below w.heap.size w wr) := HW.out.trans (hbel0.mono HKs.out)
      rcases hown0.2 with ⟨rfl, hp0⟩ | ⟨g, cap', cur, rfl, hg, hh, hm, hmax, _, _⟩
      · omega
      · have hcx : wr.cell? ⟨g, 0, none⟩ = some (.int .i64 V) := by rw [← HVp.out]; exact ownsRow_int hown0 (by omega)
        rw [h1]
        clear hown0 hh hkt0 hp0 hbel0 hKw0
        go_wp2
        go_ret2
        exact ⟨rfl, HF.out⟩
end Go.Proofs.YtjaedfjfcghgcaaDoor

namespace Go.Proofs.YtjaedfjfcghgcaaDoor
open Go.ChangeShapes Go.WideShapes Go.ChangeAt Go.RowKit

theorem quiet_check_ok (u s : Int) (h : okB u s = true) (W : World) : Calls Tryd.prog 72 #[.int .i64 u, .int .i64 s] W fun e w' => e = .returned .nilIface ∧ w' = W := (check_ok u s h W).mono fun _ _ h => (And.intro h.1 h.2.symm)
theorem quiet_check_no (u s : Int) (h : okB u s = false) (W : World) : Calls Tryd.prog 72 #[.int .i64 u, .int .i64 s] W fun e w' => e = .returned (.iface 64 (.int .i64 1)) ∧ w' = W := (check_no u s h W).mono fun _ _ h => (And.intro h.1 h.2.symm)

set_option maxRecDepth 100000 in
set_option maxHeartbeats 4000000 in
theorem checkWorld_any (u a b c : Int) (w : World) :
    Calls Tryd.prog 83 #[.agg #[.int .i64 u, .int .i64 a, .int .i64 b, .int .i64 c]] w fun e w' => e = .returned (if (Wd.mk u a b c).ok = true then .nilIface else .iface 64 (.int .i64 1)) ∧ Below w.heap.size w w' := by
  obtain ⟨w1, hw1⟩ : ∃ w1, w1 = w.alloc (.cells #[.int .i64 u, .int .i64 a, .int .i64 b, .int .i64 c] 37) := ⟨_, rfl⟩
  obtain ⟨K, hK⟩ : ∃ K, K = w.heap.size + 1 := ⟨_, rfl⟩
  have HK1 : Hid (w1.heap.size = K) := by unfold Hid; rw [hw1, hK]; simp
  have HX : Hid (w1.cell? ⟨w.heap.size, 0, none⟩ = some (.int .i64 u) ∧ w1.cell? ⟨w.heap.size, 1, none⟩ = some (.int .i64 a) ∧ w1.cell? ⟨w.heap.size, 2, none⟩ = some (.int .i64 b) ∧ w1.cell? ⟨w.heap.size, 3, none⟩ = some (.int .i64 c)) := by
    unfold Hid; rw [hw1]; simp
  have HBK : Hid (w.heap.size < K) := by unfold Hid; omega
  have HW : Hid (Below w.heap.size w w1) := by unfold Hid; rw [hw1]; exact below_alloc1 _ _
  have HKs : Hid (w.heap.size ≤ K) := by unfold Hid; omega
  clear hK
  obtain ⟨E, hE⟩ : ∃ E, E = if (Wd.mk u a b c).ok = true then Value.nilIface else .iface 64 (.int .i64 1) := ⟨_, rfl⟩
  rw [← hE]
  have HE : Hid ((okB u a = true → okB u b = true → okB u c = true → E = .nilIface) ∧ ((okB u a = false ∨ okB u b = false ∨ okB u c = false) → E = .iface 64 (.int .i64 1))) := by
    refine ⟨fun h1 h2 h3 => ?_, fun h => ?_⟩
    · have ho : (Wd.mk u a b c).ok = true := Wd.ok_iff.2 ⟨h1, h2, h3⟩
      rw [if_pos ho] at hE
      exact hE
    · have ho : ¬ (Wd.mk u a b c).ok = true := by
        intro ho
        obtain ⟨h1, h2, h3⟩ := Wd.ok_iff.1 ho
        simp only at h1 h2 h3
        rw [h1, h2, h3] at h
        simp at h
      rw [if_neg ho] at hE
      exact hE
  clear hE
  go_enter Tryd.func83, Tryd.ntmps83
  go_wp2_with fail
  rw [← hw1]
  clear hw1
  go_loopw [5] (fun i wr => ∃ k : Nat, k ≤ 3 ∧ i = .int .i64 k ∧ Below K w1 wr ∧ (1 ≤ k → okB u a = true) ∧ (2 ≤ k → okB u b = true) ∧ (3 ≤ k → okB u c = true)) (fun i _ => 3 - (intOf i).toNat)
  case atStart => exact ⟨0, Nat.zero_le _, rfl, Below.refl _ _, by omega, by omega, by omega⟩
  case round =>
    obtain ⟨k, hk, rfl, hbel, k1, k2, k3⟩ := hrel
    have x0 : wr.cell? ⟨w.heap.size, 0, none⟩ = some (.int .i64 u) := by rw [hbel.cell HBK.out]; exact HX.out.1
    have x1 : wr.cell? ⟨w.heap.size, 1, none⟩ = some (.int .i64 a) := by rw [hbel.cell HBK.out]; exact HX.out.2.1
    have x2 : wr.cell? ⟨w.heap.size, 2, none⟩ = some (.int .i64 b) := by rw [hbel.cell HBK.out]; exact HX.out.2.2.1
    have x3 : wr.cell? ⟨w.heap.size, 3, none⟩ = some (.int .i64 c) := by rw [hbel.cell HBK.out]; exact HX.out.2.2.2
    have HB : Hid (Below K w1 wr) := hbel
    have HKw : Hid (K ≤ wr.heap.size) := by unfold Hid; rw [← HK1.out]; exact hbel.size
    clear hbel
    obtain rfl | rfl | rfl | rfl : k = 0 ∨ k = 1 ∨ k = 2 ∨ k = 3 := by omega
    · clear k1 k2 k3 hk
      rcases (Bool.eq_false_or_eq_true (okB u a)).symm with ho | ho
      · have HO : Hid (okB u a = false) := ho
        clear ho
        go_wp2_with fail
        go_quiet (first | (go_at_call 72; exact Calls.quiet_of_same (quiet_check_no _ _ HO.out _)))
        go_wp2
        go_ret
        exact ⟨back_v (HE.out.2 (Or.inl HO.out)).symm, HW.out.trans ((HB.out.mono HKs.out).trans ((below_drewNs _ _).mono (Nat.le_trans HKs.out HKw.out)))⟩
      · have HO : Hid (okB u a = true) := ho
        clear ho
        go_wp2_with fail
        go_quiet (first | (go_at_call 72; exact Calls.quiet_of_same (quiet_check_ok _ _ HO.out _)))
        go_wp2
        go_roundw
        case rel => exact ⟨1, by omega, by go_num, HB.out.trans ((below_drewNs _ _).mono HKw.out), fun _ => HO.out, fun h => by omega, fun h => by omega⟩
        case measure => simp [intOf]
    · have HO1 : Hid (okB u a = true) := k1 (by omega)
      clear k1 k2 k3 hk
      rcases (Bool.eq_false_or_eq_true (okB u b)).symm with ho | ho
      · have HO : Hid (okB u b = false) := ho
        clear ho
        go_wp2_with fail
        go_quiet (first | (go_at_call 72; exact Calls.quiet_of_same (quiet_check_no _ _ HO.out _)))
        go_wp2
        go_ret
        exact ⟨back_v (HE.out.2 (Or.inr (Or.inl HO.out))).symm, HW.out.trans ((HB.out.mono HKs.out).trans ((below_drewNs _ _).mono (Nat.le_trans HKs.out HKw.out)))⟩
      · have HO : Hid (okB u b = true) := ho
        clear ho
        go_wp2_with fail
        go_quiet (first | (go_at_call 72; exact Calls.quiet_of_same (quiet_check_ok _ _ HO.out _)))
        go_wp2
        go_roundw
        case rel => exact ⟨2, by omega, by go_num, HB.out.trans ((below_drewNs _ _).mono HKw.out), fun _ => HO1.out, fun _ => HO.out, fun h => by omega⟩
        case measure => simp [intOf]
    · have HO1 : Hid (okB u a = true) := k1 (by omega)
      have HO2 : Hid (okB u b = true) := k2 (by omega)
      clear k1 k2 k3 hk
      rcases (Bool.eq_false_or_eq_true (okB u c)).symm with ho | ho
      · have HO : Hid (okB u c = false) := ho
        clear ho
        go_wp2_with fail
        go_quiet (first | (go_at_call 72; exact Calls.quiet_of_same (quiet_check_no _ _ HO.out _)))
        go_wp2
        go_ret
        exact ⟨back_v (HE.out.2 (Or.inr (Or.inr HO.out))).symm, HW.out.trans ((HB.out.mono HKs.out).trans ((below_drewNs _ _).mono (Nat.le_trans HKs.out HKw.out)))⟩
      · have HO : Hid (okB u c = true) := ho
        clear ho
        go_wp2_with fail
        go_quiet (first | (go_at_call 72; exact Calls.quiet_of_same (quiet_check_ok _ _ HO.out _)))
        go_wp2
        go_roundw
        case rel => exact ⟨3, by omega, by go_num, HB.out.trans ((below_drewNs _ _).mono HKw.out), fun _ => HO1.out, fun _ => HO2.out, fun _ => HO.out⟩
        case measure => simp [intOf]
    · have HO : Hid (okB u a = true ∧ okB u b = true ∧ okB u c = true) := ⟨k1 (by omega), k2 (by omega), k3 (by omega)⟩
      clear k1 k2 k3 hk
      go_wp2
      go_ret
      exact ⟨back_v (HE.out.1 HO.out.1 HO.out.2.1 HO.out.2.2).symm, HW.out.trans (HB.out.mono HKs.out)⟩

/-- what Value answers: the set, and the number of the error. -/
def Wd.answer (w : Wd) (t : List Int) : Int := if faultN t = 0 then (if w.ok = true then w.val t else 0) else 0
def Wd.fault (w : Wd) (t : List Int) : Int := if faultN t = 0 then (if w.ok = true then 0 else 1) else faultN t

theorem back_2 {a b x y : Value} (h : a = b) (h' : x = y) : Ending.returned (.tuple #[a, x]) = .returned (.tuple #[b, y]) := by rw [h, h']

theorem value_bad (t : List Int) (v : Value) (u a b c : Int) (w : World) (h : Reads w v t) (hf : ¬ faultN t = 0) :
    Calls Tryd.prog 59 #[v, .agg #[.int .i64 u, .int .i64 a, .int .i64 b, .int .i64 c]] w fun e w' => e = .returned (.tuple #[.int .i64 0, .iface 64 (.int .i64 (faultN t))]) ∧ Below w.heap.size w w' := by
  have HC : Hid (Calls Tryd.prog 17 #[v] (w.alloc (.cells #[.int .i64 u, .int .i64 a, .int .i64 b, .int .i64 c] 37)) fun e w' => e = .returned (.iface 64 (.int .i64 (faultN t))) ∧ (w.alloc (.cells #[.int .i64 u, .int .i64 a, .int .i64 b, .int .i64 c] 37)) = w') := by
    have := tcheck_any t v _ (h.below (below_alloc1 w (.cells #[.int .i64 u, .int .i64 a, .int .i64 b, .int .i64 c] 37)))
    unfold errV at this
    rw [if_neg hf] at this
    exact this
  clear h hf
  obtain ⟨F, hF⟩ : ∃ F, F = faultN t := ⟨_, rfl⟩
  rw [← hF] at HC ⊢
  clear hF
  go_enter Tryd.func59, Tryd.ntmps59
  go_wp2_with (go_at_call 17; refine HC.out.mono ?_; rintro e w' ⟨rfl, rfl⟩)
  go_ret2
  exact ⟨rfl, below_alloc1 _ _⟩

set_option maxRecDepth 100000 in
set_option maxHeartbeats 4000000 in
theorem value_good (t : List Int) (B off cap : Nat) (u a b c : Int) (w : World) (hB : B < w.heap.size) (hcap : t.length ≤ cap) (hf : faultN t = 0) (hc : ∀ k, k < t.length → w.cell? ⟨B, off + k, none⟩ = some (.int .i64 (t.getD k 0))) :
    Calls Tryd.prog 59 #[.slice (some ⟨B, off, none⟩) t.length cap, .agg #[.int .i64 u, .int .i64 a, .int .i64 b, .int .i64 c]] w fun e w' => e = .returned (.tuple #[.int .i64 (if (Wd.mk u a b c).ok = true then (Wd.mk u a b c).val t else 0), if (Wd.mk u a b c).ok = true then .nilIface else .iface 64 (.int .i64 1)]) ∧ Below w.heap.size w w' := by
  obtain ⟨f1, f2, f3, f4⟩ := fault_zero.1 hf
  obtain ⟨w1, hw1⟩ : ∃ w1, w1 = w.alloc (.cells #[.int .i64 u, .int .i64 a, .int .i64 b, .int .i64 c] 37) := ⟨_, rfl⟩
  obtain ⟨K, hK⟩ : ∃ K, K = w.heap.size + 1 := ⟨_, rfl⟩
  have HK1 : Hid (w1.heap.size = K) := by unfold Hid; rw [hw1, hK]; simp
  have HC1 : Hid (∀ k, k < t.length → w1.cell? ⟨B, off + k, none⟩ = some (.int .i64 (t.getD k 0))) := fun k hk => by
    rw [hw1, World.cell?_alloc_lt _ _ ⟨B, off + k, none⟩ hB]; exact hc k hk
  have HBK : Hid (B < K ∧ w.heap.size < K) := ⟨by omega, by omega⟩
  have HW : Hid (Below w.heap.size w w1) := by unfold Hid; rw [hw1]; exact below_alloc1 _ _
  have HKs : Hid (w.heap.size ≤ K) := by unfold Hid; omega
  have HC : Hid (Calls Tryd.prog 17 #[.slice (some ⟨B, off, none⟩) t.length cap] w1 fun e w' => e = .returned .nilIface ∧ w1 = w') := by
    have := tcheck_any t (.slice (some ⟨B, off, none⟩) t.length cap) w1 (Or.inr ⟨B, off, cap, rfl, by have := HK1.out; have := HBK.out.1; omega, by omega, ⟨by omega, hcap⟩, HC1.out⟩)
    rw [hf] at this
    exact this
  clear hc hB hK hcap
  have HWK : Hid (∀ W, Below K w1 W → (Wd.mk u a b c).ok = true → Calls Tryd.prog 84 #[.slice (some ⟨B, off, none⟩) t.length cap, .agg #[.int .i64 u, .int .i64 a, .int .i64 b, .int .i64 c]] W fun e w' => e = .returned (.tuple #[.int .i64 ((Wd.mk u a b c).val t), .nilIface]) ∧ Below W.heap.size W w') := fun W hb hok =>
    work_any u a b c t B off cap W hok f3 f4 f2 (by have := hb.size; have := HK1.out; have := HBK.out.1; omega) (fun k hk => by rw [hb.cell HBK.out.1]; exact HC1.out k hk)
  clear HC1 f1 f2 f3 f4 hf
  obtain ⟨V, hV⟩ : ∃ V, V = (Wd.mk u a b c).val t := ⟨_, rfl⟩
  rw [← hV] at HWK ⊢
  clear hV
  obtain ⟨n, hn⟩ : ∃ n, n = t.length := ⟨_, rfl⟩
  rw [← hn] at HWK HC ⊢
  clear hn
  have HCW : Hid (Calls Tryd.prog 83 #[.agg #[.int .i64 u, .int .i64 a, .int .i64 b, .int .i64 c]] w1 fun e w' => e = .returned (if (Wd.mk u a b c).ok = true then .nilIface else .iface 64 (.int .i64 1)) ∧ Below w1.heap.size w1 w') := checkWorld_any u a b c w1
  have HX : Hid (∀ W, Below w1.heap.size w1 W → W.cell? ⟨w.heap.size, 0, none⟩ = some (.int .i64 u) ∧ W.cell? ⟨w.heap.size, 1, none⟩ = some (.int .i64 a) ∧ W.cell? ⟨w.heap.size, 2, none⟩ = some (.int .i64 b) ∧ W.cell? ⟨w.heap.size, 3, none⟩ = some (.int .i64 c)) := fun W hc => by
    have hlt : w.heap.size < w1.heap.size := by rw [hw1]; simp
    rw [hc.cell (p := ⟨w.heap.size, 0, none⟩) hlt, hc.cell (p := ⟨w.heap.size, 1, none⟩) hlt, hc.cell (p := ⟨w.heap.size, 2, none⟩) hlt, hc.cell (p := ⟨w.heap.size, 3, none⟩) hlt, hw1]
    simp
  rcases (Bool.eq_false_or_eq_true (Wd.mk u a b c).ok).symm with ho | ho
  · rw [if_neg (by rw [ho]; decide), if_neg (by rw [ho]; decide)]
    have HCE : Hid (Calls Tryd.prog 83 #[.agg #[.int .i64 u, .int .i64 a, .int .i64 b, .int .i64 c]] w1 fun e w' => e = .returned (.iface 64 (.int .i64 1)) ∧ Below w1.heap.size w1 w') := by
      have := HCW.out
      rw [if_neg (by rw [ho]; decide)] at this
      exact this
    clear HCW ho HWK
    go_enter Tryd.func59, Tryd.ntmps59
    go_wp2_with fail
    rw [← hw1]
    clear hw1
    obtain ⟨y0, y1, y2, y3⟩ := HX.out w1 (Below.refl _ _)
    go_wp2_with fail
    go_at_call 17
    refine HC.out.mono ?_
    rintro e w' ⟨rfl, rfl⟩
    go_wp2_with fail
    go_at_call 83
    refine HCE.out.mono ?_
    rintro e w2 ⟨rfl, hb⟩
    have HB : Hid (Below w1.heap.size w1 w2) := hb
    clear hb y0 y1 y2 y3
    go_wp2
    go_ret2
    exact ⟨rfl, HW.out.trans (HB.out.mono (by have := HK1.out; have := HKs.out; omega))⟩
  · rw [if_pos ho, if_pos ho]
    have HCE : Hid (Calls Tryd.prog 83 #[.agg #[.int .i64 u, .int .i64 a, .int .i64 b, .int .i64 c]] w1 fun e w' => e = .returned .nilIface ∧ Below w1.heap.size w1 w') := by
      have := HCW.out
      rw [if_pos ho] at this
      exact this
    have HO : Hid ((Wd.mk u a b c).ok = true) := ho
    clear HCW ho
    go_enter Tryd.func59, Tryd.ntmps59
    go_wp2_with fail
    rw [← hw1]
    clear hw1
    obtain ⟨y0, y1, y2, y3⟩ := HX.out w1 (Below.refl _ _)
    go_wp2_with fail
    go_at_call 17
    refine HC.out.mono ?_
    rintro e w' ⟨rfl, rfl⟩
    go_wp2_with fail
    go_at_call 83
    refine HCE.out.mono ?_
    rintro e w2 ⟨rfl, hb⟩
    have HB : Hid (Below w1.heap.size w1 w2) := hb
    obtain ⟨x0, x1, x2, x3⟩ := HX.out w2 hb
    clear hb y0 y1 y2 y3
    go_wp2_with fail
    go_at_call 84
    refine (HWK.out w2 (by rw [← HK1.out]; exact HB.out) HO.out).mono ?_
    rintro e w3 ⟨rfl, hb⟩
    have HB3 : Hid (Below w2.heap.size w2 w3) := hb
    clear hb x0 x1 x2 x3
    go_wp2
    go_ret2
    have hs : w.heap.size ≤ w1.heap.size := by have := HK1.out; have := HKs.out; omega
    exact ⟨rfl, HW.out.trans ((HB.out.mono hs).trans (HB3.out.mono (Nat.le_trans hs HB.out.size)))⟩

/-- Value, whatever the row of signs and the world. -/
theorem value_any (t : List Int) (v : Value) (u a b c : Int) (w : World) (h : Reads w v t) :
    Calls Tryd.prog 59 #[v, .agg #[.int .i64 u, .int .i64 a, .int .i64 b, .int .i64 c]] w fun e w' => e = .returned (.tuple #[.int .i64 ((Wd.mk u a b c).answer t), errV ((Wd.mk u a b c).fault t)]) ∧ Below w.heap.size w w' := by
  by_cases hf : faultN t = 0
  · have e1 : (Wd.mk u a b c).answer t = if (Wd.mk u a b c).ok = true then (Wd.mk u a b c).val t else 0 := by unfold Wd.answer; rw [if_pos hf]
    have e2 : errV ((Wd.mk u a b c).fault t) = if (Wd.mk u a b c).ok = true then .nilIface else .iface 64 (.int .i64 1) := by
      unfold Wd.fault; rw [if_pos hf]
      by_cases ho : (Wd.mk u a b c).ok = true
      · rw [if_pos ho, if_pos ho]; rfl
      · rw [if_neg ho, if_neg ho]; rfl
    rw [e1, e2]
    rcases h with ⟨ao, cap, rfl, rfl⟩ | ⟨B, off, cap, rfl, hB, _, ⟨_, hcap⟩, hc⟩
    · exact absurd hf (by decide)
    · exact value_good t B off cap u a b c w hB hcap hf hc
  · have e1 : (Wd.mk u a b c).answer t = 0 := by unfold Wd.answer; rw [if_neg hf]
    have e2 : errV ((Wd.mk u a b c).fault t) = .iface 64 (.int .i64 (faultN t)) := by
      unfold Wd.fault errV; rw [if_neg hf, if_neg hf]
    rw [e1, e2]
    exact value_bad t v u a b c w h hf
end Go.Proofs.YtjaedfjfcghgcaaDoor

namespace Go.Proofs.YtjaedfjfcghgcaaDoor
open Go.ChangeShapes Go.WideShapes Go.ChangeAt Go.RowKit

theorem bit_at (s : Int) (i : Nat) (h0 : 0 ≤ s) (h1 : s < 256) (hi : i < 8) : bits .and .i64 (s / 2 ^ i) 1 = oneB (hasB s i) := by
  have e : ∀ n : Nat, n < 256 → ∀ i : Nat, i < 8 → bits .and .i64 ((n : Int) / 2 ^ i) 1 = oneB (hasB n i) := by decide +kernel
  obtain ⟨n, rfl⟩ := Int.eq_ofNat_of_zero_le h0
  exact e n (by omega) i hi
theorem or_more {n : Nat} {a : Int} (h : okB n a = true) (h5 : n ≤ 5) (x : Bool) : bits .or .i64 a (wrap64 (oneB x * 2 ^ n)) = a + oneB x * pw n := by
  have e := uptoSets (P := fun u a _ => u ≤ 5 → ∀ x, bits .or .i64 a (wrap64 (oneB x * 2 ^ u.toNat)) = a + oneB x * pw u.toNat) (by decide +kernel) n a a h h (by omega) x
  simpa using e
theorem and_bit : ∀ f : Nat, f < 8 → bits .and .i64 (f : Int) 1 = oneB (bitB f 0) ∧ bits .and .i64 ((f : Int) / 2) 1 = oneB (bitB f 1) ∧ bits .and .i64 ((f : Int) / 4) 1 = oneB (bitB f 2) := by decide +kernel

set_option maxRecDepth 100000 in
set_option maxHeartbeats 4000000 in
theorem with_field (n : Nat) (a b c : Int) (f : Nat) (hok : (Wd.mk n a b c).ok = true) (h5 : n ≤ 5) (hf : f < 8) (w : World) :
    Calls Tryd.prog 77 #[.agg #[.int .i64 n, .int .i64 a, .int .i64 b, .int .i64 c], .int .i64 f] w fun e w' => e = .returned (((Wd.mk n a b c).more f).v) ∧ Below w.heap.size w w' := by
  have HV : Hid (Value.agg #[.int .i64 ((n : Int) + 1), .int .i64 (bits .or .i64 a (wrap64 (bits .and .i64 (f : Int) 1 * 2 ^ n))), .int .i64 (bits .or .i64 b (wrap64 (bits .and .i64 ((f : Int) / 2) 1 * 2 ^ n))), .int .i64 (bits .or .i64 c (wrap64 (bits .and .i64 ((f : Int) / 4) 1 * 2 ^ n)))] = ((Wd.mk n a b c).more f).v) := by
    obtain ⟨h1, h2, h3⟩ := Wd.ok_iff.1 hok
    obtain ⟨e1, e2, e3⟩ := and_bit f hf
    unfold Hid
    rw [e1, e2, e3, or_more h1 h5, or_more h2 h5, or_more h3 h5]
    rfl
  clear hok
  go_enter Tryd.func77, Tryd.ntmps77
  go_wp2
  refine wp_loop_rounds 4 ?_
  rw [rounds_succ]
  go_wp2
  go_region
  go_wp2
  rw [rounds_succ]
  go_wp2
  go_region
  go_wp2
  rw [rounds_succ]
  go_wp2
  go_region
  go_wp2
  rw [rounds_succ]
  go_wp2
  go_returns
  exact ⟨back_v HV.out, by go_grown⟩
end Go.Proofs.YtjaedfjfcghgcaaDoor

namespace Go.Proofs.YtjaedfjfcghgcaaDoor
open Go.ChangeShapes Go.WideShapes Go.ChangeAt Go.RowKit
set_option maxRecDepth 100000

theorem ret_i {k : IntKind} {a b : Int} (h : a = b) : Ending.returned (.int k a) = .returned (.int k b) := by rw [h]
theorem ret_b {a b : Bool} (h : a = b) : Ending.returned (.bool a) = .returned (.bool b) := by rw [h]

theorem refPower_any (n : Nat) (hn : n ≤ 62) (w : World) :
    Calls Tryd.prog 71 #[.int .i64 n] w fun e w' => e = .returned (.int .i64 (pw n)) ∧ w = w' := by
  go_enter Tryd.func71, Tryd.ntmps71
  go_wp2
  go_loop [3, 4] (fun p i => ∃ k : Nat, k ≤ n ∧ i = .int .i64 k ∧ p = .int .i64 (pw k)) (fun _ i => n - (intOf i).toNat)
  case atStart => exact ⟨0, Nat.zero_le _, rfl, rfl⟩
  case round =>
    obtain ⟨k, hk, rfl, rfl⟩ := hrel
    by_cases hlt : k < n
    · have p1 := pw_pos k
      have p2 := pw_le61 (k := k) (by omega)
      have HS : Hid (pw (k + 1) = 2 * pw k) := pw_succ k
      go_wp2
      go_round
      case rel => exact ⟨k + 1, by omega, by go_num, by rw [HS.out]⟩
      case measure => simp [intOf]; omega
    · obtain rfl : k = n := by omega
      go_wp2
      go_ret
      exact ⟨rfl, rfl⟩

theorem refHas_any (s : Int) (i : Nat) (hs : 0 ≤ s) (hm : s ≤ 9223372036854775807) (hi : i ≤ 62) (w : World) :
    Calls Tryd.prog 70 #[.int .i64 s, .int .i64 i] w fun e w' => e = .returned (.bool (hasB s i)) ∧ w = w' := by
  have p1 := pw_pos i
  go_enter Tryd.func70, Tryd.ntmps70
  go_wp2_with (go_at_call 71; refine (refPower_any _ hi _).mono ?_; rintro e w' ⟨rfl, rfl⟩)
  go_ret
  exact ⟨ret_b (has_spell2 s i hs), rfl⟩

end Go.Proofs.YtjaedfjfcghgcaaDoor
