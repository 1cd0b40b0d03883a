/-
  Proved: what form.work returns, of a right Code and which atoms hold: whether the pile's last holds; what was in memory is as it was (a contract that the statements lean on).
  Proved: what term.work returns, of a right term and a right world: the set that the pile comes to; what was in memory is as it was (a contract that the statements lean on).
-/
import Derived.Test.YtjaedfjfcghgcabDoorLibS8
namespace Go.Proofs.YtjaedfjfcghgcabDoor
open Go.ChangeShapes Go.WideShapes Go.ChangeAt Go.RowKit
set_option maxRecDepth 100000

theorem stepF_leaf (held p : List Bool) (s : Int) (h : takesF s = 0) : stepF held p s = p.take p.length ++ [madeF held s []] := by
  unfold stepF restF
  rw [h, madeF_leaf held h, madeF_leaf held h]; rfl
theorem stepF_one (held p : List Bool) (h : 1 ≤ p.length) : stepF held p 12 = p.take (p.length - 1) ++ [madeF held 12 [p.getD (p.length - 1) false]] := by
  unfold stepF restF
  have e : (p.drop (p.length - 1)) = [p.getD (p.length - 1) false] := by
    rw [List.drop_eq_getElem_cons (by omega), List.drop_eq_nil_of_le (by omega)]
    simp [List.getElem?_eq_getElem (show p.length - 1 < p.length by omega)]
  simp only [show takesF 12 = 1 from rfl, show (1 : Int).toNat = 1 from rfl, e]
theorem stepF_two (held p : List Bool) (s : Int) (ht : takesF s = 2) (h : 2 ≤ p.length) : stepF held p s = p.take (p.length - 2) ++ [madeF held s [p.getD (p.length - 2) false, p.getD (p.length - 2 + 1) false]] := by
  unfold stepF restF
  have e : (p.drop (p.length - 2)) = [p.getD (p.length - 2) false, p.getD (p.length - 2 + 1) false] := by
    rw [List.drop_eq_getElem_cons (by omega), List.drop_eq_getElem_cons (by omega), List.drop_eq_nil_of_le (by omega)]
    simp [List.getElem?_eq_getElem (show p.length - 2 < p.length by omega), List.getElem?_eq_getElem (show p.length - 2 + 1 < p.length by omega)]
  rw [ht]
  simp only [show (2 : Int).toNat = 2 from rfl, e]

theorem ownsRow_bool {w : World} {base : Nat} {e : TypeId} {g cap : Nat} {p : List Bool} (h : w.ownsRow base e 1 (.slice (some ⟨g, 0, none⟩) p.length cap) p.length (p.map Value.bool)) {j : Nat} (hj : j < p.length) : w.cell? ⟨g, j, none⟩ = some (.bool (p.getD j false)) := by
  rw [h.cellAt j (by omega)]
  simp [List.getElem?_eq_getElem hj]
/-- what a round leaves. -/
theorem fwork_rel {w1 wr w0 w2 : World} {K : Nat} {v v' : Value} {p q : List Bool} {r : Nat} {X : Bool} (hK : K ≤ wr.heap.size) (hb : Below K w1 wr) (h0 : Below wr.heap.size wr w0)
    (hown : w2.ownsRow K 4 1 v' (r + 1) (((p.take r).map Value.bool) ++ [.bool X])) (hv : ∀ k, v.ownBlock = some k → K ≤ k)
    (hg : w0.grownBy w2 v.ownBlock) (hr : r ≤ p.length) (hq : q = p.take r ++ [X]) :
    w2.ownsRow K 4 1 v' q.length (q.map Value.bool) ∧ Below K w1 w2 ∧ K ≤ w2.heap.size := by
  have hs : wr.heap.size ≤ w0.heap.size := h0.size
  have e1 : q.length = r + 1 := by rw [hq]; simp; omega
  have e2 : q.map Value.bool = ((p.take r).map Value.bool) ++ [.bool X] := by rw [hq]; simp
  have b1 : Below K w1 w0 := hb.trans (h0.mono hK)
  have b2 : Below K w1 w2 := b1.grown hg (by omega) hv
  refine ⟨by rw [e1, e2]; exact hown, b2, ?_⟩
  have := hg.size
  omega

set_option maxHeartbeats 4000000 in
theorem fwork_any (c : List Int) (B off cap : Nat) (held : List Bool) (hb ho hcap : Nat) (w : World) (hs : c.all (signF held.length) = true) (hone : cntF c 0 = some 1) (hl : c.length ≤ 20) (h6 : held.length ≤ 6) (hB : B < w.heap.size)
    (hc : ∀ k, k < c.length → w.cell? ⟨B, off + k, none⟩ = some (.int .i64 (c.getD k 0))) (hR : ReadsB w hb ho held) :
    Calls Tryd.prog 19 #[.slice (some ⟨B, off, none⟩) c.length cap, .slice (some ⟨hb, ho, none⟩) held.length hcap] w fun e w' => e = .returned (.bool (valF held c)) ∧ Below w.heap.size w w' := by
  obtain ⟨i0, hi, hz0, hz1, hz2⟩ := info_parts infoBool
  obtain ⟨K, hK⟩ : ∃ K, K = w.heap.size := ⟨_, rfl⟩
  have HK1 : Hid (w.heap.size = K) := hK.symm
  have HC : Hid (∀ k, k < c.length → w.cell? ⟨B, off + k, none⟩ = some (.int .i64 (c.getD k 0))) := hc
  have HBK : Hid (B < K) := by unfold Hid; omega
  have HRh : Hid (∀ W, Below K w W → ReadsB W hb ho held) := fun W hw => ⟨by have := hw.size; have := hR.1; omega, fun k hk => by rw [hw.cell (show (⟨hb, ho + k, none⟩ : Addr).block < K by have := hR.1; simp; omega)]; exact hR.2 k hk⟩
  rw [← hK]
  clear hc hB hK hR
  obtain ⟨n, hn⟩ : ∃ n, n = c.length := ⟨_, rfl⟩
  rw [← hn] at hl ⊢
  have HN : Hid (n = c.length) := hn
  clear hn
  have HL : Hid (∀ (s : Int) v W, 0 ≤ s → s < held.length → Below K w W → _) := fun s v W s0 s1 hw => fmade_leaf s held s0 s1 h6 hb ho hcap v W (HRh.out W hw)
  obtain ⟨m, hm⟩ : ∃ m, m = held.length := ⟨_, rfl⟩
  rw [← hm] at hs h6 HL ⊢
  clear hm HRh
  have HS : Hid (c.all (signF m) = true) := hs
  have HO : Hid (cntF c 0 = some 1) := hone
  clear hs hone
  obtain ⟨V, hV⟩ : ∃ V, V = valF held c := ⟨_, rfl⟩
  rw [← hV]
  have HV : Hid (V = valF held c) := hV
  clear hV
  go_enter Tryd.func19, Tryd.ntmps19
  go_wp2
  go_loopw [5, 11] (fun v i wr => ∃ (k : Nat) (p : List Bool), k ≤ n ∧ i = .int .i64 k ∧ wr.ownsRow K 4 1 v p.length (p.map Value.bool) ∧ Below K w wr ∧ K ≤ wr.heap.size ∧ p = pileF held (c.take k) [])
    (fun _ i _ => n - (intOf i).toNat)
  case atStart => exact ⟨0, [], Nat.zero_le _, rfl, World.ownsRow_nil _ _ _ _, Below.refl _ _, by rw [HK1.out]; exact Nat.le_refl _, rfl⟩
  case round =>
    obtain ⟨k, p, hk, rfl, hown0, hbel0, hKw0, hp0⟩ := hrel
    have hkt0 : cntF (c.take k) 0 = some (p.length : Int) := by
      obtain ⟨j, hj⟩ := cntF_take_some c k HO.out
      have := pileF_length held (c.take k) [] hj
      rw [← hp0] at this
      rw [this]; exact hj
    by_cases hlt : k < n
    · obtain ⟨s, hs⟩ : ∃ s, s = c.getD k 0 := ⟨_, rfl⟩
      have hkt : k < c.length := by rw [← HN.out]; exact hlt
      have hcell : wr.cell? ⟨B, off + k, none⟩ = some (.int .i64 s) := by rw [hs, hbel0.cell HBK.out]; exact HC.out k hkt
      have hsg : takesF s ≠ 0 ∨ (0 ≤ s ∧ s < m) := by
        refine signF_iff.1 (List.all_eq_true.1 HS.out s ?_)
        rw [hs, List.getD_eq_getElem?_getD, List.getElem?_eq_getElem hkt]; exact List.getElem_mem hkt
      have htk : takesF s ≤ p.length := by
        have h1 := cntF_take_succ c hkt hkt0
        rw [← hs] at h1
        obtain ⟨j, hj⟩ := cntF_take_some c (k + 1) HO.out
        by_cases h2 : (p.length : Int) < takesF s
        · rw [if_pos h2] at h1; rw [h1] at hj; cases hj
        · omega
      have HP : Hid (stepF held p s = pileF held (c.take (k + 1)) []) := by
        unfold Hid; rw [pileF_succ _ c [] hkt, ← hs, ← hp0]
      have hpl : p.length ≤ 20 := by
        have := (cntF_nonneg (Int.le_refl 0) hkt0).2
        simp at this; omega
      clear hs hkt hkt0 hp0
      have HBEL : Hid (Below K w wr) := hbel0
      have HKW : Hid (K ≤ wr.heap.size) := hKw0
      clear hbel0 hKw0
      by_cases h4 : takesF s = 0
      · have hsr : 0 ≤ s ∧ s < m := hsg.resolve_left (by simp [h4])
        have HM : Hid (∀ v W, Below wr.heap.size wr W → Calls Tryd.prog 37 #[.int .i64 s, v, .slice (some ⟨hb, ho, none⟩) m hcap] W fun e w' => e = .returned (.bool (madeF held s [])) ∧ W = w') := fun v W hW => HL.out s v W hsr.1 hsr.2 (HBEL.out.trans (hW.mono HKW.out))
        have HQ : Hid (stepF held p s = p.take p.length ++ [madeF held s []]) := stepF_leaf held p s h4
        have HT : Hid (∀ W, Calls Tryd.prog 32 #[.int .i64 s] W fun e w' => e = .returned (.int .i64 0) ∧ W = w') := fun W => by
          have := ftakes_any s W
          rw [h4] at this; exact this
        obtain ⟨X, hX⟩ : ∃ X, X = madeF held s [] := ⟨_, rfl⟩
        rw [← hX] at HM HQ
        clear hX htk hsg h4
        rcases hown0.2 with ⟨rfl, hp0⟩ | ⟨g, cap', cur, rfl, hg, hh, hm, hmax, _, _⟩
        · obtain rfl : p = [] := List.eq_nil_of_length_eq_zero hp0
          clear hown0 hp0
          go_wp2_with (go_at_call 32; refine (HT.out _).mono ?_; rintro e w' ⟨rfl, rfl⟩)
          go_region_held3 (fun _ => True) (trivial)
            (first
              | (go_at_call 37; refine (HM.out _ _ ((Below.refl _ wr).drew)).mono ?_; rintro e w' ⟨rfl, rfl⟩)
              | (refine step_append_lies _ (by rfl) _ _ _ (by rfl) K 4 i0 (.bool false) 1 1 Tryd.underlying55 hi hz0 hz1 hz2 rfl (by decide) (.slice none 0 0) 0 ([]) (by rfl) (World.ownsRow_nil _ _ _ _) ⟨wr.heap.size, 0, none⟩ 1 1 [.bool X] (by rfl) (by rfl) (World.news_of_block (cs := #[.bool X]) (t := 4) (fr := (0, 0)) (heap_alloc_new wr _)) (by simp [Value.oneCell']) (by omega) (by unfold maxLen; omega) (by omega) (by have := HKW.out; simp; omega) (wr.heap.size + 1) (by simp) ?_; intro gg cap1 w2 hown1 hgrow hat hlt1))
          have R := fwork_rel (q := pileF held (c.take (k + 1)) []) (p := []) (r := 0) HKW.out HBEL.out ((below_alloc1 wr _).drew) (hown1) (by intro k hk; cases hk) hgrow (Nat.zero_le _) (HP.out.symm.trans HQ.out)
          clear hown1 hgrow hat hlt1
          go_wp2
          go_roundw
          case rel => exact ⟨k + 1, _, by omega, by go_num, R.1, R.2.1, R.2.2, rfl⟩
          case measure => simp [intOf]; omega
        · obtain ⟨m', hm0⟩ : ∃ m', m' = p.length := ⟨_, rfl⟩
          have HOW : Hid (wr.ownsRow K 4 1 (.slice (some ⟨g, 0, none⟩) m' cap') m' (p.map Value.bool)) := by
            unfold Hid; rw [hm0]; exact hown0
          rw [← hm0] at HQ hm hpl ⊢
          have HM0 : Hid (m' = p.length) := hm0
          clear hown0 hm0 hh
          by_cases hcap : cap' = m'
          · subst hcap
            go_wp2_with (go_at_call 32; refine (HT.out _).mono ?_; rintro e w' ⟨rfl, rfl⟩)
            go_region_held3 (fun _ => True) (trivial)
              (first
                | (go_at_call 37; refine (HM.out _ _ ((Below.refl _ wr).drew)).mono ?_; rintro e w' ⟨rfl, rfl⟩)
                | (refine step_append_lies _ (by rfl) _ _ _ (by rfl) K 4 i0 (.bool false) 1 1 Tryd.underlying55 hi hz0 hz1 hz2 rfl (by decide) (.slice (some ⟨g, 0, none⟩) cap' cap') cap' ((p.map Value.bool).take cap') (by rfl) (((ownsRow_take HOW.out (by omega)).alloc _).drew) ⟨wr.heap.size, 0, none⟩ 1 1 [.bool X] (by rfl) (by rfl) (World.news_of_block (cs := #[.bool X]) (t := 4) (fr := (0, 0)) (heap_alloc_new wr _)) (by simp [Value.oneCell']) (by omega) (by unfold maxLen; omega) (by omega) (by have := HKW.out; simp; omega) (wr.heap.size + 1) (by simp) ?_; intro gg cap1 w2 hown1 hgrow hat hlt1))
            have R := fwork_rel (q := pileF held (c.take (k + 1)) []) (p := p) (r := cap') HKW.out HBEL.out ((below_alloc1 wr _).drew) (by rw [List.map_take]; exact hown1) (by intro k hk; cases hk; exact hg) hgrow (by have := HM0.out; omega) (HP.out.symm.trans HQ.out)
            clear hown1 hgrow hat hlt1
            go_wp2
            go_roundw
            case rel => exact ⟨k + 1, _, by omega, by go_num, R.1, R.2.1, R.2.2, rfl⟩
            case measure => simp [intOf]; omega
          · go_wp2_with (go_at_call 32; refine (HT.out _).mono ?_; rintro e w' ⟨rfl, rfl⟩)
            go_region_held3 (fun _ => True) (trivial)
              (first
                | (go_at_call 37; refine (HM.out _ _ ((Below.refl _ wr).drew)).mono ?_; rintro e w' ⟨rfl, rfl⟩)
                | (refine step_append_lies _ (by rfl) _ _ _ (by rfl) K 4 i0 (.bool false) 1 1 Tryd.underlying55 hi hz0 hz1 hz2 rfl (by decide) (.slice (some ⟨g, 0, none⟩) m' cap') m' ((p.map Value.bool).take m') (by rfl) (((ownsRow_take HOW.out (by omega)).alloc _).drew) ⟨wr.heap.size, 0, none⟩ 1 1 [.bool X] (by rfl) (by rfl) (World.news_of_block (cs := #[.bool X]) (t := 4) (fr := (0, 0)) (heap_alloc_new wr _)) (by simp [Value.oneCell']) (by omega) (by unfold maxLen; omega) (by omega) (by have := HKW.out; simp; omega) (wr.heap.size + 1) (by simp) ?_; intro gg cap1 w2 hown1 hgrow hat hlt1))
            have R := fwork_rel (q := pileF held (c.take (k + 1)) []) (p := p) (r := m') HKW.out HBEL.out ((below_alloc1 wr _).drew) (by rw [List.map_take]; exact hown1) (by intro k hk; cases hk; exact hg) hgrow (by have := HM0.out; omega) (HP.out.symm.trans HQ.out)
            clear hown1 hgrow hat hlt1
            go_wp2
            go_roundw
            case rel => exact ⟨k + 1, _, by omega, by go_num, R.1, R.2.1, R.2.2, rfl⟩
            case measure => simp [intOf]; omega
      by_cases h8 : s = 12
      · subst h8
        have htk1 : 1 ≤ p.length := by
          rw [show takesF 12 = 1 from rfl] at htk; omega
        have HT : Hid (∀ W, Calls Tryd.prog 32 #[.int .i64 12] W fun e w' => e = .returned (.int .i64 1) ∧ W = w') := fun W => ftakes_any 12 W
        rcases hown0.2 with ⟨rfl, hp0⟩ | ⟨g, cap', cur, rfl, hg, hh, hm, hmax, _, _⟩
        · omega
        · obtain ⟨r, hr⟩ : ∃ r, p.length = r + 1 := ⟨p.length - 1, by omega⟩
          have HM0 : Hid (p.length = r + 1) := hr
          have HOW : Hid (wr.ownsRow K 4 1 (.slice (some ⟨g, 0, none⟩) (r + 1) cap') (r + 1) (p.map Value.bool)) := by
            unfold Hid; rw [← hr]; exact hown0
          have hcx : Hid (∀ W, Below wr.heap.size wr W → W.cell? ⟨g, r, none⟩ = some (.bool (p.getD r false))) := fun W hb => by
            rw [hb.cell (ownsRow_block hown0).2.1]; exact ownsRow_bool hown0 (by omega)
          obtain ⟨x, hx⟩ : ∃ x, x = p.getD r false := ⟨_, rfl⟩
          rw [← hx] at hcx
          have HM : Hid (∀ W c' v, Below wr.heap.size wr W → _) := fun W c' v hb => fmade_no x g r c' v W (hcx.out W hb) held
          have HQ : Hid (stepF held p 12 = p.take r ++ [madeF held 12 [x]]) := by
            have := stepF_one held p (by omega)
            rw [hr, Nat.add_sub_cancel, ← hx] at this; exact this
          obtain ⟨X, hX⟩ : ∃ X, X = madeF held 12 [x] := ⟨_, rfl⟩
          rw [← hX] at HM HQ
          have hle : (r : Int) ≤ (r : Int) + 1 := by omega
          have hcap : ¬ cap' = r := by omega
          have hcap2 : r < cap' := by omega
          have hcap3 : (r : Int) ≤ (cap' : Int) := by omega
          have hr0 : (0 : Int) ≤ (r : Int) := by omega
          rw [hr] at hm hpl ⊢
          clear hX hx hcx hown0 hh hr htk htk1 h4 hsg
          go_wp2_with (go_at_call 32; refine (HT.out _).mono ?_; rintro e w' ⟨rfl, rfl⟩)
          go_region_held3 (fun _ => True) (trivial)
            (first
              | (go_at_call 37; refine (HM.out _ _ _ ((Below.refl _ wr).drew)).mono ?_; rintro e w' ⟨rfl, rfl⟩)
              | (refine step_append_lies _ (by rfl) _ _ _ (by rfl) K 4 i0 (.bool false) 1 1 Tryd.underlying55 hi hz0 hz1 hz2 rfl (by decide) (.slice (some ⟨g, 0, none⟩) r cap') r ((p.map Value.bool).take r) (by rfl) (((ownsRow_take HOW.out (by omega)).alloc _).drew) ⟨wr.heap.size, 0, none⟩ 1 1 [.bool X] (by rfl) (by rfl) (World.news_of_block (cs := #[.bool X]) (t := 4) (fr := (0, 0)) (heap_alloc_new wr _)) (by simp [Value.oneCell']) (by omega) (by unfold maxLen; omega) (by omega) (by have := HKW.out; simp; omega) (wr.heap.size + 1) (by simp) ?_; intro gg cap1 w2 hown1 hgrow hat hlt1))
          have R := fwork_rel (q := pileF held (c.take (k + 1)) []) (p := p) (r := r) HKW.out HBEL.out ((below_alloc1 wr _).drew) (by rw [List.map_take]; exact hown1) (by intro k hk; cases hk; exact hg) hgrow (by have := HM0.out; omega) (HP.out.symm.trans HQ.out)
          clear hown1 hgrow hat hlt1
          go_wp2
          go_roundw
          case rel => exact ⟨k + 1, _, by omega, by go_num, R.1, R.2.1, R.2.2, rfl⟩
          case measure => simp [intOf]; omega
      · have hs3 : s = 10 ∨ s = 11 ∨ s = 13 := by
          by_cases h3 : s = 10 ∨ s = 11 ∨ s = 13
          · exact h3
          · exact absurd (show takesF s = 0 by unfold takesF; rw [if_neg h3, if_neg h8]) h4
        have ht2 : takesF s = 2 := by unfold takesF; rw [if_pos hs3]
        rw [ht2] at htk
        have HT : Hid (∀ W, Calls Tryd.prog 32 #[.int .i64 s] W fun e w' => e = .returned (.int .i64 2) ∧ W = w') := fun W => by
          have := ftakes_any s W
          rw [ht2] at this; exact this
        rcases hown0.2 with ⟨rfl, hp0⟩ | ⟨g, cap', cur, rfl, hg, hh, hm, hmax, _, _⟩
        · omega
        · obtain ⟨r, hr⟩ : ∃ r, p.length = r + 2 := ⟨p.length - 2, by omega⟩
          have HM0 : Hid (p.length = r + 2) := hr
          have HOW : Hid (wr.ownsRow K 4 1 (.slice (some ⟨g, 0, none⟩) (r + 2) cap') (r + 2) (p.map Value.bool)) := by
            unfold Hid; rw [← hr]; exact hown0
          have hcx : Hid (∀ W, Below wr.heap.size wr W → W.cell? ⟨g, r, none⟩ = some (.bool (p.getD r false)) ∧ W.cell? ⟨g, r + 1, none⟩ = some (.bool (p.getD (r + 1) false))) := fun W hb => by
            refine ⟨?_, ?_⟩
            · rw [hb.cell (ownsRow_block hown0).2.1]; exact ownsRow_bool hown0 (by omega)
            · rw [hb.cell (ownsRow_block hown0).2.1]; exact ownsRow_bool hown0 (by omega)
          obtain ⟨x, hx⟩ : ∃ x, x = p.getD r false := ⟨_, rfl⟩
          obtain ⟨y, hy⟩ : ∃ y, y = p.getD (r + 1) false := ⟨_, rfl⟩
          rw [← hx, ← hy] at hcx
          have HM : Hid (∀ W c' v, Below wr.heap.size wr W → _) := fun W c' v hb => fmade_op s x y hs3 g r c' v W (hcx.out W hb).1 (hcx.out W hb).2 held
          have HQ : Hid (stepF held p s = p.take r ++ [madeF held s [x, y]]) := by
            have := stepF_two held p s ht2 (by omega)
            rw [hr, show r + 2 - 2 = r by omega, ← hx, ← hy] at this; exact this
          obtain ⟨X, hX⟩ : ∃ X, X = madeF held s [x, y] := ⟨_, rfl⟩
          rw [← hX] at HM HQ
          have hle : (r : Int) ≤ (r : Int) + 2 := by omega
          have hcap : ¬ cap' = r := by omega
          have hcap2 : r < cap' := by omega
          have hcap3 : (r : Int) ≤ (cap' : Int) := by omega
          have hr0 : (0 : Int) ≤ (r : Int) := by omega
          rw [hr] at hm hpl ⊢
          clear hX hx hy hcx hown0 hh hr htk h4 hsg h8 ht2 hs3
          go_wp2_with (go_at_call 32; refine (HT.out _).mono ?_; rintro e w' ⟨rfl, rfl⟩)
          go_region_held3 (fun _ => True) (trivial)
            (first
              | (go_at_call 37; refine (HM.out _ _ _ ((Below.refl _ wr).drew)).mono ?_; rintro e w' ⟨rfl, rfl⟩)
              | (refine step_append_lies _ (by rfl) _ _ _ (by rfl) K 4 i0 (.bool false) 1 1 Tryd.underlying55 hi hz0 hz1 hz2 rfl (by decide) (.slice (some ⟨g, 0, none⟩) r cap') r ((p.map Value.bool).take r) (by rfl) (((ownsRow_take HOW.out (by omega)).alloc _).drew) ⟨wr.heap.size, 0, none⟩ 1 1 [.bool X] (by rfl) (by rfl) (World.news_of_block (cs := #[.bool X]) (t := 4) (fr := (0, 0)) (heap_alloc_new wr _)) (by simp [Value.oneCell']) (by omega) (by unfold maxLen; omega) (by omega) (by have := HKW.out; simp; omega) (wr.heap.size + 1) (by simp) ?_; intro gg cap1 w2 hown1 hgrow hat hlt1))
          have R := fwork_rel (q := pileF held (c.take (k + 1)) []) (p := p) (r := r) HKW.out HBEL.out ((below_alloc1 wr _).drew) (by rw [List.map_take]; exact hown1) (by intro k hk; cases hk; exact hg) hgrow (by have := HM0.out; omega) (HP.out.symm.trans HQ.out)
          clear hown1 hgrow hat hlt1
          go_wp2
          go_roundw
          case rel => exact ⟨k + 1, _, by omega, by go_num, R.1, R.2.1, R.2.2, rfl⟩
          case measure => simp [intOf]; omega
    · have hpv : p = [V] := by
        rw [hp0, List.take_of_length_le (by have := HN.out; omega), pileF_one held HO.out, HV.out]; rfl
      subst hpv
      rcases hown0.2 with ⟨_, h0⟩ | ⟨g, cap', cur, rfl, hg, hh, hm, hmax, _, _⟩
      · simp at h0
      have hx : wr.cell? ⟨g, 0, none⟩ = some (.bool V) := ownsRow_bool hown0 (j := 0) (by simp)
      have HBEL : Hid (Below K w wr) := hbel0
      clear hown0 hbel0 hh hm hkt0 hp0
      simp only [List.length_singleton]
      go_wp2
      go_ret
      exact ⟨rfl, HBEL.out⟩
end Go.Proofs.YtjaedfjfcghgcabDoor

namespace Go.Proofs.YtjaedfjfcghgcabDoor
open Go.ChangeShapes Go.WideShapes Go.ChangeAt Go.RowKit

/-- behind a draw or some. -/
theorem below_of_drew {w wm : World} (h : Below w.drew.heap.size w.drew wm) : Below w.heap.size w wm := ((Below.refl _ w).drew).trans h

set_option maxRecDepth 100000 in
set_option maxHeartbeats 4000000 in
theorem work_any (u a b c : Int) (t : List Int) (B off cap : Nat) (w : World) (hw : (Wd.mk u a b c).ok = true) (hs : t.all signB = true) (hone : cnt t 0 = some 1) (hl : t.length ≤ 12) (hB : B < w.heap.size)
    (hc : ∀ k, k < t.length → w.cell? ⟨B, off + k, none⟩ = some (.int .i64 (t.getD k 0))) :
    Calls Tryd.prog 47 #[.slice (some ⟨B, off, none⟩) t.length cap, .agg #[.int .i64 u, .int .i64 a, .int .i64 b, .int .i64 c]] w fun e w' => e = .returned (.tuple #[.int .i64 ((Wd.mk u a b c).val t), .nilIface]) ∧ Below w.heap.size w w' := by
  obtain ⟨i0, hi, hz0, hz1, hz2⟩ := info_parts infoInt
  obtain ⟨w1, hw1⟩ : ∃ w1, w1 = w.alloc (.cells #[.int .i64 u, .int .i64 a, .int .i64 b, .int .i64 c] 28) := ⟨_, rfl⟩
  obtain ⟨K, hK⟩ : ∃ K, K = w.heap.size + 1 := ⟨_, rfl⟩
  have HK1 : Hid (w1.heap.size = K) := by unfold Hid; rw [hw1, hK]; simp
  have HC : Hid (∀ k, k < t.length → w1.cell? ⟨B, off + k, none⟩ = some (.int .i64 (t.getD k 0))) := fun k hk => by
    rw [hw1, World.cell?_alloc_lt _ _ ⟨B, off + k, none⟩ hB]; exact hc k hk
  have HX : Hid (w1.cell? ⟨w.heap.size, 0, none⟩ = some (.int .i64 u) ∧ w1.cell? ⟨w.heap.size, 1, none⟩ = some (.int .i64 a) ∧ w1.cell? ⟨w.heap.size, 2, none⟩ = some (.int .i64 b) ∧ w1.cell? ⟨w.heap.size, 3, none⟩ = some (.int .i64 c)) := by
    unfold Hid; rw [hw1]; simp
  have HBK : Hid (B < K ∧ w.heap.size < K) := ⟨by omega, by omega⟩
  have HW : Hid (Below w.heap.size w w1) := by unfold Hid; rw [hw1]; exact below_alloc1 _ _
  have HKs : Hid (w.heap.size ≤ K) := by unfold Hid; omega
  clear hc hB hK
  obtain ⟨n, hn⟩ : ∃ n, n = t.length := ⟨_, rfl⟩
  rw [← hn] at hl ⊢
  have HN : Hid (n = t.length) := hn
  clear hn
  have HOK : Hid ((Wd.mk u a b c).ok = true) := hw
  have HS : Hid (t.all signB = true) := hs
  have HO : Hid (cnt t 0 = some 1) := hone
  clear hw hs hone
  obtain ⟨V, hV⟩ : ∃ V, V = (Wd.mk u a b c).val t := ⟨_, rfl⟩
  rw [← hV]
  have HV : Hid (V = (Wd.mk u a b c).val t) := hV
  clear hV
  go_enter Tryd.func47, Tryd.ntmps47
  go_wp2
  rw [← hw1]
  clear hw1
  go_loopw [6, 14] (fun v i wr => ∃ (k : Nat) (p : List Int), k ≤ n ∧ i = .int .i64 k ∧ wr.ownsRow K 3 1 v p.length (p.map (Value.int .i64)) ∧ Below K w1 wr ∧ K ≤ wr.heap.size ∧ p = (Wd.mk u a b c).pile (t.take k) [])
    (fun _ i _ => n - (intOf i).toNat)
  case atStart => exact ⟨0, [], Nat.zero_le _, rfl, World.ownsRow_nil _ _ _ _, Below.refl _ _, by rw [HK1.out]; exact Nat.le_refl _, rfl⟩
  case round =>
    obtain ⟨k, p, hk, rfl, hown0, hbel0, hKw0, hp0⟩ := hrel
    have hkt0 : cnt (t.take k) 0 = some (p.length : Int) := by
      obtain ⟨m, hm⟩ := cnt_take_some t k HO.out
      have := pile_length (Wd.mk u a b c) (t.take k) [] hm
      rw [← hp0] at this
      rw [this]; exact hm
    by_cases hlt : k < n
    · obtain ⟨s, hs⟩ : ∃ s, s = t.getD k 0 := ⟨_, rfl⟩
      have hkt : k < t.length := by rw [← HN.out]; exact hlt
      have hcell : wr.cell? ⟨B, off + k, none⟩ = some (.int .i64 s) := by rw [hs, hbel0.cell HBK.out.1]; exact HC.out k hkt
      have x0 : wr.cell? ⟨w.heap.size, 0, none⟩ = some (.int .i64 u) := by rw [hbel0.cell HBK.out.2]; exact HX.out.1
      have x1 : wr.cell? ⟨w.heap.size, 1, none⟩ = some (.int .i64 a) := by rw [hbel0.cell HBK.out.2]; exact HX.out.2.1
      have x2 : wr.cell? ⟨w.heap.size, 2, none⟩ = some (.int .i64 b) := by rw [hbel0.cell HBK.out.2]; exact HX.out.2.2.1
      have x3 : wr.cell? ⟨w.heap.size, 3, none⟩ = some (.int .i64 c) := by rw [hbel0.cell HBK.out.2]; exact HX.out.2.2.2
      have hsg : 0 ≤ s ∧ s ≤ 8 := by
        refine signB_iff.1 (List.all_eq_true.1 HS.out s ?_)
        rw [hs, List.getD_eq_getElem?_getD, List.getElem?_eq_getElem hkt]; exact List.getElem_mem hkt
      have htk : takesN s ≤ p.length := by
        have h1 := cnt_take_succ t hkt hkt0
        rw [← hs] at h1
        obtain ⟨m, hm⟩ := cnt_take_some t (k + 1) HO.out
        by_cases h2 : (p.length : Int) < takesN s
        · rw [if_pos h2] at h1; rw [h1] at hm; cases hm
        · omega
      have HP : Hid ((Wd.mk u a b c).step p s = (Wd.mk u a b c).pile (t.take (k + 1)) []) := by
        unfold Hid; rw [pile_succ _ t [] hkt, ← hs, ← hp0]
      have hpl : p.length ≤ 12 := by
        have := (cnt_nonneg (Int.le_refl 0) hkt0).2
        simp at this; omega
      have HOKP : Hid (∀ j, okB u (p.getD j 0) = true) := fun j => by
        rw [hp0]
        exact ok_getD HOK.out (ok_pile HOK.out (t.take k) (p := []) (by intro x hx; cases hx)) j
      clear hs hkt hkt0 hp0
      have HBEL : Hid (Below K w1 wr) := hbel0
      have HKW : Hid (K ≤ wr.heap.size) := hKw0
      clear hbel0 hKw0
      by_cases h4 : s ≤ 4
      · have ht : takesN s = 0 := takes5 s (by omega)
        have HM : Hid (∀ v W, Calls Tryd.prog 52 #[.int .i64 s, v, .agg #[.int .i64 u, .int .i64 a, .int .i64 b, .int .i64 c]] W fun e w' => e = .returned (.tuple #[.int .i64 ((Wd.mk u a b c).made s []), .nilIface]) ∧ Below W.heap.size W w') := fun v W => made_leaf_any u a b c s v W hsg.1 h4 HOK.out
        have HQ : Hid ((Wd.mk u a b c).step p s = p.take p.length ++ [(Wd.mk u a b c).made s []]) := step_leaf _ p s h4
        obtain ⟨X, hX⟩ : ∃ X, X = (Wd.mk u a b c).made s [] := ⟨_, rfl⟩
        rw [← hX] at HM HQ
        clear hX htk hsg h4
        rcases hown0.2 with ⟨rfl, hp0⟩ | ⟨g, cap', cur, rfl, hg, hh, hm, hmax, _, _⟩
        · obtain rfl : p = [] := List.eq_nil_of_length_eq_zero hp0
          clear hown0 hp0
          go_wp2_with (go_at_call 51; refine (takes_any _ _).mono ?_; rintro e w' ⟨rfl, rfl⟩)
          go_region_with (first | (go_at_call 52; refine (HM.out _ _).mono ?_; rintro e wm ⟨rfl, hbm⟩))
          go_wp2_with (first | (at_builtin; refine wpList_append_own _ rfl (.tmp 37) (.tmp 39) 23 rfl K 3 i0 (.int .i64 0) 1 8 Tryd.underlying23 hi hz0 hz1 hz2 rfl (by decide) (.slice none 0 0) 0 [] rfl (World.ownsRow_nil _ _ _ _) ⟨wm.heap.size, 0, none⟩ 1 1 [.int .i64 X] rfl rfl ?a1 ?a2 ?a3 ?a4 ?a5 ?_))
          case a1 =>
            intro j y hj
            match j, hj with
            | 0, hj => simp at hj; subst hj; simp [Addr.add]
          case a2 => intro y hy; simp at hy; subst hy; rfl
          case a3 => unfold maxLen; omega
          case a4 => omega
          case a5 => have h1 := hbm.size; have h2 := HKW.out; simp at h1 ⊢; omega
          intro v' w2 hown' hgrow _
          have R := work_rel (q := (Wd.mk u a b c).pile (t.take (k + 1)) []) HKW.out HBEL.out (below_of_drew hbm) hown' (by intro k hk; cases hk) hgrow (Nat.le_refl _) (HP.out.symm.trans HQ.out)
          clear hown' hgrow hbm
          go_wp2
          go_roundw
          case rel => exact ⟨k + 1, _, by omega, by go_num, R.1, R.2.1, R.2.2, rfl⟩
          case measure => simp [intOf]; omega
        · obtain ⟨m, hm0⟩ : ∃ m, m = p.length := ⟨_, rfl⟩
          have HOW : Hid (wr.ownsRow K 3 1 (.slice (some ⟨g, 0, none⟩) m cap') m (p.map (Value.int .i64))) := by
            unfold Hid; rw [hm0]; exact hown0
          rw [← hm0] at HQ hm hpl ⊢
          have HM0 : Hid (m = p.length) := hm0
          clear hown0 hm0 hh
          by_cases hcap : cap' = m
          · subst hcap
            go_wp2_with (go_at_call 51; refine (takes_any _ _).mono ?_; rintro e w' ⟨rfl, rfl⟩)
            go_region_with (first | (go_at_call 52; refine (HM.out _ _).mono ?_; rintro e wm ⟨rfl, hbm⟩))
            have HOm := ownsRow_below HOW.out (below_of_drew hbm)
            go_wp2_with (first | (at_builtin; refine wpList_append_own _ rfl (.tmp 37) (.tmp 39) 23 rfl K 3 i0 (.int .i64 0) 1 8 Tryd.underlying23 hi hz0 hz1 hz2 rfl (by decide) (.slice (some ⟨g, 0, none⟩) cap' cap') cap' ((p.map (Value.int .i64)).take cap') rfl ((ownsRow_take HOm (by have := HM0.out; omega)).alloc _) ⟨wm.heap.size, 0, none⟩ 1 1 [.int .i64 X] rfl rfl ?e1 ?e2 ?e3 ?e4 ?e5 ?_))
            case e1 =>
              intro j y hj
              match j, hj with
              | 0, hj => simp at hj; subst hj; simp [Addr.add]
            case e2 => intro y hy; simp at hy; subst hy; rfl
            case e3 => unfold maxLen; omega
            case e4 => omega
            case e5 => have h1 := hbm.size; have h2 := HKW.out; simp at h1 ⊢; omega
            intro v' w2 hown' hgrow _
            have R := work_rel (q := (Wd.mk u a b c).pile (t.take (k + 1)) []) HKW.out HBEL.out (below_of_drew hbm) (by rw [List.map_take]; exact hown') (by intro k hk; cases hk; exact hg) hgrow (by have := HM0.out; omega) (HP.out.symm.trans HQ.out)
            clear hown' hgrow hbm HOm
            go_wp2
            go_roundw
            case rel => exact ⟨k + 1, _, by omega, by go_num, R.1, R.2.1, R.2.2, rfl⟩
            case measure => simp [intOf]; omega
          · go_wp2_with (go_at_call 51; refine (takes_any _ _).mono ?_; rintro e w' ⟨rfl, rfl⟩)
            go_region_with (first | (go_at_call 52; refine (HM.out _ _).mono ?_; rintro e wm ⟨rfl, hbm⟩))
            have HOm := ownsRow_below HOW.out (below_of_drew hbm)
            go_wp2_with (first | (at_builtin; refine wpList_append_own _ rfl (.tmp 37) (.tmp 39) 23 rfl K 3 i0 (.int .i64 0) 1 8 Tryd.underlying23 hi hz0 hz1 hz2 rfl (by decide) (.slice (some ⟨g, 0, none⟩) m cap') m ((p.map (Value.int .i64)).take m) rfl ((ownsRow_take HOm (by have := HM0.out; omega)).alloc _) ⟨wm.heap.size, 0, none⟩ 1 1 [.int .i64 X] rfl rfl ?b1 ?b2 ?b3 ?b4 ?b5 ?_))
            case b1 =>
              intro j y hj
              match j, hj with
              | 0, hj => simp at hj; subst hj; simp [Addr.add]
            case b2 => intro y hy; simp at hy; subst hy; rfl
            case b3 => unfold maxLen; omega
            case b4 => omega
            case b5 => have h1 := hbm.size; have h2 := HKW.out; simp at h1 ⊢; omega
            intro v' w2 hown' hgrow _
            have R := work_rel (q := (Wd.mk u a b c).pile (t.take (k + 1)) []) HKW.out HBEL.out (below_of_drew hbm) (by rw [List.map_take]; exact hown') (by intro k hk; cases hk; exact hg) hgrow (by have := HM0.out; omega) (HP.out.symm.trans HQ.out)
            clear hown' hgrow hbm HOm
            go_wp2
            go_roundw
            case rel => exact ⟨k + 1, _, by omega, by go_num, R.1, R.2.1, R.2.2, rfl⟩
            case measure => simp [intOf]; omega
      by_cases h8 : s = 8
      · subst h8
        rw [takes1] at htk
        have ht : takesN 8 = 1 := takes1
        rcases hown0.2 with ⟨rfl, hp0⟩ | ⟨g, cap', cur, rfl, hg, hh, hm, hmax, _, _⟩
        · omega
        · obtain ⟨r, hr⟩ : ∃ r, p.length = r + 1 := ⟨p.length - 1, by omega⟩
          have HM0 : Hid (p.length = r + 1) := hr
          have HOW : Hid (wr.ownsRow K 3 1 (.slice (some ⟨g, 0, none⟩) (r + 1) cap') (r + 1) (p.map (Value.int .i64))) := by
            unfold Hid; rw [← hr]; exact hown0
          have hcx : Hid (∀ W, Below wr.heap.size wr W → W.cell? ⟨g, r, none⟩ = some (.int .i64 (p.getD r 0))) := fun W hb => by
            rw [hb.cell (ownsRow_block hown0).2.1]; exact ownsRow_int hown0 (by omega)
          have HG : Hid (g < wr.heap.size) := (ownsRow_block hown0).2.1
          obtain ⟨x, hx⟩ : ∃ x, x = p.getD r 0 := ⟨_, rfl⟩
          have HX' : Hid (okB u x = true) := by unfold Hid; rw [hx]; exact HOKP.out r
          rw [← hx] at hcx
          have HM : Hid (∀ W c', Below wr.heap.size wr W → Calls Tryd.prog 52 #[.int .i64 8, .slice (some ⟨g, r, none⟩) 1 c', .agg #[.int .i64 u, .int .i64 a, .int .i64 b, .int .i64 c]] W fun e w' => e = .returned (.tuple #[.int .i64 (doN 8 u x x), .nilIface]) ∧ Below W.heap.size W w') := fun W c' hb => made_one_any u a b c 8 x g r c' W (by omega) (by omega) HX'.out (Nat.lt_of_lt_of_le HG.out hb.size) (hcx.out W hb)
          have HQ : Hid ((Wd.mk u a b c).step p 8 = p.take r ++ [doN 8 u x x]) := by
            have := step_one (Wd.mk u a b c) p (by omega)
            rw [hr, Nat.add_sub_cancel, ← hx] at this; exact this
          obtain ⟨X, hX⟩ : ∃ X, X = doN 8 u x x := ⟨_, rfl⟩
          rw [← hX] at HM HQ
          have hle : (r : Int) ≤ (r : Int) + 1 := by omega
          have hcap : ¬ cap' = r := by omega
          have hcap2 : r < cap' := by omega
          rw [hr] at hm hpl ⊢
          clear hX hx hcx hown0 hh hr htk
          go_wp2_with (go_at_call 51; refine (takes_any _ _).mono ?_; rintro e w' ⟨rfl, rfl⟩)
          go_region_with (first | (go_at_call 52; refine (HM.out _ _ ((Below.refl _ wr).drew)).mono ?_; rintro e wm ⟨rfl, hbm⟩))
          have HOm := ownsRow_below HOW.out (below_of_drew hbm)
          go_wp2_with (first | (at_builtin; refine wpList_append_own _ rfl (.tmp 37) (.tmp 39) 23 rfl K 3 i0 (.int .i64 0) 1 8 Tryd.underlying23 hi hz0 hz1 hz2 rfl (by decide) (.slice (some ⟨g, 0, none⟩) r cap') r ((p.map (Value.int .i64)).take r) rfl ((ownsRow_take HOm (by have := HM0.out; omega)).alloc _) ⟨wm.heap.size, 0, none⟩ 1 1 [.int .i64 X] rfl rfl ?c1 ?c2 ?c3 ?c4 ?c5 ?_))
          case c1 =>
            intro j y hj
            match j, hj with
            | 0, hj => simp at hj; subst hj; simp [Addr.add]
          case c2 => intro y hy; simp at hy; subst hy; rfl
          case c3 => unfold maxLen; omega
          case c4 => omega
          case c5 => have h1 := hbm.size; have h2 := HKW.out; simp at h1 ⊢; omega
          intro v' w2 hown' hgrow _
          have R := work_rel (q := (Wd.mk u a b c).pile (t.take (k + 1)) []) HKW.out HBEL.out (below_of_drew hbm) (by rw [List.map_take]; exact hown') (by intro k hk; cases hk; exact hg) hgrow (by have := HM0.out; omega) (HP.out.symm.trans HQ.out)
          clear hown' hgrow hbm HOm
          go_wp2
          go_roundw
          case rel => exact ⟨k + 1, _, by omega, by go_num, R.1, R.2.1, R.2.2, rfl⟩
          case measure => simp [intOf]; omega
      · have h7 : s ≤ 7 := by omega
        have h5 : 5 ≤ s := by omega
        have ht : takesN s = 2 := takes2 s h5 h7
        rw [ht] at htk
        rcases hown0.2 with ⟨rfl, hp0⟩ | ⟨g, cap', cur, rfl, hg, hh, hm, hmax, _, _⟩
        · omega
        · obtain ⟨r, hr⟩ : ∃ r, p.length = r + 2 := ⟨p.length - 2, by omega⟩
          have HM0 : Hid (p.length = r + 2) := hr
          have HOW : Hid (wr.ownsRow K 3 1 (.slice (some ⟨g, 0, none⟩) (r + 2) cap') (r + 2) (p.map (Value.int .i64))) := by
            unfold Hid; rw [← hr]; exact hown0
          have hcx : Hid (∀ W, Below wr.heap.size wr W → W.cell? ⟨g, r, none⟩ = some (.int .i64 (p.getD r 0))) := fun W hb => by
            rw [hb.cell (ownsRow_block hown0).2.1]; exact ownsRow_int hown0 (by omega)
          have hcy : Hid (∀ W, Below wr.heap.size wr W → W.cell? ⟨g, r + 1, none⟩ = some (.int .i64 (p.getD (r + 1) 0))) := fun W hb => by
            rw [hb.cell (ownsRow_block hown0).2.1]; exact ownsRow_int hown0 (by omega)
          have HG : Hid (g < wr.heap.size) := (ownsRow_block hown0).2.1
          obtain ⟨x, hx⟩ : ∃ x, x = p.getD r 0 := ⟨_, rfl⟩
          obtain ⟨y, hy⟩ : ∃ y, y = p.getD (r + 1) 0 := ⟨_, rfl⟩
          have HX' : Hid (okB u x = true) := by unfold Hid; rw [hx]; exact HOKP.out r
          have HY' : Hid (okB u y = true) := by unfold Hid; rw [hy]; exact HOKP.out (r + 1)
          rw [← hx] at hcx
          rw [← hy] at hcy
          have HM : Hid (∀ W c', Below wr.heap.size wr W → Calls Tryd.prog 52 #[.int .i64 s, .slice (some ⟨g, r, none⟩) 2 c', .agg #[.int .i64 u, .int .i64 a, .int .i64 b, .int .i64 c]] W fun e w' => e = .returned (.tuple #[.int .i64 (doN s u x y), .nilIface]) ∧ Below W.heap.size W w') := fun W c' hb => made_two_any u a b c s x y g r c' W (by omega) (by omega) HX'.out HY'.out (Nat.lt_of_lt_of_le HG.out hb.size) (hcx.out W hb) (hcy.out W hb)
          have HQ : Hid ((Wd.mk u a b c).step p s = p.take r ++ [doN s u x y]) := by
            have := step_two (Wd.mk u a b c) p s h5 h7 (by omega)
            rw [hr, Nat.add_sub_cancel, ← hx, ← hy] at this; exact this
          obtain ⟨X, hX⟩ : ∃ X, X = doN s u x y := ⟨_, rfl⟩
          rw [← hX] at HM HQ
          have hle : (r : Int) ≤ (r : Int) + 2 := by omega
          have hcap : ¬ cap' = r := by omega
          have hcap2 : r < cap' := by omega
          rw [hr] at hm hpl ⊢
          clear hX hx hy hcx hcy hown0 hh hr htk h4 h8
          go_wp2_with (go_at_call 51; refine (takes_any _ _).mono ?_; rintro e w' ⟨rfl, rfl⟩)
          go_region_with (first | (go_at_call 52; refine (HM.out _ _ ((Below.refl _ wr).drew)).mono ?_; rintro e wm ⟨rfl, hbm⟩))
          have HOm := ownsRow_below HOW.out (below_of_drew hbm)
          go_wp2_with (first | (at_builtin; refine wpList_append_own _ rfl (.tmp 37) (.tmp 39) 23 rfl K 3 i0 (.int .i64 0) 1 8 Tryd.underlying23 hi hz0 hz1 hz2 rfl (by decide) (.slice (some ⟨g, 0, none⟩) r cap') r ((p.map (Value.int .i64)).take r) rfl ((ownsRow_take HOm (by have := HM0.out; omega)).alloc _) ⟨wm.heap.size, 0, none⟩ 1 1 [.int .i64 X] rfl rfl ?d1 ?d2 ?d3 ?d4 ?d5 ?_))
          case d1 =>
            intro j y hj
            match j, hj with
            | 0, hj => simp at hj; subst hj; simp [Addr.add]
          case d2 => intro y hy; simp at hy; subst hy; rfl
          case d3 => unfold maxLen; omega
          case d4 => omega
          case d5 => have h1 := hbm.size; have h2 := HKW.out; simp at h1 ⊢; omega
          intro v' w2 hown' hgrow _
          have R := work_rel (q := (Wd.mk u a b c).pile (t.take (k + 1)) []) HKW.out HBEL.out (below_of_drew hbm) (by rw [List.map_take]; exact hown') (by intro k hk; cases hk; exact hg) hgrow (by have := HM0.out; omega) (HP.out.symm.trans HQ.out)
          clear hown' hgrow hbm HOm
          go_wp2
          go_roundw
          case rel => exact ⟨k + 1, _, by omega, by go_num, R.1, R.2.1, R.2.2, rfl⟩
          case measure => simp [intOf]; omega
    · obtain rfl : k = n := by omega
      rw [List.take_of_length_le (by rw [← HN.out]; exact Nat.le_refl _)] at hkt0 hp0
      have h1 : p.length = 1 := by
        rw [HO.out] at hkt0
        have := Option.some.inj hkt0
        omega
      have HVp : Hid (p.getD 0 0 = V) := by unfold Hid; rw [HV.out, hp0]; rfl
      have HF : Hid (Below w.heap.size w wr) := HW.out.trans (hbel0.mono HKs.out)
      rcases hown0.2 with ⟨rfl, hp0⟩ | ⟨g, cap', cur, rfl, hg, hh, hm, hmax, _, _⟩
      · omega
      · have hcx : wr.cell? ⟨g, 0, none⟩ = some (.int .i64 V) := by rw [← HVp.out]; exact ownsRow_int hown0 (by omega)
        rw [h1]
        clear hown0 hh hkt0 hp0 hbel0 hKw0
        go_wp2
        go_ret2
        exact ⟨rfl, HF.out⟩
end Go.Proofs.YtjaedfjfcghgcabDoor
