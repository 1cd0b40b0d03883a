/-
  Proved: what vennref2.Span returns; what was in memory is as it was (a contract that the statements of chapter 14 lean on).
  Plain facts on between how many things a term has, as the program goes over all counts once (no program is read here); proved: what span.check returns, of any formula, any row of signs and any number of things; what was in memory is as it was (a contract that the statements lean on).
  Proved: what fields.check returns, of any counts; what was in memory is as it was (a contract that the statements lean on).
-/
import Derived.Test.YtgkgbpbohgklhagDoorLibS7
import Derived.Test.YtgkgbpbohgklhagDoorLibS4
import Derived.Test.YtgkgbpbohgklhagDoorLibS15
import Derived.Test.YtgkgbpbohgklhagDoorLibS13
import Derived.Deep.CutBlock
import Derived.Test.YtgkgbpbohgklhagDoorLibS2
import Derived.Test.YtgkgbpbohgklhagDoorLibS11
import Derived.Test.YtgkgbpbohgklhagDoorLibS3
namespace Go.Proofs.YtgkgbpbohgklhagDoor
open Go.ChangeShapes Go.WideShapes Go.ChangeAt Go.RowKit
set_option maxRecDepth 100000

set_option maxHeartbeats 4000000 in
theorem refSpan_bad (ao : Option Addr) (al acap : Nat) (co : Option Addr) (cl ccap : Nat) (vt : Value) (u e0 e1 E : Int) (w : World)
    (HFm : Hid (∀ W, Below w.heap.size w W → Calls Tryd.prog 22 #[.agg #[.slice ao al acap, .slice co cl ccap]] W fun e w' => e = .returned (.int .i64 e0) ∧ Below W.heap.size W w'))
    (HTm : Hid (∀ W, Below w.heap.size w W → Calls Tryd.prog 37 #[vt] W fun e w' => e = .returned (.int .i64 e1) ∧ w' = W))
    (hor : (¬ e0 = 0 ∧ E = e0) ∨ (e0 = 0 ∧ ¬ e1 = 0 ∧ E = e1) ∨ (e0 = 0 ∧ e1 = 0 ∧ (u < 0 ∨ 6 < u) ∧ E = 1)) :
    Calls Tryd.prog 17 #[.agg #[.slice ao al acap, .slice co cl ccap], vt, .int .i64 u] w fun e w' => e = .returned (.tuple #[.agg (arrP (0, 0)), .int .i64 E]) ∧ Below w.heap.size w w' := by
  obtain ⟨w1, hw1⟩ : ∃ w1, w1 = (w.alloc (.cells #[.slice ao al acap, .slice co cl ccap] 42)).alloc (.cells #[.int .i64 0, .int .i64 0] 48) := ⟨_, rfl⟩
  have HB1 : Hid (Below w.heap.size w w1) := by unfold Hid; rw [hw1]; exact (below_alloc1 _ _).alloc (by simp) _
  have HP0 : Hid (Blk w1 w.heap.size 42 #[.slice ao al acap, .slice co cl ccap]) := by unfold Hid; rw [hw1]; exact (Blk.new _ _ _).old _
  have HP1 : Hid (Blk w1 (w.heap.size + 1) 48 (arrP (0, 0))) := by
    unfold Hid; rw [hw1]
    have := Blk.new (w.alloc (.cells #[.slice ao al acap, .slice co cl ccap] 42)) 48 (arrP (0, 0))
    simp only [World.size_alloc] at this
    exact this
  have x0 : w1.cell? ⟨w.heap.size, 0, none⟩ = some (.slice ao al acap) := HP0.out.cell 0
  have x1 : w1.cell? ⟨w.heap.size, 1, none⟩ = some (.slice co cl ccap) := HP0.out.cell 1
  have HOr : Hid ((¬ e0 = 0 ∧ E = e0) ∨ (e0 = 0 ∧ ¬ e1 = 0 ∧ E = e1) ∨ (e0 = 0 ∧ e1 = 0 ∧ (u < 0 ∨ 6 < u) ∧ E = 1)) := hor
  clear hor
  go_enter Tryd.func17, Tryd.ntmps17
  go_wp2_with fail
  rw [← hw1]
  clear hw1
  go_wp2_with fail
  go_at_call 22
  refine (HFm.out _ HB1.out).mono ?_
  rintro e w2 ⟨rfl, hb⟩
  have HB2 : Hid (Below w.heap.size w w2) := HB1.out.trans (hb.mono HB1.out.size)
  have HP2 : Hid (Blk w2 (w.heap.size + 1) 48 (arrP (0, 0))) := HP1.out.below hb
  clear hb x0 x1
  obtain ⟨p0, p1⟩ := HP2.out.cells2
  obtain ⟨q0, q1⟩ := HP2.out.frozen2
  have hld := loadP (putP_blk HP2.out (0, 0))
  have HLd : Hid _ := hld
  clear hld
  rcases HOr.out with ⟨h1, h2⟩ | ⟨h1, h2, h3⟩ | ⟨h1, h2, h3, h4⟩
  · have d0 : (e0 == 0) = false := by simp [h1]
    have n0 : (e0 != 0) = true := by simp [h1]
    have HE : Hid (E = e0) := h2
    clear h1 h2 HOr
    go_wp2
    refine bodyPost_ret (v := .tuple #[.agg (arrP (0, 0)), .int .i64 e0]) ?_ rfl ⟨by rw [HE.out], ?_⟩
    · rw [results_cell_tmp rfl]
      have hld := HLd.out
      unfold putP arrP at hld
      simp [asAddr, Result.andThen, hld, arrP]
    · exact putP_below HB2.out (by omega) (0, 0)
  · have HE : Hid (E = e1) := h3
    have H0 : Hid (e0 = 0) := h1
    have d1 : (e1 == 0) = false := by simp [h2]
    have n1 : (e1 != 0) = true := by simp [h2]
    clear h1 h2 h3 HOr
    rw [H0.out]
    go_wp2_with fail
    go_at_call 37
    refine (HTm.out _ HB2.out).mono ?_
    rintro e w3 ⟨rfl, hw3⟩
    obtain rfl := hw3
    go_wp2
    refine bodyPost_ret (v := .tuple #[.agg (arrP (0, 0)), .int .i64 e1]) ?_ rfl ⟨by rw [HE.out], ?_⟩
    · rw [results_cell_tmp rfl]
      have hld := HLd.out
      unfold putP arrP at hld
      simp [asAddr, Result.andThen, hld, arrP]
    · exact putP_below HB2.out (by omega) (0, 0)
  · have HE : Hid (E = 1) := h4
    have H0 : Hid (e0 = 0 ∧ e1 = 0) := ⟨h1, h2⟩
    clear h1 h2 h4 HOr
    rw [H0.out.1]
    go_wp2_with fail
    go_at_call 37
    refine (HTm.out _ HB2.out).mono ?_
    rintro e w3 ⟨rfl, hw3⟩
    obtain rfl := hw3
    rw [H0.out.2]
    rcases h3 with h3 | h3
    · go_wp2
      refine bodyPost_ret (v := .tuple #[.agg (arrP (0, 0)), .int .i64 1]) ?_ rfl ⟨by rw [HE.out], ?_⟩
      · rw [results_cell_tmp rfl]
        have hld := HLd.out
        unfold putP arrP at hld
        simp [asAddr, Result.andThen, hld, arrP]
      · exact putP_below HB2.out (by omega) (0, 0)
    · have h3' : ¬ u < 0 := by omega
      go_wp2
      refine bodyPost_ret (v := .tuple #[.agg (arrP (0, 0)), .int .i64 1]) ?_ rfl ⟨by rw [HE.out], ?_⟩
      · rw [results_cell_tmp rfl]
        have hld := HLd.out
        unfold putP arrP at hld
        simp [asAddr, Result.andThen, hld, arrP]
      · exact putP_below HB2.out (by omega) (0, 0)

set_option maxHeartbeats 16000000 in
theorem refSpan_good (ao : Option Addr) (al acap : Nat) (co : Option Addr) (cl ccap : Nat) (vt : Value) (n : Nat) (hn : n ≤ 6) (L : List Wd) (S : Nat → Int × Int) (f : Nat → Bool) (z : Nat → Int) (P : Int × Int) (E : Int) (w : World)
    (HRs : Hid (((S L.length).2 < 0 → P = (0, 0) ∧ E = 5) ∧ (¬ (S L.length).2 < 0 → P = S L.length ∧ E = 0)))
    (HS0 : Hid (S 0 = (100, -1)))
    (HS : Hid (∀ k, k < L.length → S (k + 1) = if f k = true then (if z k < (S k).1 then z k else (S k).1, if (S k).2 < z k then z k else (S k).2) else S k))
    (HLn : Hid (L.length ≤ 1716))
    (HFm : Hid (∀ W, Below w.heap.size w W → Calls Tryd.prog 22 #[.agg #[.slice ao al acap, .slice co cl ccap]] W fun e w' => e = .returned (.int .i64 0) ∧ Below W.heap.size W w'))
    (HTm : Hid (∀ W, Below w.heap.size w W → Calls Tryd.prog 37 #[vt] W fun e w' => e = .returned (.int .i64 0) ∧ w' = W))
    (HWo : Hid (∀ W, Calls Tryd.prog 23 #[.int .i64 n] W fun e w' => (∃ b cap, e = .returned (.slice (some ⟨b, 0, none⟩) L.length cap) ∧ (W.heap.size ≤ b ∧ b < w'.heap.size) ∧ ∀ i D, L[i]? = some D → WdAt w' b (i * 4) D) ∧ Below W.heap.size W w'))
    (HTr : Hid (∀ (k : Nat) D, L[k]? = some D → ∀ W, Below w.heap.size w W → Calls Tryd.prog 38 #[.agg #[.slice ao al acap, .slice co cl ccap], .agg #[.int .i64 D.u, .int .i64 D.a, .int .i64 D.b, .int .i64 D.c]] W fun e w' => e = .returned (.bool (f k)) ∧ Below W.heap.size W w'))
    (HVa : Hid (∀ (k : Nat) D, L[k]? = some D → ∀ W, Below w.heap.size w W → Calls Tryd.prog 39 #[vt, .agg #[.int .i64 D.u, .int .i64 D.a, .int .i64 D.b, .int .i64 D.c]] W fun e w' => (∃ s, e = .returned (.int .i64 s) ∧ ∀ W', Calls Tryd.prog 21 #[.int .i64 s] W' fun e w'' => e = .returned (.int .i64 (z k)) ∧ w'' = W') ∧ Below W.heap.size W w')) :
    Calls Tryd.prog 17 #[.agg #[.slice ao al acap, .slice co cl ccap], vt, .int .i64 n] w fun e w' => e = .returned (.tuple #[.agg (arrP P), .int .i64 E]) ∧ Below w.heap.size w w' := by
  obtain ⟨w1, hw1⟩ : ∃ w1, w1 = (w.alloc (.cells #[.slice ao al acap, .slice co cl ccap] 42)).alloc (.cells #[.int .i64 0, .int .i64 0] 48) := ⟨_, rfl⟩
  have HB1 : Hid (Below w.heap.size w w1) := by unfold Hid; rw [hw1]; exact (below_alloc1 _ _).alloc (by simp) _
  have HP0 : Hid (Blk w1 w.heap.size 42 #[.slice ao al acap, .slice co cl ccap]) := by unfold Hid; rw [hw1]; exact (Blk.new _ _ _).old _
  have HP1 : Hid (Blk w1 (w.heap.size + 1) 48 (arrP (0, 0))) := by
    unfold Hid; rw [hw1]
    have := Blk.new (w.alloc (.cells #[.slice ao al acap, .slice co cl ccap] 42)) 48 (arrP (0, 0))
    simp only [World.size_alloc] at this
    exact this
  have x0 : w1.cell? ⟨w.heap.size, 0, none⟩ = some (.slice ao al acap) := HP0.out.cell 0
  have x1 : w1.cell? ⟨w.heap.size, 1, none⟩ = some (.slice co cl ccap) := HP0.out.cell 1
  have hn0 : (0 : Int) ≤ (n : Int) := by omega
  have hn6 : (n : Int) ≤ 6 := by omega
  go_enter Tryd.func17, Tryd.ntmps17
  go_wp2_with fail
  rw [← hw1]
  clear hw1
  go_wp2_with fail
  go_at_call 22
  refine (HFm.out _ HB1.out).mono ?_
  rintro e w2 ⟨rfl, hb⟩
  have HB2 : Hid (Below w.heap.size w w2) := HB1.out.trans (hb.mono HB1.out.size)
  have HF2 : Hid (Blk w2 w.heap.size 42 #[.slice ao al acap, .slice co cl ccap]) := HP0.out.below hb
  have HP2 : Hid (Blk w2 (w.heap.size + 1) 48 (arrP (0, 0))) := HP1.out.below hb
  clear hb x0 x1
  go_wp2_with fail
  go_at_call 37
  refine (HTm.out _ HB2.out).mono ?_
  rintro e w2' ⟨rfl, hw2'⟩
  obtain rfl := hw2'
  obtain ⟨w3, hw3⟩ : ∃ w3, w3 = w2'.alloc (.cells #[.int .i64 100, .int .i64 (-1)] 48) := ⟨_, rfl⟩
  obtain ⟨G, hG⟩ : ∃ G, G = w2'.heap.size := ⟨_, rfl⟩
  have HB23 : Hid (Below G w2' w3) := by unfold Hid; rw [hw3, hG]; exact below_alloc1 _ _
  have HQ3 : Hid (Blk w3 G 48 (arrP (100, -1))) := by unfold Hid; rw [hw3, hG]; exact Blk.new _ _ _
  have HG : Hid (w.heap.size + 1 < G) := by unfold Hid; rw [hG]; exact HP2.out.lt
  go_upto_region 9 with fail
  rw [← hw3, ← hG]
  clear hw3
  have HGe : Hid (G = w2'.heap.size) := hG
  clear hG
  go_wp2_with fail
  go_at_call 23
  refine (HWo.out _).mono ?_
  rintro e w4 ⟨⟨b, cap, rfl, ⟨hb0, hb1⟩, hat⟩, hb⟩
  have HBG : Hid (G < b) := Nat.lt_of_lt_of_le HQ3.out.lt hb0
  have HB24 : Hid (Below G w2' w4) := HB23.out.trans (hb.mono (Nat.le_of_lt HQ3.out.lt))
  have HQ4 : Hid (Blk w4 G 48 (arrP (100, -1))) := HQ3.out.below hb
  have Hb1 : Hid (b < w4.heap.size) := hb1
  have HAt : Hid (∀ i D, L[i]? = some D → WdAt w4 b (i * 4) D) := hat
  clear hb hb0 hb1 hat
  have hL63 := HLn.out
  go_wp2
  go_loopw [11, 12, 13] (fun i _ _ wr => ∃ k : Nat, k ≤ L.length ∧ i = .int .i64 k ∧ Below G w2' wr ∧ wr.heap[b]? = w4.heap[b]? ∧ Blk wr G 48 (arrP (S k))) (fun i _ _ _ => L.length - (intOf i).toNat)
  case atStart => exact ⟨0, Nat.zero_le _, rfl, HB24.out, rfl, by rw [HS0.out]; exact HQ4.out⟩
  case round =>
    obtain ⟨k, hk, rfl, hbr, hbb, hq⟩ := hrel
    have HBr : Hid (Below G w2' wr) := hbr
    have HBw : Hid (Below w.heap.size w wr) := HB2.out.trans (hbr.mono (by have := HG.out; omega))
    have HBb : Hid (wr.heap[b]? = w4.heap[b]?) := hbb
    obtain ⟨sk, hsk⟩ : ∃ s, s = S k := ⟨_, rfl⟩
    rw [← hsk] at hq
    have HQ : Hid (Blk wr G 48 (arrP sk)) := hq
    have HSk : Hid (sk = S k) := hsk
    clear hbr hbb hq hsk
    by_cases hlt : k < L.length
    · obtain ⟨D, hD⟩ : ∃ D, L[k]? = some D := ⟨_, List.getElem?_eq_getElem hlt⟩
      have HTk : Hid (∀ W, Below wr.heap.size wr W → Calls Tryd.prog 38 #[.agg #[.slice ao al acap, .slice co cl ccap], .agg #[.int .i64 D.u, .int .i64 D.a, .int .i64 D.b, .int .i64 D.c]] W fun e w' => e = .returned (.bool (f k)) ∧ Below wr.heap.size wr w') := fun W hW => (HTr.out k D hD W (HBw.out.trans (hW.mono HBw.out.size))).mono fun e w' ⟨he, hb⟩ => ⟨he, hW.trans (hb.mono hW.size)⟩
      have HVk := HVa.out k D hD
      have HVk' : Hid _ := HVk
      have bw : b < wr.heap.size := by
        have h1 : w4.heap[b]? ≠ none := fun h => by have := Array.getElem?_eq_none_iff.1 h; have := Hb1.out; omega
        rw [← HBb.out] at h1
        rcases Nat.lt_or_ge b wr.heap.size with h | h
        · exact h
        · exact absurd (Array.getElem?_eq_none_iff.2 h) h1
      have HWd : Hid (WdAt wr b (k * 4) D ∧ b < wr.heap.size) := by
        obtain ⟨a0, a1, a2, a3⟩ := HAt.out k D hD
        exact ⟨⟨(World.cell?_of_block (a := ⟨b, k * 4, none⟩) HBb.out).trans a0, (World.cell?_of_block (a := ⟨b, k * 4 + 1, none⟩) HBb.out).trans a1, (World.cell?_of_block (a := ⟨b, k * 4 + 2, none⟩) HBb.out).trans a2, (World.cell?_of_block (a := ⟨b, k * 4 + 3, none⟩) HBb.out).trans a3⟩, bw⟩
      have HSs := HS.out k hlt
      have HSs' : Hid (S (k + 1) = if f k = true then (if z k < sk.1 then z k else sk.1, if sk.2 < z k then z k else sk.2) else sk) := by unfold Hid; rw [HSs, ← HSk.out]
      clear HSs HVk hD bw
      obtain ⟨y0, y1, y2, y3⟩ := HWd.out.1
      have x0 : wr.cell? ⟨w.heap.size, 0, none⟩ = some (.slice ao al acap) := (HBr.out.cell (show w.heap.size < G by have := HG.out; omega)).trans (HF2.out.cell 0)
      have x1 : wr.cell? ⟨w.heap.size, 1, none⟩ = some (.slice co cl ccap) := (HBr.out.cell (show w.heap.size < G by have := HG.out; omega)).trans (HF2.out.cell 1)
      obtain ⟨fk, hfk⟩ : ∃ x, x = f k := ⟨_, rfl⟩
      rw [← hfk] at HTk HSs'
      obtain ⟨zk, hzk⟩ : ∃ x, x = z k := ⟨_, rfl⟩
      rw [← hzk] at HVk' HSs'
      clear hfk hzk
      have hkn : (k : Int) < (L.length : Int) := by omega
      go_upto_region 13 with fail
      go_cut [12] from 37 to 69 (fun x wx => x = .bool fk ∧ Below wr.heap.size wr wx)
      case first =>
        go_region_with (go_at_call 38; refine (HTk.out _ (by first | exact Below.drew (Below.refl _ _) | exact Below.refl _ _)).mono ?_; rintro e w8 ⟨rfl, hb8⟩)
        all_goals (try go_wp2)
        all_goals go_meet
        all_goals exact ⟨rfl, hb8⟩
      case rest =>
        obtain ⟨rfl, hbc⟩ := hcut
        obtain ⟨wf, hwf⟩ : ∃ x, x = wc := ⟨_, rfl⟩
        subst hwf
        have HBf : Hid (Below G w2' wf) := HBr.out.trans (hbc.mono (by have := HQ.out.lt; omega))
        have HBv : Hid (Below w.heap.size w wf) := HBw.out.trans (hbc.mono HBw.out.size)
        have HQf : Hid (Blk wf G 48 (arrP sk)) := HQ.out.below hbc
        have HBg : Hid (wf.heap[b]? = w4.heap[b]?) := (hbc.block b HWd.out.2).trans HBb.out
        have HWf : Hid (WdAt wf b (k * 4) D ∧ b < wf.heap.size) := ⟨HWd.out.1.at hbc HWd.out.2, Nat.lt_of_lt_of_le HWd.out.2 hbc.size⟩
        clear hbc x0 x1 y0 y1 y2 y3
        cases fk with
        | false =>
          have HSn : Hid (S (k + 1) = sk) := by have h := HSs'.out; rw [if_neg (by decide)] at h; exact h
          clear HSs'
          go_wp2
          go_roundw
          case rel => exact ⟨k + 1, by omega, by go_num, HBf.out, HBg.out, by rw [HSn.out]; exact HQf.out⟩
          case measure => simp [intOf]; omega
        | true =>
          have HSn : Hid (S (k + 1) = (if zk < sk.1 then zk else sk.1, if sk.2 < zk then zk else sk.2)) := by have h := HSs'.out; rw [if_pos rfl] at h; exact h
          clear HSs'
          obtain ⟨y0, y1, y2, y3⟩ := HWf.out.1
          go_wp2_with fail
          go_at_call 39
          refine (HVk'.out _ HBv.out).mono ?_
          rintro e w5 ⟨⟨s, rfl, hsz⟩, hb⟩
          have HSz : Hid (∀ W', Calls Tryd.prog 21 #[.int .i64 s] W' fun e w'' => e = .returned (.int .i64 zk) ∧ w'' = W') := hsz
          have HB5 : Hid (Below G w2' w5) := HBf.out.trans (hb.mono (by have := HQf.out.lt; omega))
          have HQ5 : Hid (Blk w5 G 48 (arrP sk)) := HQf.out.below hb
          have HC5 : Hid (w5.heap[b]? = w4.heap[b]?) := (hb.block b HWf.out.2).trans HBg.out
          clear hb hsz y0 y1 y2 y3
          go_wp2_with fail
          go_at_call 21
          refine (HSz.out _).mono ?_
          rintro e w6 ⟨rfl, hw6⟩
          obtain rfl := hw6
          obtain ⟨g0, g1⟩ := HQ5.out.cells2
          obtain ⟨h0, h1⟩ := HQ5.out.frozen2
          have HbG : Hid (b ≠ G) := by have := HBG.out; unfold Hid; omega
          obtain ⟨s1, s2⟩ := sk
          by_cases c1 : zk < s1
          · by_cases c2 : s2 < zk
            · have HSm : Hid (S (k + 1) = (zk, zk)) := by have h := HSn.out; rw [if_pos c1, if_pos c2] at h; exact h
              clear HSn
              go_wp2
              go_roundw
              case rel => exact ⟨k + 1, by omega, by go_num, (HB5.out.setCell (Nat.le_refl _) _).setCell (Nat.le_refl _) _, (heap_setCell_other _ _ _ _ HbG.out).trans ((heap_setCell_other _ _ _ _ HbG.out).trans HC5.out), by rw [HSm.out]; exact putP_blk HQ5.out (zk, zk)⟩
              case measure => simp [intOf]; omega
            · have HSm : Hid (S (k + 1) = (zk, s2)) := by have h := HSn.out; rw [if_pos c1, if_neg c2] at h; exact h
              clear HSn
              go_wp2
              go_roundw
              case rel => exact ⟨k + 1, by omega, by go_num, HB5.out.setCell (Nat.le_refl _) _, (heap_setCell_other _ _ _ _ HbG.out).trans HC5.out, by rw [HSm.out]; exact HQ5.out.set 0 _⟩
              case measure => simp [intOf]; omega
          · by_cases c2 : s2 < zk
            · have HSm : Hid (S (k + 1) = (s1, zk)) := by have h := HSn.out; rw [if_neg c1, if_pos c2] at h; exact h
              clear HSn
              go_wp2
              go_roundw
              case rel => exact ⟨k + 1, by omega, by go_num, HB5.out.setCell (Nat.le_refl _) _, (heap_setCell_other _ _ _ _ HbG.out).trans HC5.out, by rw [HSm.out]; exact HQ5.out.set 1 _⟩
              case measure => simp [intOf]; omega
            · have HSm : Hid (S (k + 1) = (s1, s2)) := by have h := HSn.out; rw [if_neg c1, if_neg c2] at h; exact h
              clear HSn
              go_wp2
              go_roundw
              case rel => exact ⟨k + 1, by omega, by go_num, HB5.out, HC5.out, by rw [HSm.out]; exact HQ5.out⟩
              case measure => simp [intOf]; omega
    · obtain rfl : k = L.length := by omega
      have HRr : Hid (Blk wr (w.heap.size + 1) 48 (arrP (0, 0))) := by unfold Hid Blk; rw [HBr.out.block _ HG.out]; exact HP2.out
      obtain ⟨g0, g1⟩ := HQ.out.cells2
      obtain ⟨p0, p1⟩ := HRr.out.cells2
      obtain ⟨q0, q1⟩ := HRr.out.frozen2
      obtain ⟨s1, s2⟩ := sk
      by_cases c2 : s2 < 0
      · have HLd : Hid _ := loadP (putP_blk HRr.out (0, 0))
        have HE : Hid (P = (0, 0) ∧ E = 5) := HRs.out.1 (by rw [← HSk.out]; exact c2)
        go_wp2
        refine bodyPost_ret (v := .tuple #[.agg (arrP (0, 0)), .int .i64 5]) ?_ rfl ⟨by rw [HE.out.1, HE.out.2], ?_⟩
        · rw [results_cell_tmp rfl]
          have hld := HLd.out
          unfold putP arrP at hld
          simp [asAddr, Result.andThen, hld, arrP]
        · exact putP_below HBw.out (by omega) (0, 0)
      · have HLd : Hid _ := loadP (putP_blk HRr.out (s1, s2))
        have HE : Hid (P = (s1, s2) ∧ E = 0) := by
          have h := HRs.out.2 (by rw [← HSk.out]; first | exact c2 | exact Int.not_lt.1 c2)
          rw [← HSk.out] at h
          exact h
        go_wp2
        refine bodyPost_ret (v := .tuple #[.agg (arrP (s1, s2)), .int .i64 0]) ?_ rfl ⟨by rw [HE.out.1, HE.out.2], ?_⟩
        · rw [results_cell_tmp rfl]
          have hld := HLd.out
          unfold putP arrP at hld
          simp [asAddr, Result.andThen, hld, arrP]
        · exact putP_below HBw.out (by omega) (s1, s2)

theorem refSpan_any (va vc vt : Value) (ats : List At) (c t : List Int) (u : Int) (w : World) (hA : ReadsA w va ats) (hC : Reads w vc c) (hT : Reads w vt t) :
    Calls Tryd.prog 17 #[.agg #[va, vc], vt, .int .i64 u] w fun e w' => e = .returned (.tuple #[.agg (arrP (spanLo ats c t u, spanHi ats c t u)), .int .i64 (spanFault ats c t u)]) ∧ Below w.heap.size w w' := by
  have hFm := fun W (hW : Below w.heap.size w W) => refForm_any va vc ats c W (hA.below hW) (hC.below hW)
  have hTm : ∀ W, Below w.heap.size w W → Calls Tryd.prog 37 #[vt] W fun e w' => e = .returned (.int .i64 (faultN t)) ∧ w' = W := fun W hW => (refTerm_any t vt W (hT.below hW)).mono fun _ _ h => ⟨h.1, h.2.symm⟩
  obtain ⟨ao, acap, rfl, _⟩ := hA.slice
  obtain ⟨co, ccap, rfl, _⟩ := hC.slice
  by_cases hgood : formFault ats c = 0 ∧ faultN t = 0 ∧ 0 ≤ u ∧ u ≤ 6
  · obtain ⟨h1, h2, h3, h4⟩ := hgood
    obtain ⟨n, rfl⟩ := Int.eq_ofNat_of_zero_le h3
    have hn : n ≤ 6 := by omega
    rw [h1] at hFm
    rw [h2] at hTm
    have h0t : 0 < t.length := by have := (fault_zero.1 h2).1; omega
    obtain ⟨bt, ot, ct, rfl, hbt, hct, hcl⟩ : ∃ b off cap, vt = .slice (some ⟨b, off, none⟩) t.length cap ∧ b < w.heap.size ∧ t.length ≤ cap ∧ ∀ k, k < t.length → w.cell? ⟨b, off + k, none⟩ = some (.int .i64 (t.getD k 0)) := by
      rcases hT with ⟨_, _, _, h0⟩ | ⟨b, off, cap, rfl, hb, _, hc, hcell⟩
      · rw [h0] at h0t; simp at h0t
      · exact ⟨b, off, cap, rfl, hb, hc.2, hcell⟩
    have key := refSpan_good ao ats.length acap co c.length ccap (.slice (some ⟨bt, ot, none⟩) t.length ct) n hn (worldsL n) (fun k => spanOver ats c t ((worldsL n).take k)) (fun k => ((worldsL n).getD k ⟨0, 0, 0, 0⟩).formIs ats c) (fun k => pcN (((worldsL n).getD k ⟨0, 0, 0, 0⟩).val t)) (if (spanOver ats c t (worldsL n)).2 < 0 then (0, 0) else spanOver ats c t (worldsL n)) (if (spanOver ats c t (worldsL n)).2 < 0 then 5 else 0) w ⟨fun h => ?_, fun h => ?_⟩ rfl (fun k hk => ?_) (by unfold Hid; rw [worldsL_length]; exact length_everyC hn) hFm hTm (fun W => ?_) (fun k D hD W hW => ?_) (fun k D hD W hW => ?_)
    · refine key.mono ?_
      rintro e w' ⟨rfl, hb⟩
      refine ⟨?_, hb⟩
      have eP : spanP ats c t ((n : Int)).toNat = spanOver ats c t (worldsL n) := by unfold spanP; rw [Int.toNat_natCast]
      by_cases hz : (spanOver ats c t (worldsL n)).2 < 0
      · have ef : spanFault ats c t (n : Int) = 5 := by unfold spanFault; rw [if_pos h1, if_pos h2, if_pos ⟨h3, h4⟩, eP, if_pos hz]
        have el : spanLo ats c t (n : Int) = 0 := by unfold spanLo; rw [if_neg (by rw [ef]; decide)]
        have eh : spanHi ats c t (n : Int) = 0 := by unfold spanHi; rw [if_neg (by rw [ef]; decide)]
        rw [if_pos hz, if_pos hz, ef, el, eh]
      · have ef : spanFault ats c t (n : Int) = 0 := by unfold spanFault; rw [if_pos h1, if_pos h2, if_pos ⟨h3, h4⟩, eP, if_neg hz]
        have el : spanLo ats c t (n : Int) = (spanOver ats c t (worldsL n)).1 := by unfold spanLo; rw [if_pos ef, eP]
        have eh : spanHi ats c t (n : Int) = (spanOver ats c t (worldsL n)).2 := by unfold spanHi; rw [if_pos ef, eP]
        rw [if_neg hz, if_neg hz, ef, el, eh]
    · have h' : (spanOver ats c t (worldsL n)).2 < 0 := by have h : (spanOver ats c t ((worldsL n).take (worldsL n).length)).2 < 0 := h; rw [List.take_length] at h; exact h
      exact ⟨if_pos h', if_pos h'⟩
    · have h' : ¬ (spanOver ats c t (worldsL n)).2 < 0 := by have h : ¬ (spanOver ats c t ((worldsL n).take (worldsL n).length)).2 < 0 := h; rw [List.take_length] at h; exact h
      refine ⟨?_, if_neg h'⟩
      show _ = spanOver ats c t ((worldsL n).take (worldsL n).length)
      rw [if_neg h', List.take_length]
    · show spanOver ats c t ((worldsL n).take (k + 1)) = _
      rw [List.take_add_one, List.getElem?_eq_getElem hk, Option.toList_some, spanOver_add]
      have eD : (worldsL n).getD k ⟨0, 0, 0, 0⟩ = (worldsL n)[k] := by rw [List.getD_eq_getElem?_getD, List.getElem?_eq_getElem hk]; rfl
      simp only [eD]
      rfl
    · refine (refWorlds_new n hn W).mono ?_
      rintro e w' ⟨b, cap, rfl, h1, h2, h3, hb⟩
      exact ⟨⟨b, cap, rfl, ⟨h1, h2⟩, h3⟩, hb⟩
    · have eD : (worldsL n).getD k ⟨0, 0, 0, 0⟩ = D := by rw [List.getD_eq_getElem?_getD, hD]; rfl
      have hok := worldsL_ok hn (List.mem_of_getElem? hD)
      have h := refTrue_any _ _ ats c D.u D.a D.b D.c h1 hok W (hA.below hW) (hC.below hW)
      have e : D.formIs ats c = valF (D.heldL ats) c := by unfold Wd.formIs; rw [if_pos (wdForm_zero.2 ⟨h1, hok⟩)]
      show Calls _ _ _ _ fun e w' => e = .returned (.bool (((worldsL n).getD k ⟨0, 0, 0, 0⟩).formIs ats c)) ∧ _
      rw [eD, e]
      exact h
    · have eD : (worldsL n).getD k ⟨0, 0, 0, 0⟩ = D := by rw [List.getD_eq_getElem?_getD, hD]; rfl
      have hok := worldsL_ok hn (List.mem_of_getElem? hD)
      have hl : Lies W bt ot t := Lies.below ⟨hbt, hcl⟩ hW
      refine (refValue_any t h2 D.u D.a D.b D.c hok bt ot ct hct W hl).mono ?_
      rintro e w' ⟨rfl, hb⟩
      refine ⟨⟨_, rfl, fun W' => ?_⟩, hb⟩
      have hv := ok_val hok t
      have hr := okB_lt hv
      show Calls _ _ _ _ fun e w'' => e = .returned (.int .i64 (pcN (((worldsL n).getD k ⟨0, 0, 0, 0⟩).val t))) ∧ _
      rw [eD]
      exact (refSize_any (D.val t) hr.2.2.1 hr.2.2.2 W').mono fun _ _ h => ⟨h.1, h.2.symm⟩
  · have key : (¬ formFault ats c = 0 ∧ spanFault ats c t u = formFault ats c) ∨ (formFault ats c = 0 ∧ ¬ faultN t = 0 ∧ spanFault ats c t u = faultN t) ∨ (formFault ats c = 0 ∧ faultN t = 0 ∧ (u < 0 ∨ 6 < u) ∧ spanFault ats c t u = 1) := by
      unfold spanFault
      by_cases h1 : formFault ats c = 0
      · right
        rw [if_pos h1]
        by_cases h2 : faultN t = 0
        · right
          rw [if_pos h2]
          have h3 : ¬ (0 ≤ u ∧ u ≤ 6) := fun h => hgood ⟨h1, h2, h.1, h.2⟩
          rw [if_neg h3]
          exact ⟨h1, h2, by omega, rfl⟩
        · left
          rw [if_neg h2]; exact ⟨h1, h2, rfl⟩
      · left
        rw [if_neg h1]; exact ⟨h1, rfl⟩
    have hne : ¬ spanFault ats c t u = 0 := by
      rcases key with ⟨h1, h2⟩ | ⟨_, h1, h2⟩ | ⟨_, _, _, h2⟩
      · rw [h2]; exact h1
      · rw [h2]; exact h1
      · rw [h2]; decide
    have el : spanLo ats c t u = 0 := by unfold spanLo; rw [if_neg hne]
    have eh : spanHi ats c t u = 0 := by unfold spanHi; rw [if_neg hne]
    rw [el, eh]
    exact refSpan_bad ao _ acap co _ ccap vt u _ _ _ w hFm hTm key
end Go.Proofs.YtgkgbpbohgklhagDoor

namespace Go.Proofs.YtgkgbpbohgklhagDoor
open Go.ChangeShapes Go.WideShapes Go.ChangeAt Go.RowKit
set_option maxRecDepth 100000

/-- from one more than all, and one fewer than none. -/
def spanFrom (ats : List At) (c t : List Int) (u : Int) (L : List Wd) : Int × Int := L.foldl (spanStep ats c t) (u + 1, -1)
theorem spanFrom_add (ats : List At) (c t : List Int) (u : Int) (L : List Wd) (D : Wd) : spanFrom ats c t u (L ++ [D]) = spanStep ats c t (spanFrom ats c t u L) D := by
  unfold spanFrom; rw [List.foldl_append]; rfl
theorem span_from {ats : List At} {c t : List Int} {u : Int} : ∀ L : List Wd, (∀ D ∈ L, pcN (D.val t) ≤ u) →
    (spanFrom ats c t u L = (u + 1, -1) ∧ spanOver ats c t L = (100, -1)) ∨ (spanFrom ats c t u L = spanOver ats c t L ∧ 0 ≤ (spanOver ats c t L).1 ∧ (spanOver ats c t L).1 ≤ (spanOver ats c t L).2 ∧ (spanOver ats c t L).2 ≤ 6) := by
  refine revInd ?_ ?_
  · intro _; exact Or.inl ⟨rfl, rfl⟩
  · intro L E ih hL
    have ih := ih fun D hD => hL D (List.mem_append_left _ hD)
    have hE := hL E (by simp)
    have hp := pcN_le (E.val t)
    rw [spanFrom_add, spanOver_add]
    rcases Bool.eq_false_or_eq_true (E.formIs ats c) with hf | hf
    · right
      unfold spanStep
      rw [if_pos hf, if_pos hf]
      rcases ih with ⟨h1, h2⟩ | ⟨h1, h2, h3, h4⟩
      · rw [h1, h2]
        have e1 : pcN (E.val t) < u + 1 := by omega
        have e2 : pcN (E.val t) < 100 := by omega
        have e3 : (-1 : Int) < pcN (E.val t) := by omega
        rw [if_pos e1, if_pos e2, if_pos e3]
        exact ⟨rfl, hp.1, Int.le_refl _, hp.2⟩
      · rw [h1]
        refine ⟨rfl, ?_, ?_, ?_⟩
        · dsimp only
          split <;> omega
        · dsimp only
          split <;> split <;> omega
        · dsimp only
          split <;> omega
    · have es : ∀ p, spanStep ats c t p E = p := fun p => by unfold spanStep; rw [if_neg (by rw [hf]; decide)]
      rw [es, es]
      exact ih
theorem made_size {t : List Int} (ht : faultN t = 0) {N : Nat → Int} (h0 : countsFault N = 0) : pcN ((madeN N 8).val t) = sumIn (liesB t) N 8 := by
  obtain ⟨n, hn⟩ := one_term ht
  rw [size_fields (made_ok h0) hn]
  exact sumIn_same fun f hf => made_fc h0 hf
theorem made_few {t : List Int} (ht : faultN t = 0) {u : Nat} (hu : u ≤ 6) : ∀ D ∈ worldsL u, pcN (D.val t) ≤ u := by
  intro D hD
  unfold worldsL at hD
  obtain ⟨N, hN, rfl⟩ := List.mem_map.1 hD
  have h0 := everyC_right hu hN
  rw [made_size ht h0, ← (everyC_sum hN).2]
  exact (sumIn_le (counts_zero.1 h0).1).2

def spCheckN (ats : List At) (c t : List Int) (u : Int) : Int := if formFault ats c = 0 then (if faultN t = 0 then (if 0 ≤ u ∧ u ≤ 6 then 0 else 1) else faultN t) else formFault ats c

theorem spcheck_form (ao : Option Addr) (al acap : Nat) (co : Option Addr) (cl ccap : Nat) (vt : Value) (u m : Int) (w : World)
    (HF : Hid (∀ W, Below w.heap.size w W → Calls Tryd.prog 31 #[.agg #[.slice ao al acap, .slice co cl ccap]] W fun e w' => e = .returned (.iface 64 (.int .i64 m)) ∧ Below W.heap.size W w')) :
    Calls Tryd.prog 40 #[.agg #[.slice ao al acap, .slice co cl ccap], vt, .int .i64 u] w fun e w' => e = .returned (.iface 64 (.int .i64 m)) ∧ Below w.heap.size w w' := by
  go_enter Tryd.func40, Tryd.ntmps40
  go_wp2_with fail
  go_at_call 31
  refine (HF.out _ (below_alloc1 _ _)).mono ?_
  rintro e w2 ⟨rfl, hb⟩
  have HB : Hid (Below w.heap.size w w2) := (below_alloc1 w _).trans (hb.mono (by simp))
  clear hb
  go_wp2
  go_ret
  exact ⟨rfl, HB.out⟩
theorem spcheck_term (ao : Option Addr) (al acap : Nat) (co : Option Addr) (cl ccap : Nat) (vt : Value) (u m : Int) (w : World)
    (HF : Hid (∀ W, Below w.heap.size w W → Calls Tryd.prog 31 #[.agg #[.slice ao al acap, .slice co cl ccap]] W fun e w' => e = .returned .nilIface ∧ Below W.heap.size W w'))
    (HT : Hid (∀ W, Below w.heap.size w W → Calls Tryd.prog 16 #[vt] W fun e w' => e = .returned (.iface 64 (.int .i64 m)) ∧ W = w')) :
    Calls Tryd.prog 40 #[.agg #[.slice ao al acap, .slice co cl ccap], vt, .int .i64 u] w fun e w' => e = .returned (.iface 64 (.int .i64 m)) ∧ Below w.heap.size w w' := by
  go_enter Tryd.func40, Tryd.ntmps40
  go_wp2_with fail
  go_at_call 31
  refine (HF.out _ (below_alloc1 _ _)).mono ?_
  rintro e w2 ⟨rfl, hb⟩
  have HB : Hid (Below w.heap.size w w2) := (below_alloc1 w _).trans (hb.mono (by simp))
  clear hb
  go_wp2_with fail
  go_at_call 16
  refine (HT.out _ HB.out).mono ?_
  rintro e w3 ⟨rfl, rfl⟩
  go_wp2
  go_ret
  exact ⟨rfl, HB.out⟩
theorem spcheck_good (ao : Option Addr) (al acap : Nat) (co : Option Addr) (cl ccap : Nat) (vt E : Value) (u : Int) (w : World)
    (HF : Hid (∀ W, Below w.heap.size w W → Calls Tryd.prog 31 #[.agg #[.slice ao al acap, .slice co cl ccap]] W fun e w' => e = .returned .nilIface ∧ Below W.heap.size W w'))
    (HT : Hid (∀ W, Below w.heap.size w W → Calls Tryd.prog 16 #[vt] W fun e w' => e = .returned .nilIface ∧ W = w'))
    (HS : Hid (∀ W, Calls Tryd.prog 67 #[.int .i64 u, .int .i64 0] W fun e w' => e = .returned E ∧ W = w')) :
    Calls Tryd.prog 40 #[.agg #[.slice ao al acap, .slice co cl ccap], vt, .int .i64 u] w fun e w' => e = .returned E ∧ Below w.heap.size w w' := by
  go_enter Tryd.func40, Tryd.ntmps40
  go_wp2_with fail
  go_at_call 31
  refine (HF.out _ (below_alloc1 _ _)).mono ?_
  rintro e w2 ⟨rfl, hb⟩
  have HB : Hid (Below w.heap.size w w2) := (below_alloc1 w _).trans (hb.mono (by simp))
  clear hb
  go_wp2_with fail
  go_at_call 16
  refine (HT.out _ HB.out).mono ?_
  rintro e w3 ⟨rfl, rfl⟩
  go_wp2_with fail
  go_at_call 67
  refine (HS.out _).mono ?_
  rintro e w3 ⟨rfl, rfl⟩
  go_wp2
  go_ret
  exact ⟨rfl, HB.out⟩
/-- what is wrong with a formula, a term, or how many things there are. -/
theorem spcheck_any (va vc vt : Value) (ats : List At) (c t : List Int) (u : Int) (w : World) (hA : ReadsA w va ats) (hC : Reads w vc c) (hT : Reads w vt t) (hK : KindsLaid w) :
    Calls Tryd.prog 40 #[.agg #[va, vc], vt, .int .i64 u] w fun e w' => e = .returned (errV (spCheckN ats c t u)) ∧ Below w.heap.size w w' := by
  have hF := fun W (hW : Below w.heap.size w W) => fcheck_any va vc ats c W (hA.below hW) (hC.below hW) (hK.below hW)
  have hTc := fun W (hW : Below w.heap.size w W) => tcheck_any t vt W (hT.below hW)
  obtain ⟨ao, acap, rfl, _⟩ := hA.slice
  obtain ⟨co, ccap, rfl, _⟩ := hC.slice
  unfold spCheckN
  by_cases hf : formFault ats c = 0
  · rw [if_pos hf]
    rw [hf] at hF
    by_cases ht : faultN t = 0
    · rw [if_pos ht]
      rw [ht] at hTc
      by_cases hu : 0 ≤ u ∧ u ≤ 6
      · rw [if_pos hu]
        exact spcheck_good ao _ acap co _ ccap vt _ u w hF hTc fun W => check_ok _ _ (ok_zero hu.1 hu.2) W
      · rw [if_neg hu]
        exact spcheck_good ao _ acap co _ ccap vt _ u w hF hTc fun W => check_no _ _ (okB_not.2 fun h => hu ⟨h.1, h.2.1⟩) W
    · rw [if_neg ht, errV_no ht]
      rw [errV_no ht] at hTc
      exact spcheck_term ao _ acap co _ ccap vt u _ w hF hTc
  · rw [if_neg hf, errV_no hf]
    rw [errV_no hf] at hF
    exact spcheck_form ao _ acap co _ ccap vt u _ w hF
end Go.Proofs.YtgkgbpbohgklhagDoor

namespace Go.Proofs.YtgkgbpbohgklhagDoor
open Go.ChangeShapes Go.WideShapes Go.ChangeAt Go.RowKit

set_option maxRecDepth 100000 in
set_option maxHeartbeats 4000000 in
theorem fcounts_any (N : Nat → Int) (w : World) :
    Calls Tryd.prog 72 #[.agg #[.int .i64 (N 0), .int .i64 (N 1), .int .i64 (N 2), .int .i64 (N 3), .int .i64 (N 4), .int .i64 (N 5), .int .i64 (N 6), .int .i64 (N 7)]] w fun e w' => e = .returned (errV (countsFault N)) ∧ Below w.heap.size w w' := by
  obtain ⟨w1, hw1⟩ : ∃ w1, w1 = w.alloc (.cells #[.int .i64 (N 0), .int .i64 (N 1), .int .i64 (N 2), .int .i64 (N 3), .int .i64 (N 4), .int .i64 (N 5), .int .i64 (N 6), .int .i64 (N 7)] 81) := ⟨_, rfl⟩
  have HW : Hid (Below w.heap.size w w1) := by unfold Hid; rw [hw1]; exact below_alloc1 _ _
  have HX : Hid (∀ k, k < 8 → w1.cell? ⟨w.heap.size, k, none⟩ = some (.int .i64 (N k))) := fun k hk => by
    rw [hw1]
    rcases eight hk with rfl | rfl | rfl | rfl | rfl | rfl | rfl | rfl <;> simp
  obtain ⟨F, hF⟩ : ∃ F, F = countsFault N := ⟨_, rfl⟩
  have HF1 : Hid (∀ k, k < 8 → ¬ (0 ≤ N k ∧ N k ≤ 6) → errV F = .iface 64 (.int .i64 1)) := fun k hk h => by
    rw [hF]; unfold countsFault; rw [if_neg (by rw [eachB_no hk h]; decide)]; rfl
  have HF2 : Hid ((∀ f, f < 8 → 0 ≤ N f ∧ N f ≤ 6) → (sumN N 8 ≤ 6 → errV F = .nilIface) ∧ (6 < sumN N 8 → errV F = .iface 64 (.int .i64 4))) := fun h => by
    rw [hF]; unfold countsFault; rw [if_pos (eachB_iff.2 h)]
    exact ⟨fun h' => by rw [if_pos h']; rfl, fun h' => by rw [if_neg (by omega)]; rfl⟩
  rw [← hF]
  clear hF
  go_enter Tryd.func72, Tryd.ntmps72
  go_wp2
  rw [← hw1]
  clear hw1
  go_loop [6] (fun i => ∃ k : Nat, k ≤ 8 ∧ i = .int .i64 k ∧ ∀ f, f < k → 0 ≤ N f ∧ N f ≤ 6) (fun i => 8 - (intOf i).toNat)
  case atStart => exact ⟨0, Nat.zero_le _, rfl, fun f hf => by omega⟩
  case round =>
    obtain ⟨k, hk, rfl, hall⟩ := hrel
    have HA : Hid (∀ f, f < k → 0 ≤ N f ∧ N f ≤ 6) := hall
    clear hall
    by_cases hlt : k < 8
    · have hc := HX.out k hlt
      obtain ⟨x, hx⟩ : ∃ x, x = N k := ⟨_, rfl⟩
      rw [← hx] at hc
      have HXk : Hid (x = N k) := hx
      clear hx
      by_cases h0 : x < 0
      · have HE : Hid (errV F = .iface 64 (.int .i64 1)) := HF1.out k hlt (by rw [← HXk.out]; omega)
        go_wp2
        go_ret
        exact ⟨back_v HE.out.symm, HW.out⟩
      by_cases h6 : 6 < x
      · have HE : Hid (errV F = .iface 64 (.int .i64 1)) := HF1.out k hlt (by rw [← HXk.out]; omega)
        go_wp2
        go_ret
        exact ⟨back_v HE.out.symm, HW.out⟩
      · have HN : Hid (∀ f, f < k + 1 → 0 ≤ N f ∧ N f ≤ 6) := fun f hf => by
          rcases Nat.lt_or_ge f k with h' | h'
          · exact HA.out f h'
          · obtain rfl : f = k := by omega
            rw [← HXk.out]; omega
        go_wp2
        go_round
        case rel => exact ⟨k + 1, by omega, by go_num, HN.out⟩
        case measure => simp [intOf]; omega
    · obtain rfl : k = 8 := by omega
      go_wp2
      go_loop [4, 21] (fun s i => ∃ k : Nat, k ≤ 8 ∧ i = .int .i64 k ∧ s = .int .i64 (sumN N k)) (fun _ i => 8 - (intOf i).toNat)
      case atStart => exact ⟨0, Nat.zero_le _, rfl, rfl⟩
      case round =>
        obtain ⟨k, hk, rfl, rfl⟩ := hrel
        by_cases hlt2 : k < 8
        · have hc := HX.out k hlt2
          have p1 := sumN_le (N := N) (k := k) fun f hf => HA.out f (by omega)
          have p2 := HA.out k (by omega)
          have HS : Hid (sumN N (k + 1) = sumN N k + N k) := rfl
          go_wp2
          go_round
          case rel => exact ⟨k + 1, by omega, by go_num, by rw [HS.out]⟩
          case measure => simp [intOf]; omega
        · obtain rfl : k = 8 := by omega
          by_cases h6 : sumN N 8 ≤ 6
          · have HE : Hid (errV F = .nilIface) := (HF2.out HA.out).1 h6
            go_wp2
            go_ret
            exact ⟨back_v HE.out.symm, HW.out⟩
          · have h6' : 6 < sumN N 8 := by omega
            have HE : Hid (errV F = .iface 64 (.int .i64 4)) := (HF2.out HA.out).2 h6'
            go_wp2
            go_ret
            exact ⟨back_v HE.out.symm, HW.out⟩
end Go.Proofs.YtgkgbpbohgklhagDoor
