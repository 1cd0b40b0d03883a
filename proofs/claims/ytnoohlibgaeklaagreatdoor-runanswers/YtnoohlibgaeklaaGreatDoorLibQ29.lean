/-
  Facts and contracts that the statement leans on.
-/
import Derived.Test.YtnoohlibgaeklaaGreatDoorLibQ28
import Derived.Test.YtnoohlibgaeklaaGreatDoorLibQ27
import Derived.Test.YtnoohlibgaeklaaGreatDoorLibQ23
import Derived.Test.YtnoohlibgaeklaaGreatDoorLibQ24
import Derived.Test.YtnoohlibgaeklaaGreatDoorLibQ19
import Derived.Test.YtnoohlibgaeklaaGreatDoorLibQ10
namespace Go.Proofs.YtnoohlibgaeklaaGreatDoor
open Go.ChangeShapes Go.WideShapes Go.ChangeAt Go.RowKit
set_option maxRecDepth 100000
set_option maxHeartbeats 16000000
attribute [local go_sem] Oper.semAt_some
theorem four_newS (w : World) (o0 o1 o2 o3 : Obj) :
    ((((w.alloc o0).alloc o1).alloc o2).alloc o3).heap.size = w.heap.size + 4 ∧
    ((((w.alloc o0).alloc o1).alloc o2).alloc o3).heap[w.heap.size]? = some o0 ∧
    ((((w.alloc o0).alloc o1).alloc o2).alloc o3).heap[w.heap.size + 1]? = some o1 ∧
    ((((w.alloc o0).alloc o1).alloc o2).alloc o3).heap[w.heap.size + 1 + 1]? = some o2 ∧
    ((((w.alloc o0).alloc o1).alloc o2).alloc o3).heap[w.heap.size + 1 + 1 + 1]? = some o3 ∧
    Bw w ((((w.alloc o0).alloc o1).alloc o2).alloc o3) := by
 have s1 : (w.alloc o0).heap.size = w.heap.size + 1 := World.size_alloc _ _
 have s2 : ((w.alloc o0).alloc o1).heap.size = w.heap.size + 1 + 1 := by rw [World.size_alloc, s1]
 have s3 : (((w.alloc o0).alloc o1).alloc o2).heap.size = w.heap.size + 1 + 1 + 1 := by rw [World.size_alloc, s2]
 refine ⟨by rw [World.size_alloc, s3], ?_, ?_, ?_, ?_, ?_⟩
 ·rw [Below.heap_alloc _ _ _ (by omega), Below.heap_alloc _ _ _ (by omega), Below.heap_alloc _ _ _ (by omega)]; exact World.alloc_heap_new _ _
 ·rw [Below.heap_alloc _ _ _ (by omega), Below.heap_alloc _ _ _ (by omega), ← s1]; exact World.alloc_heap_new _ _
 ·rw [Below.heap_alloc _ _ _ (by omega), ← s2]; exact World.alloc_heap_new _ _
 ·rw [← s3]; exact World.alloc_heap_new _ _
 ·exact ((((Below.refl _ w).alloc (Nat.le_refl _) _).alloc (by omega) _).alloc (by omega) _).alloc (by omega) _
theorem spof_right (ao : Option Addr) (al acap : Nat) (co : Option Addr) (cl ccap : Nat) (tq : Option Addr) (tl tcap : Nat) (n : Nat) (hn : n ≤ 6) (p : (Nat → Int) → Bool) (q : (Nat → Int) → Int) (P : Nat → Int × Int) (R : Value) (w : World)
    (hC : ∀ W, Bw w W → Calls Tryz.prog 103 #[.agg #[.slice ao al acap, .slice co cl ccap], .slice tq tl tcap, .int .i64 n] W (Bk W .nilIface))
    (hH : ∀ (M : Nat → Int) W, M ∈ everyC n → Bw w W → Calls Tryz.prog 81 #[.agg #[.slice ao al acap, .slice co cl ccap], .agg #[.int .i64 (M 0), .int .i64 (M 1), .int .i64 (M 2), .int .i64 (M 3), .int .i64 (M 4), .int .i64 (M 5), .int .i64 (M 6), .int .i64 (M 7)]] W (Bk W (.tuple #[.bool (p M), .nilIface])))
    (hQ : ∀ (M : Nat → Int) W, M ∈ everyC n → Bw w W → Calls Tryz.prog 104 #[.slice tq tl tcap, .agg #[.int .i64 (M 0), .int .i64 (M 1), .int .i64 (M 2), .int .i64 (M 3), .int .i64 (M 4), .int .i64 (M 5), .int .i64 (M 6), .int .i64 (M 7)]] W (Bk W (.tuple #[.int .i64 (q M), .nilIface])))
    (h0 : P 0 = ((n : Int) + 1, -1)) (h1 : ∀ (k : Nat) (M : Nat → Int), (everyC n)[k]? = some M → P (k + 1) = if p M = true then (if q M < (P k).1 then q M else (P k).1, if (P k).2 < q M then q M else (P k).2) else P k)
    (hR : R = if (P (everyC n).length).2 < (P (everyC n).length).1 then .tuple #[.agg #[.int .i64 0, .int .i64 0], .iface 91 (.int .i64 5)] else .tuple #[.agg (arrP (P (everyC n).length)), .nilIface]) :
    Calls Tryz.prog 67 #[.agg #[.slice ao al acap, .slice co cl ccap], .slice tq tl tcap, .int .i64 n] w (Bk w R) := by
 obtain ⟨A, hA⟩ := nm (everyC n)
 have HC := hide hC
 have HF : Hid (∀ (k : Nat) (M : Nat → Int) W, A[k]? = some M → Bw w W → Calls Tryz.prog 81 #[.agg #[.slice ao al acap, .slice co cl ccap], .agg #[.int .i64 (M 0), .int .i64 (M 1), .int .i64 (M 2), .int .i64 (M 3), .int .i64 (M 4), .int .i64 (M 5), .int .i64 (M 6), .int .i64 (M 7)]] W (Bk W (.tuple #[.bool (p M), .nilIface]))) := fun k M W hM hW => hH M W (by rw [hA] at hM; exact List.mem_of_getElem? hM) hW
 have HQ : Hid (∀ (k : Nat) (M : Nat → Int) W, A[k]? = some M → Bw w W → Calls Tryz.prog 104 #[.slice tq tl tcap, .agg #[.int .i64 (M 0), .int .i64 (M 1), .int .i64 (M 2), .int .i64 (M 3), .int .i64 (M 4), .int .i64 (M 5), .int .i64 (M 6), .int .i64 (M 7)]] W (Bk W (.tuple #[.int .i64 (q M), .nilIface]))) := fun k M W hM hW => hQ M W (by rw [hA] at hM; exact List.mem_of_getElem? hM) hW
 have HS : Hid (∀ Bu W, W.cell? ⟨Bu, 0, none⟩ = some (.int .i64 n) → SeqR 2 Tryz.prog 118 #[.pointer (some ⟨Bu, 0, none⟩)] enc8 A W) := fun Bu W hB => by rw [hA]; exact iter_any n hn 2 (by omega) Bu W hB
 have HP0 := hide h0
 rw [← hA] at h1 hR
 have HP1 := hide h1
 have HR := hide hR
 clear hA hC hH hQ h0 h1 hR
 obtain ⟨hs1, b0, b1, b2, b3, hB1⟩ := four_newS w (.cells #[.slice ao al acap, .slice co cl ccap] 78) (.cells #[.slice tq tl tcap] 62) (.cells #[.int .i64 0, .int .i64 0] 117) (.cells #[.nilIface] 34)
 obtain ⟨w1, hw1⟩ := nm ((((w.alloc (.cells #[.slice ao al acap, .slice co cl ccap] 78)).alloc (.cells #[.slice tq tl tcap] 62)).alloc (.cells #[.int .i64 0, .int .i64 0] 117)).alloc (.cells #[.nilIface] 34))
 rw [← hw1] at hs1 b0 b1 b2 b3 hB1
 have HB1 := hide hB1
 have Hs1 := hide hs1
 have I0 : Hid (Blk w1 w.heap.size 78 #[.slice ao al acap, .slice co cl ccap]) := b0
 have I1 : Hid (Blk w1 (w.heap.size + 1) 62 #[.slice tq tl tcap]) := b1
 have I2 : Hid (Blk w1 (w.heap.size + 1 + 1) 117 (arrP (0, 0))) := b2
 have I3 : Hid (Blk w1 (w.heap.size + 1 + 1 + 1) 34 #[.nilIface]) := b3
 clear hs1 b0 b1 b2 b3 hB1
 refine (callsIn_wide (n := 3)).1 ?_
 refine callsIn_of_wp_marks Tryz.func67 rfl trivial ?_ rfl
 simp only [Tryz.ntmps67, List.size_toArray, List.length_cons, List.length_nil, Nat.reduceAdd, Nat.reduceSub, Array.replicate_succ, Array.replicate_zero, List.push_toArray, List.append_toArray, List.nil_append, List.cons_append]
 gi_upto_region 1 with fail
 rw [← hw1]
 clear hw1
 have i0 : w1.cell? ⟨w.heap.size, 0, none⟩ = some (.slice ao al acap) := I0.out.cell 0
 have i1 : w1.cell? ⟨w.heap.size, 1, none⟩ = some (.slice co cl ccap) := I0.out.cell 1
 have i2 : w1.cell? ⟨w.heap.size + 1, 0, none⟩ = some (.slice tq tl tcap) := I1.out.cell 0
 gi_wp2_with fail
 refine ⟨trivial, ?_⟩
 gi_at_call 103
 refine (callsIn_wide.2 (HC.out _ HB1.out)).mono ?_
 rintro e w2 ⟨rfl, hb2⟩
 have HB2 := bt HB1 hb2
 have J0 := hide (I0.out.below hb2)
 have J1 := hide (I1.out.below hb2)
 have J2 := hide (I2.out.below hb2)
 have J3 := hide (I3.out.below hb2)
 obtain ⟨G, hG⟩ := nm w2.heap.size
 have HG : Hid (w.heap.size + 4 ≤ G) := by unfold Hid; rw [hG, ← Hs1.out]; exact hb2.size
 clear hb2 i0 i1 i2
 gi_wp2_with fail
 refine ⟨trivial, ?_⟩
 gi_at_call 80
 refine (callsIn_wide.2 (fitAll_any _ _)).mono ?_
 rintro e w4 ⟨rfl, rfl⟩
 gi_wp2_with fail
 obtain ⟨wl, hwl⟩ := nm ((w2.alloc (.cells #[.int .i64 ((n : Int) + 1), .int .i64 (-1)] 117)).alloc (.cells #[.int .i64 n] 3))
 have HB0 : Hid (Bw w wl) := by unfold Hid; rw [hwl]; exact (HB2.out.alloc HB2.out.size _).alloc (by rw [World.size_alloc]; exact Nat.le_succ_of_le HB2.out.size) _
 have Hsz : Hid (wl.heap.size = G + 2) := by unfold Hid; rw [hwl, hG, World.size_alloc, World.size_alloc]
 have H0 : Hid (Blk wl w.heap.size 78 #[.slice ao al acap, .slice co cl ccap]) := by unfold Hid; rw [hwl]; exact (J0.out.old _).old _
 have H1 : Hid (Blk wl (w.heap.size + 1) 62 #[.slice tq tl tcap]) := by unfold Hid; rw [hwl]; exact (J1.out.old _).old _
 have H2 : Hid (Blk wl (w.heap.size + 1 + 1) 117 (arrP (0, 0))) := by unfold Hid; rw [hwl]; exact (J2.out.old _).old _
 have H3 : Hid (Blk wl (w.heap.size + 1 + 1 + 1) 34 #[.nilIface]) := by unfold Hid; rw [hwl]; exact (J3.out.old _).old _
 have H4 : Hid (Blk wl G 117 (arrP (P 0))) := by unfold Hid; rw [HP0.out, hwl, hG]; exact (Blk.new _ _ _).old _
 have H5 : Hid (Blk wl (G + 1) 3 #[.int .i64 n]) := by
  unfold Hid; rw [hwl, hG]
  have := Blk.new (w2.alloc (.cells #[.int .i64 ((n : Int) + 1), .int .i64 (-1)] 117)) 3 #[.int .i64 n]
  rw [World.size_alloc] at this
  exact this
 rw [← hwl, ← hG]
 clear hwl hG
 refine wpIn_range_own (by omega) (gf := 118) (lb := #[.pointer (some ⟨G + 1, 0, none⟩)]) rfl (enters_of Tryz.func118 (by kernel_rfl) rfl) (encs := enc8) (A := A)
  (fun W hW => HS.out _ W ((hW.cell (by rw [Hsz.out]; simp)).trans (H5.out.cell 0))) (fun _ => rfl)
  (fun k W => Bw w W ∧ Blk W w.heap.size 78 #[.slice ao al acap, .slice co cl ccap] ∧ Blk W (w.heap.size + 1) 62 #[.slice tq tl tcap] ∧ Blk W (w.heap.size + 1 + 1) 117 (arrP (0, 0)) ∧ Blk W (w.heap.size + 1 + 1 + 1) 34 #[.nilIface] ∧ Blk W G 117 (arrP (P k)))
  (fun _ _ => False)
  (fun k X Y h hb => ⟨h.1.trans (hb.mono (by have := HG.out; rw [Hsz.out]; omega)), h.2.1.keep hb (by have := HG.out; rw [Hsz.out]; omega), h.2.2.1.keep hb (by have := HG.out; rw [Hsz.out]; omega), h.2.2.2.1.keep hb (by have := HG.out; rw [Hsz.out]; omega), h.2.2.2.2.1.keep hb (by have := HG.out; rw [Hsz.out]; omega), h.2.2.2.2.2.keep hb (by rw [Hsz.out]; omega)⟩)
  (fun _ _ _ h _ => h) ⟨HB0.out, H0.out, H1.out, H2.out, H3.out, H4.out⟩ ?round ?done ?stop
 case round =>
  intro ln k x W hx hl1 hl2 ⟨hB, c0, c1, c2, c3, c4⟩
  have HX := hide hx
  have Hl1 : Hid (G + 2 ≤ ln) := by unfold Hid; rw [← Hsz.out]; exact hl1
  have Hl2 := hide hl2
  have HBk := hide hB
  have C0 : Hid (Blk W w.heap.size 78 #[.slice ao al acap, .slice co cl ccap]) := c0
  have C1 : Hid (Blk W (w.heap.size + 1) 62 #[.slice tq tl tcap]) := c1
  have C2 : Hid (Blk W (w.heap.size + 1 + 1) 117 (arrP (0, 0))) := c2
  have C3 : Hid (Blk W (w.heap.size + 1 + 1 + 1) 34 #[.nilIface]) := c3
  have C4 : Hid (Blk W G 117 (arrP (P k))) := c4
  clear hx hl1 hl2 hB c0 c1 c2 c3 c4
  unfold enc8
  gi_wp2
  refine ⟨(Over.refl _ _).alloc _, fun o => ?_⟩
  obtain ⟨W2, hW2⟩ := nm ((W.alloc (.cells #[.int .i64 (x 0), .int .i64 (x 1), .int .i64 (x 2), .int .i64 (x 3), .int .i64 (x 4), .int .i64 (x 5), .int .i64 (x 6), .int .i64 (x 7)] 60)).putObj ln o)
  obtain ⟨Gx, hGx⟩ := nm W.heap.size
  have HB2 : Hid (Bw w W2) := by unfold Hid; rw [hW2]; exact (HBk.out.alloc HBk.out.size _).trans (below_putObj _ _ (by have := Hl1.out; have := HG.out; omega))
  have D0 : Hid (Blk W2 w.heap.size 78 #[.slice ao al acap, .slice co cl ccap]) := by unfold Hid; rw [hW2]; exact (C0.out.old _).putO _ (by have := Hl1.out; have := HG.out; omega)
  have D1 : Hid (Blk W2 (w.heap.size + 1) 62 #[.slice tq tl tcap]) := by unfold Hid; rw [hW2]; exact (C1.out.old _).putO _ (by have := Hl1.out; have := HG.out; omega)
  have D2 : Hid (Blk W2 (w.heap.size + 1 + 1) 117 (arrP (0, 0))) := by unfold Hid; rw [hW2]; exact (C2.out.old _).putO _ (by have := Hl1.out; have := HG.out; omega)
  have D3 : Hid (Blk W2 (w.heap.size + 1 + 1 + 1) 34 #[.nilIface]) := by unfold Hid; rw [hW2]; exact (C3.out.old _).putO _ (by have := Hl1.out; have := HG.out; omega)
  have D4 : Hid (Blk W2 G 117 (arrP (P k))) := by unfold Hid; rw [hW2]; exact (C4.out.old _).putO _ (by have := Hl1.out; omega)
  have D8 : Hid (Blk W2 Gx 60 (arr8 x)) := by unfold Hid; rw [hW2, hGx]; exact (Blk.new _ _ _).putO _ (by have := Hl2.out; omega)
  rw [← hW2, ← hGx]
  clear hW2 hGx
  have HFk := hide (HF.out k x W2 HX.out HB2.out)
  have HM := hide (HP1.out k x HX.out)
  have HQk : Hid (∀ W, Bw w W → Calls Tryz.prog 104 #[.slice tq tl tcap, .agg #[.int .i64 (x 0), .int .i64 (x 1), .int .i64 (x 2), .int .i64 (x 3), .int .i64 (x 4), .int .i64 (x 5), .int .i64 (x 6), .int .i64 (x 7)]] W (Bk W (.tuple #[.int .i64 (q x), .nilIface]))) := fun W => HQ.out k x W HX.out
  obtain ⟨g, hg⟩ := nm (p x)
  obtain ⟨m, hm⟩ := nm (q x)
  obtain ⟨⟨lo, hi⟩, hp⟩ : ∃ r, r = P k := ⟨_, rfl⟩
  rw [← hg] at HFk HM
  rw [← hm] at HM HQk
  rw [← hp] at HM D4
  clear hg hm hp
  have e0 : W2.cell? ⟨w.heap.size, 0, none⟩ = some (.slice ao al acap) := D0.out.cell 0
  have e1 : W2.cell? ⟨w.heap.size, 1, none⟩ = some (.slice co cl ccap) := D0.out.cell 1
  obtain ⟨x0, x1, x2, x3, x4, x5, x6, x7⟩ := D8.out.cells8
  gi_wp2_with fail
  refine ⟨trivial, ?_⟩
  gi_at_call 81
  refine (CallsIn.inRound ln (callsIn_wide.2 HFk.out)).mono ?_
  rintro e W3 ⟨rfl, hb3⟩
  have HB3 := bt HB2 hb3
  have E0 := hide (D0.out.below hb3)
  have E1 := hide (D1.out.below hb3)
  have E2 := hide (D2.out.below hb3)
  have E3 := hide (D3.out.below hb3)
  have E4 := hide (D4.out.below hb3)
  have E8 := hide (D8.out.below hb3)
  have HO3 : Hid (Over wl.heap.size W2 W3) := Over.of_below hb3
  clear hb3 e0 e1 x0 x1 x2 x3 x4 x5 x6 x7
  cases g with
  | true =>
   have HM1 : Hid (P (k + 1) = (if m < lo then m else lo, if hi < m then m else hi)) := by unfold Hid; have h := HM.out; rw [if_pos rfl] at h; exact h
   clear HM
   have e3 : W3.cell? ⟨w.heap.size + 1, 0, none⟩ = some (.slice tq tl tcap) := E1.out.cell 0
   obtain ⟨x0, x1, x2, x3, x4, x5, x6, x7⟩ := E8.out.cells8
   gi_wp2_with fail
   refine ⟨trivial, ?_⟩
   gi_at_call 104
   refine (CallsIn.inRound ln (callsIn_wide.2 (HQk.out _ HB3.out))).mono ?_
   rintro e W4 ⟨rfl, hb4⟩
   have HB4 := bt HB3 hb4
   have F0 := hide (E0.out.below hb4)
   have F1 := hide (E1.out.below hb4)
   have F2 := hide (E2.out.below hb4)
   have F3 := hide (E3.out.below hb4)
   have F4 := hide (E4.out.below hb4)
   have HO4 := hide (HO3.out.trans (Over.of_below hb4))
   clear hb4 e3 x0 x1 x2 x3 x4 x5 x6 x7
   have s0 : W4.cell? ⟨G, 0, none⟩ = some (.int .i64 lo) := F4.out.cell 0
   have s1 : W4.cell? ⟨G, 1, none⟩ = some (.int .i64 hi) := F4.out.cell 1
   have z0 : W4.frozen? ⟨G, 0, none⟩ = false := F4.out.frozen 0
   have z1 : W4.frozen? ⟨G, 1, none⟩ = false := F4.out.frozen 1
   gi_wp2
   all_goals have hM := HM1.out
   all_goals have hg := HG.out
   all_goals refine ⟨(HO4.out.setCell (by rw [Hsz.out]; simp) _).setCell (by rw [Hsz.out]; simp) _, (HB4.out.setCell (by simp; omega) _).setCell (by simp; omega) _, (F0.out.far (by omega) _ _).far (by omega) _ _, (F1.out.far (by omega) _ _).far (by omega) _ _, (F2.out.far (by omega) _ _).far (by omega) _ _, (F3.out.far (by omega) _ _).far (by omega) _ _, ?_⟩
   all_goals show Blk _ _ _ (arrP (P (k + 1)))
   all_goals rw [hM]
   all_goals first
    | (rw [show min lo m = (if m < lo then m else lo) by split <;> omega, show max hi m = (if hi < m then m else hi) by split <;> omega]; exact putP_blk F4.out (_, _))
    | (rw [if_pos (c := m < lo) (by omega), if_pos (c := hi < m) (by omega)]; exact putP_blk F4.out (m, m))
    | (rw [if_pos (c := m < lo) (by omega), if_neg (c := hi < m) (by omega)]; exact putP_blk F4.out (m, hi))
    | (rw [if_neg (c := m < lo) (by omega), if_pos (c := hi < m) (by omega)]; exact putP_blk F4.out (lo, m))
    | (rw [if_neg (c := m < lo) (by omega), if_neg (c := hi < m) (by omega)]; exact putP_blk F4.out (lo, hi))
  | false =>
   have HM1 : Hid (P (k + 1) = (lo, hi)) := by unfold Hid; have h := HM.out; rw [if_neg (by decide)] at h; exact h
   clear HM
   gi_wp2
   have hM := HM1.out
   exact ⟨HO3.out, HB3.out, E0.out, E1.out, E2.out, E3.out, by rw [hM]; exact E4.out⟩
 case done =>
  intro D W hD ⟨hB, c0, c1, c2, c3, c4⟩ hK
  have HD : Hid (G + 2 ≤ D) := by unfold Hid; rw [← Hsz.out]; exact hD
  have HK := hide hK
  have HBk := hide hB
  obtain ⟨⟨lo, hi⟩, hS⟩ : ∃ S, S = P A.length := ⟨_, rfl⟩
  rw [← hS] at c4 HR
  clear hS
  have C2 : Hid (Blk W (w.heap.size + 1 + 1) 117 (arrP (0, 0))) := c2
  have C3 : Hid (Blk W (w.heap.size + 1 + 1 + 1) 34 #[.nilIface]) := c3
  have C4 : Hid (Blk W G 117 (arrP (lo, hi))) := c4
  clear hD hB c0 c1 c2 c3 c4 hK
  have e1 : W.cell? ⟨w.heap.size + 1 + 1, 0, none⟩ = some (.int .i64 0) := C2.out.cell 0
  have e2 : W.cell? ⟨w.heap.size + 1 + 1, 1, none⟩ = some (.int .i64 0) := C2.out.cell 1
  have z1 : W.frozen? ⟨w.heap.size + 1 + 1, 0, none⟩ = false := C2.out.frozen 0
  have z2 : W.frozen? ⟨w.heap.size + 1 + 1, 1, none⟩ = false := C2.out.frozen 1
  have e3 : W.cell? ⟨w.heap.size + 1 + 1 + 1, 0, none⟩ = some .nilIface := C3.out.cell 0
  have z3 : W.frozen? ⟨w.heap.size + 1 + 1 + 1, 0, none⟩ = false := C3.out.frozen 0
  have e4 : W.cell? ⟨G, 0, none⟩ = some (.int .i64 lo) := C4.out.cell 0
  have e5 : W.cell? ⟨G, 1, none⟩ = some (.int .i64 hi) := C4.out.cell 1
  by_cases hlt : hi < lo
  ·have HE : Hid (R = .tuple #[.agg #[.int .i64 0, .int .i64 0], .iface 91 (.int .i64 5)]) := by have h := HR.out; rw [if_pos (show (lo, hi).2 < (lo, hi).1 from hlt)] at h; exact h
   clear HR
   gi_wp2
   have hK' : (((W.setCell ⟨w.heap.size + 1 + 1, 0, none⟩ (.int .i64 0)).setCell ⟨w.heap.size + 1 + 1, 1, none⟩ (.int .i64 0)).setCell ⟨w.heap.size + 1 + 1 + 1, 0, none⟩ (.iface 91 (.int .i64 5))).heap[D]? = some (.deferred (some [])) := by
    have := HD.out
    have := HG.out
    rw [Below.heap_setCell _ _ _ _ (by simp; omega), Below.heap_setCell _ _ _ _ (by simp; omega), Below.heap_setCell _ _ _ _ (by simp; omega)]; exact HK.out
   have r1 : Blk (((W.setCell ⟨w.heap.size + 1 + 1, 0, none⟩ (.int .i64 0)).setCell ⟨w.heap.size + 1 + 1, 1, none⟩ (.int .i64 0)).setCell ⟨w.heap.size + 1 + 1 + 1, 0, none⟩ (.iface 91 (.int .i64 5))) (w.heap.size + 1 + 1) 117 (arrP (0, 0)) := (putP_blk C2.out (0, 0)).far (by omega) _ _
   have r2 : Blk (((W.setCell ⟨w.heap.size + 1 + 1, 0, none⟩ (.int .i64 0)).setCell ⟨w.heap.size + 1 + 1, 1, none⟩ (.int .i64 0)).setCell ⟨w.heap.size + 1 + 1 + 1, 0, none⟩ (.iface 91 (.int .i64 5))) (w.heap.size + 1 + 1 + 1) 34 #[.iface 91 (.int .i64 5)] := ((C3.out.far (by omega) _ _).far (by omega) _ _).set 0 _
   refine ⟨by simp, .inl ⟨_, _, rfl, run_takeDeferred hK', ?_⟩⟩
   have hd := HD.out
   have hg := HG.out
   have l1 := loadP (r1.putO (.deferred none) (l := D) (by omega))
   have l2 := loadE (r2.putO (.deferred none) (l := D) (by omega))
   refine ⟨.tuple #[.agg (arrP (0, 0)), .iface 91 (.int .i64 5)], ?_, by rw [HE.out]; rfl, ?_⟩
   ·rw [results_two rfl]
    simp [asAddr, Result.andThen, l1, l2]
   ·exact (((HBk.out.setCell (by simp; omega) _).setCell (by simp; omega) _).setCell (by simp; omega) _).trans (below_putObj _ _ (by omega))
  ·have HE : Hid (R = .tuple #[.agg (arrP (lo, hi)), .nilIface]) := by have h := HR.out; rw [if_neg (show ¬ (lo, hi).2 < (lo, hi).1 from hlt)] at h; exact h
   clear HR
   gi_wp2
   have hK' : (((W.setCell ⟨w.heap.size + 1 + 1, 0, none⟩ (.int .i64 lo)).setCell ⟨w.heap.size + 1 + 1, 1, none⟩ (.int .i64 hi)).setCell ⟨w.heap.size + 1 + 1 + 1, 0, none⟩ .nilIface).heap[D]? = some (.deferred (some [])) := by
    have := HD.out
    have := HG.out
    rw [Below.heap_setCell _ _ _ _ (by simp; omega), Below.heap_setCell _ _ _ _ (by simp; omega), Below.heap_setCell _ _ _ _ (by simp; omega)]; exact HK.out
   have r1 : Blk (((W.setCell ⟨w.heap.size + 1 + 1, 0, none⟩ (.int .i64 lo)).setCell ⟨w.heap.size + 1 + 1, 1, none⟩ (.int .i64 hi)).setCell ⟨w.heap.size + 1 + 1 + 1, 0, none⟩ .nilIface) (w.heap.size + 1 + 1) 117 (arrP (lo, hi)) := (putP_blk C2.out (lo, hi)).far (by omega) _ _
   have r2 : Blk (((W.setCell ⟨w.heap.size + 1 + 1, 0, none⟩ (.int .i64 lo)).setCell ⟨w.heap.size + 1 + 1, 1, none⟩ (.int .i64 hi)).setCell ⟨w.heap.size + 1 + 1 + 1, 0, none⟩ .nilIface) (w.heap.size + 1 + 1 + 1) 34 #[.nilIface] := ((C3.out.far (by omega) _ _).far (by omega) _ _).set 0 _
   refine ⟨by simp, .inl ⟨_, _, rfl, run_takeDeferred hK', ?_⟩⟩
   have hd := HD.out
   have hg := HG.out
   have l1 := loadP (r1.putO (.deferred none) (l := D) (by omega))
   have l2 := loadE (r2.putO (.deferred none) (l := D) (by omega))
   refine ⟨.tuple #[.agg (arrP (lo, hi)), .nilIface], ?_, by rw [HE.out], ?_⟩
   ·rw [results_two rfl]
    simp [asAddr, Result.andThen, l1, l2]
   ·exact (((HBk.out.setCell (by simp; omega) _).setCell (by simp; omega) _).setCell (by simp; omega) _).trans (below_putObj _ _ (by omega))
 case stop => exact fun _ _ _ _ _ h => h.elim
theorem spof_wrong (ao : Option Addr) (al acap : Nat) (co : Option Addr) (cl ccap : Nat) (tq : Option Addr) (tl tcap : Nat) (u F : Int) (w : World)
    (hC : ∀ W, Bw w W → Calls Tryz.prog 103 #[.agg #[.slice ao al acap, .slice co cl ccap], .slice tq tl tcap, .int .i64 u] W (Bk W (.iface 91 (.int .i64 F)))) :
    Calls Tryz.prog 67 #[.agg #[.slice ao al acap, .slice co cl ccap], .slice tq tl tcap, .int .i64 u] w (Bk w (.tuple #[.agg (arrP (0, 0)), .iface 91 (.int .i64 F)])) := by
 have HC := hide hC
 clear hC
 obtain ⟨hs1, b0, b1, b2, b3, hB1⟩ := four_newS w (.cells #[.slice ao al acap, .slice co cl ccap] 78) (.cells #[.slice tq tl tcap] 62) (.cells #[.int .i64 0, .int .i64 0] 117) (.cells #[.nilIface] 34)
 obtain ⟨w1, hw1⟩ := nm ((((w.alloc (.cells #[.slice ao al acap, .slice co cl ccap] 78)).alloc (.cells #[.slice tq tl tcap] 62)).alloc (.cells #[.int .i64 0, .int .i64 0] 117)).alloc (.cells #[.nilIface] 34))
 rw [← hw1] at hs1 b0 b1 b2 b3 hB1
 have HB1 := hide hB1
 have I0 : Hid (Blk w1 w.heap.size 78 #[.slice ao al acap, .slice co cl ccap]) := b0
 have I1 : Hid (Blk w1 (w.heap.size + 1) 62 #[.slice tq tl tcap]) := b1
 have I2 : Hid (Blk w1 (w.heap.size + 1 + 1) 117 (arrP (0, 0))) := b2
 have I3 : Hid (Blk w1 (w.heap.size + 1 + 1 + 1) 34 #[.nilIface]) := b3
 clear hs1 b0 b1 b2 b3 hB1
 go_enter Tryz.func67, Tryz.ntmps67
 go_upto_region 1 with fail
 rw [← hw1]
 clear hw1
 have i0 : w1.cell? ⟨w.heap.size, 0, none⟩ = some (.slice ao al acap) := I0.out.cell 0
 have i1 : w1.cell? ⟨w.heap.size, 1, none⟩ = some (.slice co cl ccap) := I0.out.cell 1
 have i2 : w1.cell? ⟨w.heap.size + 1, 0, none⟩ = some (.slice tq tl tcap) := I1.out.cell 0
 go_wp2_with fail
 go_at_call 103
 refine (HC.out _ HB1.out).mono ?_
 rintro e w2 ⟨rfl, hb2⟩
 have HB2 := bt HB1 hb2
 have C2 := hide (I2.out.below hb2)
 have C3 := hide (I3.out.below hb2)
 clear hb2 i0 i1 i2
 have e1 : w2.cell? ⟨w.heap.size + 1 + 1, 0, none⟩ = some (.int .i64 0) := C2.out.cell 0
 have e2 : w2.cell? ⟨w.heap.size + 1 + 1, 1, none⟩ = some (.int .i64 0) := C2.out.cell 1
 have z1 : w2.frozen? ⟨w.heap.size + 1 + 1, 0, none⟩ = false := C2.out.frozen 0
 have z2 : w2.frozen? ⟨w.heap.size + 1 + 1, 1, none⟩ = false := C2.out.frozen 1
 have e3 : w2.cell? ⟨w.heap.size + 1 + 1 + 1, 0, none⟩ = some .nilIface := C3.out.cell 0
 have z3 : w2.frozen? ⟨w.heap.size + 1 + 1 + 1, 0, none⟩ = false := C3.out.frozen 0
 go_wp2
 have r1 : Blk (((w2.setCell ⟨w.heap.size + 1 + 1, 0, none⟩ (.int .i64 0)).setCell ⟨w.heap.size + 1 + 1, 1, none⟩ (.int .i64 0)).setCell ⟨w.heap.size + 1 + 1 + 1, 0, none⟩ (.iface 91 (.int .i64 F))) (w.heap.size + 1 + 1) 117 (arrP (0, 0)) := (putP_blk C2.out (0, 0)).far (by omega) _ _
 have r2 : Blk (((w2.setCell ⟨w.heap.size + 1 + 1, 0, none⟩ (.int .i64 0)).setCell ⟨w.heap.size + 1 + 1, 1, none⟩ (.int .i64 0)).setCell ⟨w.heap.size + 1 + 1 + 1, 0, none⟩ (.iface 91 (.int .i64 F))) (w.heap.size + 1 + 1 + 1) 34 #[.iface 91 (.int .i64 F)] := ((C3.out.far (by omega) _ _).far (by omega) _ _).set 0 _
 have l1 := loadP r1
 have l2 := loadE r2
 refine bodyPost_ret (v := .tuple #[.agg (arrP (0, 0)), .iface 91 (.int .i64 F)]) ?_ rfl ⟨rfl, ?_⟩
 ·rw [results_two rfl]
  simp [asAddr, Result.andThen, l1, l2]
 ·exact ((HB2.out.setCell (by simp; omega) _).setCell (by simp; omega) _).setCell (by simp; omega) _
theorem spanOf_any (va vc vt : Value) (ats : List At) (c t : List Int) (u : Int) (w : World) (hA : ReadsA w va ats) (hC : Reads w vc c) (hT : Reads w vt t) (hK : KindsLaid w) :
    Calls Tryz.prog 67 #[.agg #[va, vc], vt, .int .i64 u] w (Bk w (.tuple #[.agg (arrP (spanLo ats c t u, spanHi ats c t u)), errV (spanFault ats c t u)])) := by
 have hCk := fun W (hW : Bw w W) => spcheck_any va vc vt ats c t u W (hA.below hW) (hC.below hW) (hT.below hW) (hK.below hW)
 have hH := fun (N : Nat → Int) W (hW : Bw w W) => wholds_any va vc ats c N W (hA.below hW) (hC.below hW) (hK.below hW)
 have hQ := fun (N : Nat → Int) W (hW : Bw w W) => count_any t vt N W (hT.below hW)
 obtain ⟨ao, acap, rfl, _⟩ := hA.slice
 obtain ⟨co, ccap, rfl, _⟩ := hC.slice
 obtain ⟨tq, tcap, rfl, _⟩ := hT.slice
 by_cases h0 : spCheckN ats c t u = 0
 ·rw [h0] at hCk
  have hgood : formFault ats c = 0 ∧ faultN t = 0 ∧ (0 ≤ u ∧ u ≤ 6) := by
   unfold spCheckN at h0
   by_cases h1 : formFault ats c = 0
   ·rw [if_pos h1] at h0
    by_cases h2 : faultN t = 0
    ·rw [if_pos h2] at h0
     by_cases h3 : 0 ≤ u ∧ u ≤ 6
     ·exact ⟨h1, h2, h3⟩
     ·rw [if_neg h3] at h0; exact absurd h0 (by decide)
    ·rw [if_neg h2] at h0; exact absurd h0 h2
   ·rw [if_neg h1] at h0; exact absurd h0 h1
  obtain ⟨h1, h2, h3⟩ := hgood
  obtain ⟨n, rfl⟩ := Int.eq_ofNat_of_zero_le h3.1
  have hn : n ≤ 6 := by omega
  refine spof_right ao _ acap co _ ccap tq _ tcap n hn (fun N => (madeN N 8).formIs ats c) (fun N => sumIn (liesB t) N 8) (fun k => spanFrom ats c t n ((worldsL n).take k)) _ w hCk (fun M W hM hW => hH M W hW h1 (everyC_right hn hM)) (fun M W hM hW => ?_) rfl (fun k M hM => ?_) ?_
  ·have h := hQ M W hW
   have e0 : countFault t M = 0 := by unfold countFault; rw [if_pos h2]; exact everyC_right hn hM
   have e1 : countN t M = sumIn (liesB t) M 8 := by unfold countN; rw [if_pos e0]
   rw [e0, e1] at h
   exact h
  ·have hk : (worldsL n)[k]? = some (madeN M 8) := by unfold worldsL; rw [List.getElem?_map, hM]; rfl
   show spanFrom ats c t n ((worldsL n).take (k + 1)) = _
   rw [List.take_add_one, hk]
   show spanFrom ats c t n ((worldsL n).take k ++ [madeN M 8]) = _
   rw [spanFrom_add]
   unfold spanStep
   rw [made_size h2 (everyC_right hn (List.mem_of_getElem? hM))]
  ·have el : (worldsL n).take (everyC n).length = worldsL n := by rw [← worldsL_length, List.take_length]
   show _ = if (spanFrom ats c t n ((worldsL n).take (everyC n).length)).2 < (spanFrom ats c t n ((worldsL n).take (everyC n).length)).1 then _ else Value.tuple #[.agg (arrP (spanFrom ats c t n ((worldsL n).take (everyC n).length))), .nilIface]
   rw [el]
   rcases span_from (ats := ats) (c := c) (t := t) (u := (n : Int)) (worldsL n) (made_few h2 hn) with ⟨g1, g2⟩ | ⟨g1, g2, g3, g4⟩
   ·rw [g1, if_pos (by show (-1 : Int) < (n : Int) + 1; omega)]
    have e0 : spanFault ats c t (n : Int) = 5 := by
     unfold spanFault; rw [if_pos h1, if_pos h2, if_pos h3, if_pos]
     rw [Int.toNat_natCast]; unfold spanP; rw [g2]; decide
    have e1 : spanLo ats c t (n : Int) = 0 := by unfold spanLo; rw [if_neg (by rw [e0]; decide)]
    have e2 : spanHi ats c t (n : Int) = 0 := by unfold spanHi; rw [if_neg (by rw [e0]; decide)]
    rw [e0, e1, e2]; rfl
   ·rw [g1, if_neg (by omega)]
    have e0 : spanFault ats c t (n : Int) = 0 := by
     unfold spanFault; rw [if_pos h1, if_pos h2, if_pos h3, if_neg]
     rw [Int.toNat_natCast]; unfold spanP; omega
    have e1 : spanLo ats c t (n : Int) = (spanOver ats c t (worldsL n)).1 := by unfold spanLo; rw [if_pos e0, Int.toNat_natCast]; rfl
    have e2 : spanHi ats c t (n : Int) = (spanOver ats c t (worldsL n)).2 := by unfold spanHi; rw [if_pos e0, Int.toNat_natCast]; rfl
    rw [e0, e1, e2]; rfl
 ·rw [errV_no h0] at hCk
  have e0 : spanFault ats c t u = spCheckN ats c t u := by
   unfold spCheckN at h0 ⊢
   unfold spanFault
   by_cases h1 : formFault ats c = 0
   ·rw [if_pos h1] at h0 ⊢
    rw [if_pos h1]
    by_cases h2 : faultN t = 0
    ·rw [if_pos h2] at h0 ⊢
     rw [if_pos h2]
     by_cases h3 : 0 ≤ u ∧ u ≤ 6
     ·rw [if_pos h3] at h0; exact absurd rfl h0
     ·rw [if_neg h3, if_neg h3]
    ·rw [if_neg h2, if_neg h2]
   ·rw [if_neg h1, if_neg h1]
  have e1 : spanLo ats c t u = 0 := by unfold spanLo; rw [if_neg (by rw [e0]; exact h0)]
  have e2 : spanHi ats c t u = 0 := by unfold spanHi; rw [if_neg (by rw [e0]; exact h0)]
  rw [e0, e1, e2, errV_no h0]
  exact spof_wrong ao _ acap co _ ccap tq _ tcap u _ w hCk
end Go.Proofs.YtnoohlibgaeklaaGreatDoor
namespace Go.Proofs.YtnoohlibgaeklaaGreatDoor
open Go.ChangeShapes Go.WideShapes Go.ChangeAt Go.RowKit
set_option maxRecDepth 100000
set_option maxHeartbeats 16000000
attribute [local go_sem] Oper.semAt_some
theorem int_reads {W : World} {C : Nat} {x : Int} (hC : Blk W C 3 #[.int .i64 x]) : Reads W (.slice (some ⟨C, 0, none⟩) 1 1) [x] :=
 Or.inr ⟨C, 0, 1, rfl, hC.lt, by simp, ⟨by simp, by simp⟩, fun j hj => by
  obtain rfl : j = 0 := by simp at hj; exact hj
  exact hC.cell 0⟩
theorem one_reads {W : World} {G C : Nat} {a : At} {vs vt : Value} (hA : Blk W G 71 #[.int .i64 a.k, vs, vt, .int .i64 a.n]) (hS : Reads W vs a.s) (hT : Reads W vt a.t) (hC : Blk W C 3 #[.int .i64 0]) :
    ReadsA W (.slice (some ⟨G, 0, none⟩) 1 1) [a] ∧ Reads W (.slice (some ⟨C, 0, none⟩) 1 1) [0] := by
 refine ⟨Or.inr ⟨G, 0, 1, rfl, hA.lt, by simp, ⟨by simp, by simp⟩, fun i b hb => ?_⟩, int_reads hC⟩
 cases i with
 | zero =>
  obtain rfl : a = b := by simpa using hb
  exact ⟨_, _, hA.cell 0, hA.cell 1, hA.cell 2, hA.cell 3, hS, hT⟩
 | succ i => simp at hb
theorem forms_one {W : World} {B : Nat} {va vc : Value} {f : Fm} (h : Blk W B 78 #[va, vc]) (hA : ReadsA W va f.ats) (hC : Reads W vc f.c) : ReadsF W (.slice (some ⟨B, 0, none⟩) 1 1) [f] :=
 Or.inr ⟨B, 0, 1, rfl, h.lt, by simp, ⟨by simp, by simp⟩, fun i g hg => by
  cases i with
  | zero =>
   obtain rfl : f = g := by simpa using hg
   exact ⟨_, _, h.cell 0, h.cell 1, hA, hC⟩
  | succ i => simp at hg⟩
theorem results_mix {fn : Func} {p q : Tmp} {ty : TypeId} (h : fn.results = #[.cell p ty, .tmp q]) (tmps : Array Value) (P : Program) (w : World) :
    (results fn tmps).run P w = ((asAddr (tmps.getD p undef)).run P w).andThen fun a w1 => ((loadVar ty a).run P w1).andThen fun v w2 => .ok (.tuple #[v, tmps.getD q undef]) w2 := by
 simp only [results, h]
 simp [Sem.run_bind, Result.andThen]
def alwaysA : At := ⟨1, [3], [4], 0⟩
def alwaysFm : Fm := ⟨[alwaysA], [0]⟩
theorem always_right : alwaysA.fault = 0 := by decide
theorem one_is {a : At} (h : a.fault = 0) {D : Wd} (hok : D.ok = true) : D.formIs [a] [0] = D.holds a.k a.s a.t a.n := by
 have hb : ∀ b : Bool, valF [b] [0] = b := by intro b; cases b <;> rfl
 have hf : formFault [a] [0] = 0 := alone_right h true
 unfold Wd.formIs
 rw [if_pos (wdForm_zero.2 ⟨hf, hok⟩)]
 exact hb _
theorem less_of_none (u a : Int) (h : okB u a = true) : lessN 0 a = 0 := uptoSets (P := fun _ a _ => lessN 0 a = 0) (by decide +kernel) u a a h h
theorem always_holds {D : Wd} (hD : D.ok = true) : D.formIs alwaysFm.ats alwaysFm.c = true := by
 show D.formIs [alwaysA] [0] = true
 rw [one_is always_right hD]
 show saysB 1 0 (D.val [3]) (D.val [4]) = true
 unfold saysB
 rw [if_pos rfl, show D.val [3] = 0 from rfl, less_of_none _ _ (ok_val hD [4])]
 rfl
theorem always_says : SaysAll [] alwaysFm := says_none (alone_right always_right true) fun _ hD => always_holds hD
theorem always_ok : SaidOk [alwaysFm] := ⟨fun f hf => by
 obtain rfl : f = alwaysFm := by simpa using hf
 exact ⟨alwaysA, true, rfl, always_right⟩, by decide, by
 have h0 := open_nil 4
 unfold openN at h0 ⊢
 rw [List.any_eq_true] at h0 ⊢
 obtain ⟨N, hN, _⟩ := h0
 refine ⟨N, hN, ?_⟩
 unfold Wd.so
 rw [List.all_eq_true]
 intro f hf
 obtain rfl : f = alwaysFm := by simpa using hf
 exact always_holds (made_ok (everyC_right (by decide) hN))⟩
def saidOr (fs : List Fm) : List Fm := if fs = [] then [alwaysFm] else fs
theorem saidOr_ok {fs : List Fm} (h : SaidOk fs) : SaidOk (saidOr fs) ∧ saidOr fs ≠ [] := by
 unfold saidOr
 split
 ·exact ⟨always_ok, by simp⟩
 ·rename_i h0; exact ⟨h, h0⟩
theorem says_or {fs : List Fm} {g : Fm} (h : SaysAll (saidOr fs) g) : SaysAll fs g := by
 by_cases h0 : fs = []
 ·subst h0
  refine ⟨h.right, fun D hD => (h.is D hD).trans ?_⟩
  show [alwaysFm].all (fun f => D.formIs f.ats f.c) = true
  simp [always_holds hD]
 ·have e : saidOr fs = fs := if_neg h0
  rw [e] at h
  exact h
theorem ask_or (fs : List Fm) (ats : List At) (c : List Int) : askP (saidOr fs) ats c 4 = askP fs ats c 4 := by
 by_cases h0 : fs = []
 ·subst h0
  exact ask_none always_says.is ats c
 ·rw [show saidOr fs = fs from if_neg h0]
theorem alone_on (a : At) (so to_ : Option Addr) (sn sc tn tc : Nat) (w : World) :
    Calls Tryz.prog 65 #[.agg #[.int .i64 a.k, .slice so sn sc, .slice to_ tn tc, .int .i64 a.n]] w fun e w' => ∃ G C, e = .returned (.agg #[.slice (some ⟨G, 0, none⟩) 1 1, .slice (some ⟨C, 0, none⟩) 1 1]) ∧ Blk w' G 71 #[.int .i64 a.k, .slice so sn sc, .slice to_ tn tc, .int .i64 a.n] ∧ Blk w' C 3 #[.int .i64 0] ∧ Bw w w' := by
 have hN := four_newS w (.cells #[.int .i64 a.k, .slice so sn sc, .slice to_ tn tc, .int .i64 a.n] 71) (.cells #[.slice (some ⟨w.heap.size + 1 + 1, 0, none⟩) 1 1, .slice (some ⟨w.heap.size + 1 + 1 + 1, 0, none⟩) 1 1] 78) (.cells #[.int .i64 a.k, .slice so sn sc, .slice to_ tn tc, .int .i64 a.n] 71) (.cells #[.int .i64 0] 3)
 go_enter Tryz.func65, Tryz.ntmps65
 go_wp2
 obtain ⟨_, h0, h1, h2, h3, hB⟩ := hN
 have k1 : Blk _ (w.heap.size + 1) 78 _ := h1
 have l1 := loadFmL k1
 refine bodyPost_ret (v := .agg #[.slice (some ⟨w.heap.size + 1 + 1, 0, none⟩) 1 1, .slice (some ⟨w.heap.size + 1 + 1 + 1, 0, none⟩) 1 1]) ?_ rfl ⟨_, _, rfl, h2, h3, hB⟩
 rw [result_one rfl]
 simp [asAddr, Result.andThen, l1]
theorem said_any {b : Nat} {l : Lg} {fs : List Fm} {w : World} (w0 : World) (hK : KindsLaid w) (hL : LibLaid w) (hW : Bw w w0) (hlg : LogAt b l w0) (hr : LgRun l fs) :
    Calls Tryz.prog 64 #[.agg #[.pointer (some ⟨b, 0, none⟩)]] w0 fun e w' => ∃ vo vc, e = .returned (.slice vo (saidOr fs).length vc) ∧ ReadsF w' (.slice vo (saidOr fs).length vc) (saidOr fs) ∧ Bw w0 w' := by
 have hW0 : w.heap.size ≤ w0.heap.size := hW.size
 obtain ⟨w1, hw1⟩ := nm (w0.alloc (.cells #[.pointer (some ⟨b, 0, none⟩)] 38))
 have b1 : Bw w0 w1 := by rw [hw1]; exact below_alloc1 _ _
 have HB1 := hide b1
 have d1 : Blk w1 w0.heap.size 38 #[.pointer (some ⟨b, 0, none⟩)] := by rw [hw1]; exact Blk.new _ _ _
 have c0 : w1.cell? ⟨w0.heap.size, 0, none⟩ = some (.pointer (some ⟨b, 0, none⟩)) := d1.cell 0
 have HAl : Hid (Calls Tryz.prog 37 #[.pointer (some ⟨b, 0, none⟩)] w1 fun e w' => ∃ v, e = .returned v ∧ ReadsF w' v fs ∧ Bw w1 w') := deskAll_any hK hL (hW.trans (b1.mono hW0)) (hlg.keep (b1.block _ hlg.lt)) hr
 clear hK hL hW hW0 hlg hr b1 d1
 go_enter Tryz.func64, Tryz.ntmps64
 go_upto_region 1 with fail
 rw [← hw1]
 clear hw1
 go_wp2_with fail
 go_at_call 37
 refine HAl.out.mono ?_
 rintro e w2 ⟨v, rfl, hf2, hb2⟩
 have HF2 := hide hf2
 have HB2 := bt HB1 hb2
 obtain ⟨vo, vc, rfl, _⟩ := hf2.slice
 obtain ⟨nf, hnf⟩ := nm fs.length
 have HNf := hide hnf
 rw [← hnf] at HF2 ⊢
 clear hnf
 by_cases h0 : nf = 0
 ·subst h0
  obtain rfl : fs = [] := List.length_eq_zero_iff.1 HNf.out.symm
  have hg : ¬ (0 : Int) < ((0 : Nat) : Int) := by decide
  obtain ⟨w3, hw3⟩ := nm (((w2.alloc (.cells #[.int .i64 3] 3)).alloc (.cells #[.int .i64 4] 3)).alloc (.cells #[.int .i64 1, .slice (some ⟨w2.heap.size, 0, none⟩) 1 1, .slice (some ⟨w2.heap.size + 1, 0, none⟩) 1 1, .int .i64 0] 71))
  obtain ⟨_, t0, t1, t2, t3⟩ := three_new w2 (.cells #[.int .i64 3] 3) (.cells #[.int .i64 4] 3) (.cells #[.int .i64 1, .slice (some ⟨w2.heap.size, 0, none⟩) 1 1, .slice (some ⟨w2.heap.size + 1, 0, none⟩) 1 1, .int .i64 0] 71)
  rw [← hw3] at t0 t1 t2 t3
  obtain ⟨G, hG⟩ := nm w2.heap.size
  rw [← hG] at t0 t1 t2
  have HB3 := bt HB2 t3
  have HT : Hid (Blk w3 G 3 #[.int .i64 3] ∧ Blk w3 (G + 1) 3 #[.int .i64 4]) := ⟨t0, t1⟩
  have A3 : Blk w3 (G + 1 + 1) 71 #[.int .i64 1, .slice (some ⟨G, 0, none⟩) 1 1, .slice (some ⟨G + 1, 0, none⟩) 1 1, .int .i64 0] := by rw [hG] at t2 ⊢; exact t2
  have y0 : w3.cell? ⟨G + 1 + 1, 0, none⟩ = some (.int .i64 1) := A3.cell 0
  have y1 : w3.cell? ⟨G + 1 + 1, 1, none⟩ = some (.slice (some ⟨G, 0, none⟩) 1 1) := A3.cell 1
  have y2 : w3.cell? ⟨G + 1 + 1, 2, none⟩ = some (.slice (some ⟨G + 1, 0, none⟩) 1 1) := A3.cell 2
  have y3 : w3.cell? ⟨G + 1 + 1, 3, none⟩ = some (.int .i64 0) := A3.cell 3
  have HAn : Hid (Calls Tryz.prog 65 #[.agg #[.int .i64 1, .slice (some ⟨G, 0, none⟩) 1 1, .slice (some ⟨G + 1, 0, none⟩) 1 1, .int .i64 0]] w3 fun e w' => ∃ G2 C, e = .returned (.agg #[.slice (some ⟨G2, 0, none⟩) 1 1, .slice (some ⟨C, 0, none⟩) 1 1]) ∧ Blk w' G2 71 #[.int .i64 1, .slice (some ⟨G, 0, none⟩) 1 1, .slice (some ⟨G + 1, 0, none⟩) 1 1, .int .i64 0] ∧ Blk w' C 3 #[.int .i64 0] ∧ Bw w3 w') := alone_on alwaysA _ _ _ _ _ _ w3
  clear t0 t1 t2 t3 A3 hf2 hb2 c0
  go_upto_region 5 with fail
  rw [← hw3, ← hG]
  clear hw3 hG
  go_wp2_with fail
  go_at_call 65
  refine HAn.out.mono ?_
  rintro e w4 ⟨G2, C, rfl, hA4, hC4, hb4⟩
  have HB4 := bt HB3 hb4
  have HR : Hid (ReadsA w4 (.slice (some ⟨G2, 0, none⟩) 1 1) alwaysFm.ats ∧ Reads w4 (.slice (some ⟨C, 0, none⟩) 1 1) alwaysFm.c) := one_reads (a := alwaysA) hA4 (int_reads (HT.out.1.below hb4)) (int_reads (HT.out.2.below hb4)) hC4
  clear hA4 hC4 hb4 y0 y1 y2 y3
  go_wp2
  go_ret
  have hb5 : Bw w4 (w4.alloc (.cells #[.slice (some ⟨G2, 0, none⟩) 1 1, .slice (some ⟨C, 0, none⟩) 1 1] 78)) := below_alloc1 _ _
  have k5 : Blk (w4.alloc (.cells #[.slice (some ⟨G2, 0, none⟩) 1 1, .slice (some ⟨C, 0, none⟩) 1 1] 78)) w4.heap.size 78 #[.slice (some ⟨G2, 0, none⟩) 1 1, .slice (some ⟨C, 0, none⟩) 1 1] := Blk.new _ _ _
  exact ⟨_, _, rfl, forms_one k5 (HR.out.1.below hb5) (HR.out.2.below hb5), HB4.out.trans (hb5.mono HB4.out.size)⟩
 ·have e : saidOr fs = fs := if_neg fun e => h0 (by rw [HNf.out, e]; rfl)
  have HE := hide e
  have hg : (0 : Int) < (nf : Int) := by omega
  clear hf2 hb2 c0 h0 e
  go_wp2
  go_ret
  rw [HE.out, ← HNf.out]
  exact ⟨_, _, rfl, HF2.out, HB2.out⟩
theorem both_acc {fs : List Fm} (h : SaidOk fs) {k : Nat} (hk : k + 1 < fs.length) {f : Fm} (hf : fs[k + 1]? = some f) (va vc vb vd : Value) (W : World) (hA : ReadsA W va (accF fs k).ats) (hC : Reads W vc (accF fs k).c) (hA2 : ReadsA W vb f.ats) (hC2 : Reads W vd f.c) (hK : KindsLaid W) :
    Calls Tryz.prog 77 #[.agg #[va, vc], .agg #[vb, vd]] W fun e w' => ∃ q1 n1 e1 q2 n2 e2, e = .returned (.tuple #[.agg #[.slice q1 n1 e1, .slice q2 n2 e2], .nilIface]) ∧ ReadsA w' (.slice q1 n1 e1) (accF fs (k + 1)).ats ∧ Reads w' (.slice q2 n2 e2) (accF fs (k + 1)).c ∧ Bw W w' := by
 obtain ⟨a1, a2, a3, _⟩ := acc_facts h.good h.n6 k (by omega)
 obtain ⟨f1, f2, f3⟩ : f.fault = 0 ∧ f.ats.length = 1 ∧ f.c.length ≤ 2 := alone_fm (h.good f (List.mem_of_getElem? hf))
 have h6 := h.n6
 have hacc : accF fs (k + 1) = bothFm (accF fs k) f := by
  show bothFm (accF fs k) (fs.getD (k + 1) fmZ) = bothFm (accF fs k) f
  rw [List.getD_eq_getElem?_getD, hf]; rfl
 have a1' : formFault (accF fs k).ats (accF fs k).c = 0 := a1
 have f1' : formFault f.ats f.c = 0 := f1
 refine (both_good va vc vb vd (accF fs k).ats f.ats (accF fs k).c f.c W hA hC hA2 hC2 hK a1' f1' (by omega)).mono ?_
 rintro e w' ⟨va', vc', rfl, r1, r2, h3⟩
 obtain ⟨q1, e1, rfl, _⟩ := r1.slice
 obtain ⟨q2, e2, rfl, _⟩ := r2.slice
 rw [hacc]
 exact ⟨_, _, _, _, _, _, rfl, r1, r2, h3⟩
theorem together_any {b : Nat} {l : Lg} {ms : List Fm} {w : World} (w0 : World) (hK : KindsLaid w) (hL : LibLaid w) (hW : Bw w w0) (hlg : LogAt b l w0) (hr : LgRun l ms) :
    Calls Tryz.prog 55 #[.agg #[.pointer (some ⟨b, 0, none⟩)]] w0 fun e w' => ∃ o1 l1 c1 o2 l2 c2 g, e = .returned (.tuple #[.agg #[.slice o1 l1 c1, .slice o2 l2 c2], .nilIface]) ∧ ReadsA w' (.slice o1 l1 c1) g.ats ∧ Reads w' (.slice o2 l2 c2) g.c ∧ SaysAll ms g ∧ Bw w0 w' := by
 obtain ⟨fs, hfs⟩ := nm (saidOr ms)
 have HFs := hide hfs
 have HOk : Hid (SaidOk fs ∧ fs ≠ []) := by unfold Hid; rw [hfs]; exact saidOr_ok hr.ok
 obtain ⟨w1, hw1⟩ := nm (w0.alloc (.cells #[.pointer (some ⟨b, 0, none⟩)] 38))
 have s1 : w1.heap.size = w0.heap.size + 1 := by rw [hw1, World.size_alloc]
 have b1 : Bw w0 w1 := by rw [hw1]; exact below_alloc1 _ _
 have d1 : Blk w1 w0.heap.size 38 #[.pointer (some ⟨b, 0, none⟩)] := by rw [hw1]; exact Blk.new _ _ _
 obtain ⟨w2, hw2⟩ := nm (w1.alloc (.cells #[.slice none 0 0, .slice none 0 0] 78))
 have s2 : w2.heap.size = w0.heap.size + 1 + 1 := by rw [hw2, World.size_alloc, s1]
 have b2 : Bw w0 w2 := by rw [hw2]; exact b1.alloc b1.size _
 have d2 : Blk w2 w0.heap.size 38 #[.pointer (some ⟨b, 0, none⟩)] := by rw [hw2]; exact d1.old _
 have HB2 := hide b2
 have HF2 : Hid (Blk w2 (w0.heap.size + 1) 78 #[.slice none 0 0, .slice none 0 0]) := by unfold Hid; rw [hw2, ← s1]; exact Blk.new _ _ _
 have HAl : Hid (Calls Tryz.prog 64 #[.agg #[.pointer (some ⟨b, 0, none⟩)]] w2 fun e w' => ∃ vo vc, e = .returned (.slice vo fs.length vc) ∧ ReadsF w' (.slice vo fs.length vc) fs ∧ Bw w2 w') := by
  unfold Hid
  rw [hfs]
  exact said_any w2 hK hL (hW.trans (b2.mono hW.size)) (hlg.keep (b2.block _ hlg.lt)) hr
 have HKd := hide (hK.below hW)
 have HS2 := hide s2
 have c0 : w2.cell? ⟨w0.heap.size, 0, none⟩ = some (.pointer (some ⟨b, 0, none⟩)) := d2.cell 0
 clear hr hK hL hW hlg s1 b1 d1 s2 b2 d2 hfs
 go_enter Tryz.func55, Tryz.ntmps55
 go_upto_region 1 with fail
 rw [← hw1, ← hw2]
 clear hw1 hw2
 go_wp2_with fail
 go_at_call 64
 refine HAl.out.mono ?_
 rintro e w3 ⟨vo, vc, rfl, hf3, hb3⟩
 have HF3 := hide hf3
 have HB3 := bt HB2 hb3
 have HK3 := hide (HF2.out.below hb3)
 have HS3 : Hid (w0.heap.size + 1 + 1 ≤ w3.heap.size) := by unfold Hid; have := hb3.size; have := HS2.out; omega
 obtain ⟨nf, hnf⟩ := nm fs.length
 have HNf := hide hnf
 rw [← hnf] at HF3 ⊢
 clear hf3 hb3 hnf c0
 have h0 : ¬ nf = 0 := by have := List.length_pos_iff.2 HOk.out.2; have := HNf.out; omega
 obtain ⟨bL, oL, cL, hv⟩ := HF3.out.place (by rw [← HNf.out]; omega)
 obtain ⟨hlo, hx1, hx2⟩ := Value.slice.inj hv
 clear hx1 hx2 hv
 subst hlo
 -- the k-th, as it lies there
 have HAt : Hid (∀ (k : Nat), k < nf → ∃ f o1 l1 c1 o2 l2 c2, fs[k]? = some f ∧ ∀ W, Below w3.heap.size w3 W → W.cell? ⟨bL, oL + k * 2, none⟩ = some (.slice o1 l1 c1) ∧ W.cell? ⟨bL, oL + k * 2 + 1, none⟩ = some (.slice o2 l2 c2) ∧ ReadsA W (.slice o1 l1 c1) f.ats ∧ Reads W (.slice o2 l2 c2) f.c) := fun k hk => by
  have hf := List.getElem?_eq_getElem (show k < fs.length by rw [← HNf.out]; exact hk)
  obtain ⟨hbL, va, vc', c0, c1, hA, hC⟩ := HF3.out.at hf
  obtain ⟨ao, acap, rfl, _⟩ := hA.slice
  obtain ⟨co, ccap, rfl, _⟩ := hC.slice
  exact ⟨_, _, _, _, _, _, _, hf, fun W hW => ⟨(hW.cell hbL).trans c0, (hW.cell hbL).trans c1, hA.below hW, hC.below hW⟩⟩
 have HCap : Hid (nf ≤ vc) := by
  rcases HF3.out with ⟨_, _, h, h'⟩ | ⟨b', off, cap, h1, h2, h3, h4, h5⟩
  ·have := HNf.out; rw [h'] at this; exact absurd this h0
  ·obtain ⟨_, _, e⟩ := Value.slice.inj h1
   have := HNf.out
   unfold Hid
   omega
 obtain ⟨f0, o1, l1, c1, o2, l2, c2, hf0, hcell⟩ := HAt.out 0 (by omega)
 obtain ⟨x0, x1, r0, r1⟩ := hcell w3 (Below.refl _ _)
 rw [Nat.zero_mul, Nat.add_zero] at x0 x1
 obtain ⟨w4, hw4⟩ := nm (w3.alloc (.cells #[.slice o1 l1 c1, .slice o2 l2 c2] 78))
 obtain ⟨G, hG⟩ := nm w3.heap.size
 have HB4 : Hid (Below w3.heap.size w3 w4) := by unfold Hid; rw [hw4]; exact below_alloc1 _ _
 have HX4 : Hid (BoxF w4 G (accF fs 0)) := by
  have hacc : accF fs 0 = f0 := by
   show fs.getD 0 fmZ = f0
   rw [List.getD_eq_getElem?_getD, hf0]; rfl
  unfold Hid
  rw [hacc, hw4, hG]
  exact ⟨_, _, _, _, _, _, Blk.new _ _ _, r0.below (below_alloc1 _ _), r1.below (below_alloc1 _ _)⟩
 have HG : Hid (w3.heap.size ≤ G) := by unfold Hid; omega
 clear hcell hf0 r0 r1
 have hn1 : (1 : Int) ≤ (nf : Int) := by omega
 have hcp : (nf : Int) ≤ (vc : Int) := by have := HCap.out; omega
 go_upto_region 3 with fail
 rw [← hw4, ← hG]
 clear hw4 hG x0 x1
 go_wp2
 all_goals
  obtain ⟨N1, hN1⟩ := nm (nf - 1)
  have HN1 : Hid (N1 + 1 = nf) := by unfold Hid; omega
  rw [← hN1]
  clear hN1
  have hn6 : nf ≤ 6 := by rw [HNf.out]; exact HOk.out.1.n6
  have hN6 : N1 ≤ 5 := by have := HN1.out; omega
  go_loopw [18] (fun i wr => ∃ k : Nat, k ≤ N1 ∧ i = .int .i64 k ∧ Below w3.heap.size w3 wr ∧ BoxF wr G (accF fs k)) (fun i _ => N1 - (intOf i).toNat)
  case atStart => exact ⟨0, Nat.zero_le _, rfl, HB4.out, HX4.out⟩
  case round =>
   obtain ⟨k, hk, rfl, hbr, hbox⟩ := hrel
   have HBr := hide hbr
   clear hbr
   by_cases hlt : k < N1
   ·first
     | (exfalso; have h1 := HCap.out; have h2 := HN1.out; omega)
     | (have hltz : (k : Int) < (N1 : Int) := by omega
        obtain ⟨f, o1, l1, c1, o2, l2, c2, hf, hcell⟩ := HAt.out (k + 1) (by have := HN1.out; omega)
        have HFk := hide hf
        obtain ⟨x0, x1, r0, r1⟩ := hcell wr HBr.out
        rw [show oL + (k + 1) * 2 = oL + 2 + k * 2 by omega] at x0 x1
        obtain ⟨p1, m1, d1, p2, m2, d2, hB, hA, hC⟩ := hbox
        obtain ⟨w5, hw5⟩ := nm (wr.alloc (.cells #[.slice o1 l1 c1, .slice o2 l2 c2] 78))
        obtain ⟨G5, hG5⟩ := nm wr.heap.size
        have b5 : Below wr.heap.size wr w5 := by rw [hw5]; exact below_alloc1 _ _
        have HB5 := bt HBr b5
        have K5 : Blk w5 G5 78 #[.slice o1 l1 c1, .slice o2 l2 c2] := by rw [hw5, hG5]; exact Blk.new _ _ _
        have B5 : Blk w5 G 78 #[.slice p1 m1 d1, .slice p2 m2 d2] := hB.below b5
        have HX5 : Hid (Blk w5 G 78 #[.slice p1 m1 d1, .slice p2 m2 d2]) := B5
        have HBo : Hid (Calls Tryz.prog 77 #[.agg #[.slice p1 m1 d1, .slice p2 m2 d2], .agg #[.slice o1 l1 c1, .slice o2 l2 c2]] w5 fun e w' => ∃ q1 n1 e1 q2 n2 e2, e = .returned (.tuple #[.agg #[.slice q1 n1 e1, .slice q2 n2 e2], .nilIface]) ∧ ReadsA w' (.slice q1 n1 e1) (accF fs (k + 1)).ats ∧ Reads w' (.slice q2 n2 e2) (accF fs (k + 1)).c ∧ Bw w5 w') :=
         both_acc HOk.out.1 (by have := HN1.out; have := HNf.out; omega) hf _ _ _ _ w5 (hA.below b5) (hC.below b5) (r0.below b5) (r1.below b5) (HKd.out.below (HB3.out.trans (HB5.out.mono HB3.out.size)))
        have y0 : w5.cell? ⟨G, 0, none⟩ = some (.slice p1 m1 d1) := B5.cell 0
        have y1 : w5.cell? ⟨G, 1, none⟩ = some (.slice p2 m2 d2) := B5.cell 1
        have y2 : w5.cell? ⟨G5, 0, none⟩ = some (.slice o1 l1 c1) := K5.cell 0
        have y3 : w5.cell? ⟨G5, 1, none⟩ = some (.slice o2 l2 c2) := K5.cell 1
        clear hf hcell r0 r1 hB hA hC b5 K5 B5
        go_upto_region 6 with fail
        rw [← hw5, ← hG5]
        clear hw5 hG5 x0 x1
        go_wp2_with fail
        go_at_call 77
        refine HBo.out.mono ?_
        rintro e w6 ⟨q1, n1, e1, q2, n2, e2, rfl, hA6, hC6, hb6⟩
        have HB6 := bt HB5 hb6
        have HX6 := hide (HX5.out.below hb6)
        have HR6 : Hid (ReadsA w6 (.slice q1 n1 e1) (accF fs (k + 1)).ats ∧ Reads w6 (.slice q2 n2 e2) (accF fs (k + 1)).c) := ⟨hA6, hC6⟩
        clear hA6 hC6 hb6 y0 y1 y2 y3
        obtain ⟨w7, hw7⟩ := nm (w6.alloc (.cells #[.slice q1 n1 e1, .slice q2 n2 e2] 78))
        obtain ⟨G7, hG7⟩ := nm w6.heap.size
        have b7 : Below w6.heap.size w6 w7 := by rw [hw7]; exact below_alloc1 _ _
        have HB7 := bt HB6 b7
        have K7 : Blk w7 G7 78 #[.slice q1 n1 e1, .slice q2 n2 e2] := by rw [hw7, hG7]; exact Blk.new _ _ _
        have HX7 := hide (HX6.out.below b7)
        have HR7 : Hid (ReadsA w7 (.slice q1 n1 e1) (accF fs (k + 1)).ats ∧ Reads w7 (.slice q2 n2 e2) (accF fs (k + 1)).c) := ⟨HR6.out.1.below b7, HR6.out.2.below b7⟩
        have y2 : w7.cell? ⟨G7, 0, none⟩ = some (.slice q1 n1 e1) := K7.cell 0
        have y3 : w7.cell? ⟨G7, 1, none⟩ = some (.slice q2 n2 e2) := K7.cell 1
        have y0 : w7.cell? ⟨G, 0, none⟩ = some (.slice p1 m1 d1) := HX7.out.cell 0
        have y1 : w7.cell? ⟨G, 1, none⟩ = some (.slice p2 m2 d2) := HX7.out.cell 1
        have z0 : w7.frozen? ⟨G, 0, none⟩ = false := HX7.out.frozen 0
        have z1 : w7.frozen? ⟨G, 1, none⟩ = false := HX7.out.frozen 1
        clear b7 K7
        go_upto_region 7 with fail
        rw [← hw7, ← hG7]
        clear hw7 hG7
        go_wp2
        have HBx : Hid (BoxF ((w7.setCell ⟨G, 0, none⟩ (.slice q1 n1 e1)).setCell ⟨G, 1, none⟩ (.slice q2 n2 e2)) G (accF fs (k + 1))) := BoxF.put HX7.out HR7.out.1 HR7.out.2
        have HBb : Hid (Below w3.heap.size w3 ((w7.setCell ⟨G, 0, none⟩ (.slice q1 n1 e1)).setCell ⟨G, 1, none⟩ (.slice q2 n2 e2))) := (HB7.out.setCell HG.out _).setCell HG.out _
        go_roundw
        case rel => first | exact ⟨k + 1, by omega, by go_num, HBb.out, HBx.out⟩ | ((repeat apply Exists.intro); refine ⟨?_, rfl⟩; exact ⟨k + 1, by omega, by go_num, HBb.out, HBx.out⟩)
        case measure => first | (simp [intOf]; done) | (simp [intOf]; omega))
   ·obtain rfl : k = N1 := by omega
    have hltz : ¬ (k : Int) < (k : Int) := by omega
    obtain ⟨p1, m1, d1, p2, m2, d2, hB, hA, hC⟩ := hbox
    have y0 : wr.cell? ⟨G, 0, none⟩ = some (.slice p1 m1 d1) := hB.cell 0
    have y1 : wr.cell? ⟨G, 1, none⟩ = some (.slice p2 m2 d2) := hB.cell 1
    have HKr := hide (HK3.out.below HBr.out)
    have HRr : Hid (ReadsA wr (.slice p1 m1 d1) (accF fs k).ats ∧ Reads wr (.slice p2 m2 d2) (accF fs k).c) := ⟨hA, hC⟩
    have t0 : wr.cell? ⟨w0.heap.size + 1, 0, none⟩ = some (.slice none 0 0) := HKr.out.cell 0
    have t1 : wr.cell? ⟨w0.heap.size + 1, 1, none⟩ = some (.slice none 0 0) := HKr.out.cell 1
    have z0 : wr.frozen? ⟨w0.heap.size + 1, 0, none⟩ = false := HKr.out.frozen 0
    have z1 : wr.frozen? ⟨w0.heap.size + 1, 1, none⟩ = false := HKr.out.frozen 1
    have HBw := hide (HB3.out.trans (HBr.out.mono HB3.out.size))
    clear hB hA hC
    go_wp2
    have hbx := BoxF.put HKr.out HRr.out.1 HRr.out.2
    have hbl : Bw w0 ((wr.setCell ⟨w0.heap.size + 1, 0, none⟩ (.slice p1 m1 d1)).setCell ⟨w0.heap.size + 1, 1, none⟩ (.slice p2 m2 d2)) := (HBw.out.setCell (by simp) _).setCell (by simp) _
    obtain ⟨v1, i1, j1, v2, i2, j2, hB, hA, hC⟩ := hbx
    have l1 := loadFmL hB
    refine bodyPost_ret (v := .tuple #[.agg #[.slice v1 i1 j1, .slice v2 i2 j2], .nilIface]) ?_ rfl ⟨_, _, _, _, _, _, rfl, accF fs k, hA, hC, says_or (by rw [← HFs.out]; exact says_acc HOk.out.1 (by rw [HN1.out]; exact HNf.out)), hbl⟩
    rw [results_mix rfl]
    simp [asAddr, Result.andThen, l1]
end Go.Proofs.YtnoohlibgaeklaaGreatDoor
