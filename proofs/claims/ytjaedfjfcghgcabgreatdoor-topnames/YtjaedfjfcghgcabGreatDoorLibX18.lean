/-
  Facts and contracts that the statement leans on.
-/
import Derived.Test.YtjaedfjfcghgcabGreatDoorLibX17
import Derived.Test.YtjaedfjfcghgcabGreatDoorLibX9
import Derived.Test.YtjaedfjfcghgcabGreatDoorLibX8
import Derived.Lib.Bytealg
import Derived.Lib.OthersKept
import Derived.Laws.RangeAny
import Derived.Deep.LoopGhost
import Derived.Scope
import Derived.WalkMore
namespace Go.Proofs.YtjaedfjfcghgcabGreatDoor
open Go.ChangeShapes Go.WideShapes Go.ChangeAt Go.RowKit
set_option maxRecDepth 100000
attribute [local go_sem] Oper.semAt_some
theorem four_newS (w : World) (o0 o1 o2 o3 : Obj) :
    ((((w.alloc o0).alloc o1).alloc o2).alloc o3).heap.size = w.heap.size + 4 ∧
    ((((w.alloc o0).alloc o1).alloc o2).alloc o3).heap[w.heap.size]? = some o0 ∧
    ((((w.alloc o0).alloc o1).alloc o2).alloc o3).heap[w.heap.size + 1]? = some o1 ∧
    ((((w.alloc o0).alloc o1).alloc o2).alloc o3).heap[w.heap.size + 1 + 1]? = some o2 ∧
    ((((w.alloc o0).alloc o1).alloc o2).alloc o3).heap[w.heap.size + 1 + 1 + 1]? = some o3 ∧
    Below w.heap.size w ((((w.alloc o0).alloc o1).alloc o2).alloc o3) := by
 have s1 : (w.alloc o0).heap.size = w.heap.size + 1 := World.size_alloc _ _
 have s2 : ((w.alloc o0).alloc o1).heap.size = w.heap.size + 1 + 1 := by rw [World.size_alloc, s1]
 have s3 : (((w.alloc o0).alloc o1).alloc o2).heap.size = w.heap.size + 1 + 1 + 1 := by rw [World.size_alloc, s2]
 refine ⟨by rw [World.size_alloc, s3], ?_, ?_, ?_, ?_, ?_⟩
 ·rw [Below.heap_alloc _ _ _ (by omega), Below.heap_alloc _ _ _ (by omega), Below.heap_alloc _ _ _ (by omega)]; exact World.alloc_heap_new _ _
 ·rw [Below.heap_alloc _ _ _ (by omega), Below.heap_alloc _ _ _ (by omega), ← s1]; exact World.alloc_heap_new _ _
 ·rw [Below.heap_alloc _ _ _ (by omega), ← s2]; exact World.alloc_heap_new _ _
 ·rw [← s3]; exact World.alloc_heap_new _ _
 ·exact ((((Below.refl _ w).alloc (Nat.le_refl _) _).alloc (by omega) _).alloc (by omega) _).alloc (by omega) _
set_option maxHeartbeats 4000000 in
theorem spof_right (ao : Option Addr) (al acap : Nat) (co : Option Addr) (cl ccap : Nat) (tq : Option Addr) (tl tcap : Nat) (n : Nat) (hn : n ≤ 6) (p : (Nat → Int) → Bool) (q : (Nat → Int) → Int) (P : Nat → Int × Int) (R : Value) (w : World)
    (hC : ∀ W, Below w.heap.size w W → Calls Tryz.prog 61 #[.agg #[.slice ao al acap, .slice co cl ccap], .slice tq tl tcap, .int .i64 n] W (Bk W .nilIface))
    (hH : ∀ (M : Nat → Int) W, M ∈ everyC n → Below w.heap.size w W → Calls Tryz.prog 29 #[.agg #[.slice ao al acap, .slice co cl ccap], .agg #[.int .i64 (M 0), .int .i64 (M 1), .int .i64 (M 2), .int .i64 (M 3), .int .i64 (M 4), .int .i64 (M 5), .int .i64 (M 6), .int .i64 (M 7)]] W (Bk W (.tuple #[.bool (p M), .nilIface])))
    (hQ : ∀ (M : Nat → Int) W, M ∈ everyC n → Below w.heap.size w W → Calls Tryz.prog 62 #[.slice tq tl tcap, .agg #[.int .i64 (M 0), .int .i64 (M 1), .int .i64 (M 2), .int .i64 (M 3), .int .i64 (M 4), .int .i64 (M 5), .int .i64 (M 6), .int .i64 (M 7)]] W (Bk W (.tuple #[.int .i64 (q M), .nilIface])))
    (h0 : P 0 = ((n : Int) + 1, -1)) (h1 : ∀ (k : Nat) (M : Nat → Int), (everyC n)[k]? = some M → P (k + 1) = if p M = true then (if q M < (P k).1 then q M else (P k).1, if (P k).2 < q M then q M else (P k).2) else P k)
    (hR : R = if (P (everyC n).length).2 < (P (everyC n).length).1 then .tuple #[.agg #[.int .i64 0, .int .i64 0], .iface 75 (.int .i64 5)] else .tuple #[.agg (arrP (P (everyC n).length)), .nilIface]) :
    Calls Tryz.prog 20 #[.agg #[.slice ao al acap, .slice co cl ccap], .slice tq tl tcap, .int .i64 n] w (Bk w R) := by
 obtain ⟨A, hA⟩ := nm (everyC n)
 have HC := hide hC
 have HF : Hid (∀ (k : Nat) (M : Nat → Int) W, A[k]? = some M → Below w.heap.size w W → Calls Tryz.prog 29 #[.agg #[.slice ao al acap, .slice co cl ccap], .agg #[.int .i64 (M 0), .int .i64 (M 1), .int .i64 (M 2), .int .i64 (M 3), .int .i64 (M 4), .int .i64 (M 5), .int .i64 (M 6), .int .i64 (M 7)]] W (Bk W (.tuple #[.bool (p M), .nilIface]))) := fun k M W hM hW => hH M W (by rw [hA] at hM; exact List.mem_of_getElem? hM) hW
 have HQ : Hid (∀ (k : Nat) (M : Nat → Int) W, A[k]? = some M → Below w.heap.size w W → Calls Tryz.prog 62 #[.slice tq tl tcap, .agg #[.int .i64 (M 0), .int .i64 (M 1), .int .i64 (M 2), .int .i64 (M 3), .int .i64 (M 4), .int .i64 (M 5), .int .i64 (M 6), .int .i64 (M 7)]] W (Bk W (.tuple #[.int .i64 (q M), .nilIface]))) := fun k M W hM hW => hQ M W (by rw [hA] at hM; exact List.mem_of_getElem? hM) hW
 have HS : Hid (∀ Bu W, W.cell? ⟨Bu, 0, none⟩ = some (.int .i64 n) → SeqG 2 Tryz.prog 74 #[.pointer (some ⟨Bu, 0, none⟩)] enc8 A W) := fun Bu W hB => by rw [hA]; exact iter_any n hn 2 (by omega) Bu W hB
 have HP0 := hide h0
 rw [← hA] at h1 hR
 have HP1 := hide h1
 have HR := hide hR
 clear hA hC hH hQ h0 h1 hR
 obtain ⟨hs1, b0, b1, b2, b3, hB1⟩ := four_newS w (.cells #[.slice ao al acap, .slice co cl ccap] 25) (.cells #[.slice tq tl tcap] 23) (.cells #[.int .i64 0, .int .i64 0] 64) (.cells #[.nilIface] 29)
 obtain ⟨w1, hw1⟩ := nm ((((w.alloc (.cells #[.slice ao al acap, .slice co cl ccap] 25)).alloc (.cells #[.slice tq tl tcap] 23)).alloc (.cells #[.int .i64 0, .int .i64 0] 64)).alloc (.cells #[.nilIface] 29))
 rw [← hw1] at hs1 b0 b1 b2 b3 hB1
 have HB1 := hide hB1
 have Hs1 := hide hs1
 have I0 : Hid (Blk w1 w.heap.size 25 #[.slice ao al acap, .slice co cl ccap]) := b0
 have I1 : Hid (Blk w1 (w.heap.size + 1) 23 #[.slice tq tl tcap]) := b1
 have I2 : Hid (Blk w1 (w.heap.size + 1 + 1) 64 (arrP (0, 0))) := b2
 have I3 : Hid (Blk w1 (w.heap.size + 1 + 1 + 1) 29 #[.nilIface]) := b3
 clear hs1 b0 b1 b2 b3 hB1
 refine (callsIn_wide (n := 3)).1 ?_
 refine callsIn_of_wp_marks Tryz.func20 rfl trivial ?_ rfl
 simp only [Tryz.ntmps20, List.size_toArray, List.length_cons, List.length_nil, Nat.reduceAdd, Nat.reduceSub, Array.replicate_succ, Array.replicate_zero, List.push_toArray, List.append_toArray, List.nil_append, List.cons_append]
 gi_upto_region 1 with fail
 rw [← hw1]
 clear hw1
 have i0 : w1.cell? ⟨w.heap.size, 0, none⟩ = some (.slice ao al acap) := I0.out.cell 0
 have i1 : w1.cell? ⟨w.heap.size, 1, none⟩ = some (.slice co cl ccap) := I0.out.cell 1
 have i2 : w1.cell? ⟨w.heap.size + 1, 0, none⟩ = some (.slice tq tl tcap) := I1.out.cell 0
 gi_wp2_with fail
 refine ⟨trivial, ?_⟩
 gi_at_call 61
 refine (callsIn_wide.2 (HC.out _ HB1.out)).mono ?_
 rintro e w2 ⟨rfl, hb2⟩
 have HB2 := hide (HB1.out.trans (hb2.mono HB1.out.size))
 have J0 := hide (I0.out.below hb2)
 have J1 := hide (I1.out.below hb2)
 have J2 := hide (I2.out.below hb2)
 have J3 := hide (I3.out.below hb2)
 obtain ⟨G, hG⟩ := nm w2.heap.size
 have HG : Hid (w.heap.size + 4 ≤ G) := by unfold Hid; rw [hG, ← Hs1.out]; exact hb2.size
 clear hb2 i0 i1 i2
 gi_wp2_with fail
 refine ⟨trivial, ?_⟩
 gi_at_call 28
 refine (callsIn_wide.2 (fitAll_any _ _)).mono ?_
 rintro e w4 ⟨rfl, rfl⟩
 gi_wp2_with fail
 obtain ⟨wl, hwl⟩ := nm ((w2.alloc (.cells #[.int .i64 ((n : Int) + 1), .int .i64 (-1)] 64)).alloc (.cells #[.int .i64 n] 3))
 have HB0 : Hid (Below w.heap.size w wl) := by unfold Hid; rw [hwl]; exact (HB2.out.alloc HB2.out.size _).alloc (by rw [World.size_alloc]; exact Nat.le_succ_of_le HB2.out.size) _
 have Hsz : Hid (wl.heap.size = G + 2) := by unfold Hid; rw [hwl, hG, World.size_alloc, World.size_alloc]
 have H0 : Hid (Blk wl w.heap.size 25 #[.slice ao al acap, .slice co cl ccap]) := by unfold Hid; rw [hwl]; exact (J0.out.old _).old _
 have H1 : Hid (Blk wl (w.heap.size + 1) 23 #[.slice tq tl tcap]) := by unfold Hid; rw [hwl]; exact (J1.out.old _).old _
 have H2 : Hid (Blk wl (w.heap.size + 1 + 1) 64 (arrP (0, 0))) := by unfold Hid; rw [hwl]; exact (J2.out.old _).old _
 have H3 : Hid (Blk wl (w.heap.size + 1 + 1 + 1) 29 #[.nilIface]) := by unfold Hid; rw [hwl]; exact (J3.out.old _).old _
 have H4 : Hid (Blk wl G 64 (arrP (P 0))) := by unfold Hid; rw [HP0.out, hwl, hG]; exact (Blk.new _ _ _).old _
 have H5 : Hid (Blk wl (G + 1) 3 #[.int .i64 n]) := by
  unfold Hid; rw [hwl, hG]
  have := Blk.new (w2.alloc (.cells #[.int .i64 ((n : Int) + 1), .int .i64 (-1)] 64)) 3 #[.int .i64 n]
  rw [World.size_alloc] at this
  exact this
 rw [← hwl, ← hG]
 clear hwl hG
 refine wpIn_range_own (by omega) (gf := 74) (lb := #[.pointer (some ⟨G + 1, 0, none⟩)]) rfl (enters_of Tryz.func74 (by kernel_rfl) rfl) (encs := enc8) (A := A)
  (fun W hW => HS.out _ W ((hW.cell (by rw [Hsz.out]; simp)).trans (H5.out.cell 0))) (fun _ => rfl)
  (fun k W => Below w.heap.size w W ∧ Blk W w.heap.size 25 #[.slice ao al acap, .slice co cl ccap] ∧ Blk W (w.heap.size + 1) 23 #[.slice tq tl tcap] ∧ Blk W (w.heap.size + 1 + 1) 64 (arrP (0, 0)) ∧ Blk W (w.heap.size + 1 + 1 + 1) 29 #[.nilIface] ∧ Blk W G 64 (arrP (P k)))
  (fun _ _ => False)
  (fun k X Y h hb => ⟨h.1.trans (hb.mono (by have := HG.out; rw [Hsz.out]; omega)), h.2.1.keep hb (by have := HG.out; rw [Hsz.out]; omega), h.2.2.1.keep hb (by have := HG.out; rw [Hsz.out]; omega), h.2.2.2.1.keep hb (by have := HG.out; rw [Hsz.out]; omega), h.2.2.2.2.1.keep hb (by have := HG.out; rw [Hsz.out]; omega), h.2.2.2.2.2.keep hb (by rw [Hsz.out]; omega)⟩)
  (fun _ _ _ h _ => h) ⟨HB0.out, H0.out, H1.out, H2.out, H3.out, H4.out⟩ ?round ?done ?stop
 case round =>
  intro ln k x W hx hl1 hl2 ⟨hB, c0, c1, c2, c3, c4⟩
  have HX := hide hx
  have Hl1 : Hid (G + 2 ≤ ln) := by unfold Hid; rw [← Hsz.out]; exact hl1
  have Hl2 := hide hl2
  have HBk := hide hB
  have C0 : Hid (Blk W w.heap.size 25 #[.slice ao al acap, .slice co cl ccap]) := c0
  have C1 : Hid (Blk W (w.heap.size + 1) 23 #[.slice tq tl tcap]) := c1
  have C2 : Hid (Blk W (w.heap.size + 1 + 1) 64 (arrP (0, 0))) := c2
  have C3 : Hid (Blk W (w.heap.size + 1 + 1 + 1) 29 #[.nilIface]) := c3
  have C4 : Hid (Blk W G 64 (arrP (P k))) := c4
  clear hx hl1 hl2 hB c0 c1 c2 c3 c4
  unfold enc8
  gi_wp2
  refine ⟨(Over.refl _ _).alloc _, fun o => ?_⟩
  obtain ⟨W2, hW2⟩ := nm ((W.alloc (.cells #[.int .i64 (x 0), .int .i64 (x 1), .int .i64 (x 2), .int .i64 (x 3), .int .i64 (x 4), .int .i64 (x 5), .int .i64 (x 6), .int .i64 (x 7)] 44)).putObj ln o)
  obtain ⟨Gx, hGx⟩ := nm W.heap.size
  have HB2 : Hid (Below w.heap.size w W2) := by unfold Hid; rw [hW2]; exact (HBk.out.alloc HBk.out.size _).trans (below_putObj _ _ (by have := Hl1.out; have := HG.out; omega))
  have D0 : Hid (Blk W2 w.heap.size 25 #[.slice ao al acap, .slice co cl ccap]) := by unfold Hid; rw [hW2]; exact (C0.out.old _).putO _ (by have := Hl1.out; have := HG.out; omega)
  have D1 : Hid (Blk W2 (w.heap.size + 1) 23 #[.slice tq tl tcap]) := by unfold Hid; rw [hW2]; exact (C1.out.old _).putO _ (by have := Hl1.out; have := HG.out; omega)
  have D2 : Hid (Blk W2 (w.heap.size + 1 + 1) 64 (arrP (0, 0))) := by unfold Hid; rw [hW2]; exact (C2.out.old _).putO _ (by have := Hl1.out; have := HG.out; omega)
  have D3 : Hid (Blk W2 (w.heap.size + 1 + 1 + 1) 29 #[.nilIface]) := by unfold Hid; rw [hW2]; exact (C3.out.old _).putO _ (by have := Hl1.out; have := HG.out; omega)
  have D4 : Hid (Blk W2 G 64 (arrP (P k))) := by unfold Hid; rw [hW2]; exact (C4.out.old _).putO _ (by have := Hl1.out; omega)
  have D8 : Hid (Blk W2 Gx 44 (arr8 x)) := by unfold Hid; rw [hW2, hGx]; exact (Blk.new _ _ _).putO _ (by have := Hl2.out; omega)
  rw [← hW2, ← hGx]
  clear hW2 hGx
  have HFk := hide (HF.out k x W2 HX.out HB2.out)
  have HM := hide (HP1.out k x HX.out)
  have HQk : Hid (∀ W, Below w.heap.size w W → Calls Tryz.prog 62 #[.slice tq tl tcap, .agg #[.int .i64 (x 0), .int .i64 (x 1), .int .i64 (x 2), .int .i64 (x 3), .int .i64 (x 4), .int .i64 (x 5), .int .i64 (x 6), .int .i64 (x 7)]] W (Bk W (.tuple #[.int .i64 (q x), .nilIface]))) := fun W => HQ.out k x W HX.out
  obtain ⟨g, hg⟩ := nm (p x)
  obtain ⟨m, hm⟩ := nm (q x)
  obtain ⟨⟨lo, hi⟩, hp⟩ : ∃ r, r = P k := ⟨_, rfl⟩
  rw [← hg] at HFk HM
  rw [← hm] at HM HQk
  rw [← hp] at HM D4
  clear hg hm hp
  have e0 : W2.cell? ⟨w.heap.size, 0, none⟩ = some (.slice ao al acap) := D0.out.cell 0
  have e1 : W2.cell? ⟨w.heap.size, 1, none⟩ = some (.slice co cl ccap) := D0.out.cell 1
  obtain ⟨x0, x1, x2, x3, x4, x5, x6, x7⟩ := D8.out.cells8
  gi_wp2_with fail
  refine ⟨trivial, ?_⟩
  gi_at_call 29
  refine (CallsIn.inRound ln (callsIn_wide.2 HFk.out)).mono ?_
  rintro e W3 ⟨rfl, hb3⟩
  have HB3 := hide (HB2.out.trans (hb3.mono HB2.out.size))
  have E0 := hide (D0.out.below hb3)
  have E1 := hide (D1.out.below hb3)
  have E2 := hide (D2.out.below hb3)
  have E3 := hide (D3.out.below hb3)
  have E4 := hide (D4.out.below hb3)
  have E8 := hide (D8.out.below hb3)
  have HO3 : Hid (Over wl.heap.size W2 W3) := Over.of_below hb3
  clear hb3 e0 e1 x0 x1 x2 x3 x4 x5 x6 x7
  cases g with
  | true =>
   have HM1 : Hid (P (k + 1) = (if m < lo then m else lo, if hi < m then m else hi)) := by unfold Hid; have h := HM.out; rw [if_pos rfl] at h; exact h
   clear HM
   have e3 : W3.cell? ⟨w.heap.size + 1, 0, none⟩ = some (.slice tq tl tcap) := E1.out.cell 0
   obtain ⟨x0, x1, x2, x3, x4, x5, x6, x7⟩ := E8.out.cells8
   gi_wp2_with fail
   refine ⟨trivial, ?_⟩
   gi_at_call 62
   refine (CallsIn.inRound ln (callsIn_wide.2 (HQk.out _ HB3.out))).mono ?_
   rintro e W4 ⟨rfl, hb4⟩
   have HB4 := hide (HB3.out.trans (hb4.mono HB3.out.size))
   have F0 := hide (E0.out.below hb4)
   have F1 := hide (E1.out.below hb4)
   have F2 := hide (E2.out.below hb4)
   have F3 := hide (E3.out.below hb4)
   have F4 := hide (E4.out.below hb4)
   have HO4 := hide (HO3.out.trans (Over.of_below hb4))
   clear hb4 e3 x0 x1 x2 x3 x4 x5 x6 x7
   have s0 : W4.cell? ⟨G, 0, none⟩ = some (.int .i64 lo) := F4.out.cell 0
   have s1 : W4.cell? ⟨G, 1, none⟩ = some (.int .i64 hi) := F4.out.cell 1
   have z0 : W4.frozen? ⟨G, 0, none⟩ = false := F4.out.frozen 0
   have z1 : W4.frozen? ⟨G, 1, none⟩ = false := F4.out.frozen 1
   gi_wp2
   all_goals have hM := HM1.out
   all_goals have hg := HG.out
   all_goals refine ⟨(HO4.out.setCell (by rw [Hsz.out]; simp) _).setCell (by rw [Hsz.out]; simp) _, (HB4.out.setCell (by simp; omega) _).setCell (by simp; omega) _, (F0.out.far (by omega) _ _).far (by omega) _ _, (F1.out.far (by omega) _ _).far (by omega) _ _, (F2.out.far (by omega) _ _).far (by omega) _ _, (F3.out.far (by omega) _ _).far (by omega) _ _, ?_⟩
   all_goals show Blk _ _ _ (arrP (P (k + 1)))
   all_goals rw [hM]
   all_goals first
    | (rw [show min lo m = (if m < lo then m else lo) by split <;> omega, show max hi m = (if hi < m then m else hi) by split <;> omega]; exact putP_blk F4.out (_, _))
    | (rw [if_pos (c := m < lo) (by omega), if_pos (c := hi < m) (by omega)]; exact putP_blk F4.out (m, m))
    | (rw [if_pos (c := m < lo) (by omega), if_neg (c := hi < m) (by omega)]; exact putP_blk F4.out (m, hi))
    | (rw [if_neg (c := m < lo) (by omega), if_pos (c := hi < m) (by omega)]; exact putP_blk F4.out (lo, m))
    | (rw [if_neg (c := m < lo) (by omega), if_neg (c := hi < m) (by omega)]; exact putP_blk F4.out (lo, hi))
  | false =>
   have HM1 : Hid (P (k + 1) = (lo, hi)) := by unfold Hid; have h := HM.out; rw [if_neg (by decide)] at h; exact h
   clear HM
   gi_wp2
   have hM := HM1.out
   exact ⟨HO3.out, HB3.out, E0.out, E1.out, E2.out, E3.out, by rw [hM]; exact E4.out⟩
 case done =>
  intro D W hD ⟨hB, c0, c1, c2, c3, c4⟩ hK
  have HD : Hid (G + 2 ≤ D) := by unfold Hid; rw [← Hsz.out]; exact hD
  have HK := hide hK
  have HBk := hide hB
  obtain ⟨⟨lo, hi⟩, hS⟩ : ∃ S, S = P A.length := ⟨_, rfl⟩
  rw [← hS] at c4 HR
  clear hS
  have C2 : Hid (Blk W (w.heap.size + 1 + 1) 64 (arrP (0, 0))) := c2
  have C3 : Hid (Blk W (w.heap.size + 1 + 1 + 1) 29 #[.nilIface]) := c3
  have C4 : Hid (Blk W G 64 (arrP (lo, hi))) := c4
  clear hD hB c0 c1 c2 c3 c4 hK
  have e1 : W.cell? ⟨w.heap.size + 1 + 1, 0, none⟩ = some (.int .i64 0) := C2.out.cell 0
  have e2 : W.cell? ⟨w.heap.size + 1 + 1, 1, none⟩ = some (.int .i64 0) := C2.out.cell 1
  have z1 : W.frozen? ⟨w.heap.size + 1 + 1, 0, none⟩ = false := C2.out.frozen 0
  have z2 : W.frozen? ⟨w.heap.size + 1 + 1, 1, none⟩ = false := C2.out.frozen 1
  have e3 : W.cell? ⟨w.heap.size + 1 + 1 + 1, 0, none⟩ = some .nilIface := C3.out.cell 0
  have z3 : W.frozen? ⟨w.heap.size + 1 + 1 + 1, 0, none⟩ = false := C3.out.frozen 0
  have e4 : W.cell? ⟨G, 0, none⟩ = some (.int .i64 lo) := C4.out.cell 0
  have e5 : W.cell? ⟨G, 1, none⟩ = some (.int .i64 hi) := C4.out.cell 1
  by_cases hlt : hi < lo
  ·have HE : Hid (R = .tuple #[.agg #[.int .i64 0, .int .i64 0], .iface 75 (.int .i64 5)]) := by have h := HR.out; rw [if_pos (show (lo, hi).2 < (lo, hi).1 from hlt)] at h; exact h
   clear HR
   gi_wp2
   have hK' : (((W.setCell ⟨w.heap.size + 1 + 1, 0, none⟩ (.int .i64 0)).setCell ⟨w.heap.size + 1 + 1, 1, none⟩ (.int .i64 0)).setCell ⟨w.heap.size + 1 + 1 + 1, 0, none⟩ (.iface 75 (.int .i64 5))).heap[D]? = some (.deferred (some [])) := by
    have := HD.out
    have := HG.out
    rw [Below.heap_setCell _ _ _ _ (by simp; omega), Below.heap_setCell _ _ _ _ (by simp; omega), Below.heap_setCell _ _ _ _ (by simp; omega)]; exact HK.out
   have r1 : Blk (((W.setCell ⟨w.heap.size + 1 + 1, 0, none⟩ (.int .i64 0)).setCell ⟨w.heap.size + 1 + 1, 1, none⟩ (.int .i64 0)).setCell ⟨w.heap.size + 1 + 1 + 1, 0, none⟩ (.iface 75 (.int .i64 5))) (w.heap.size + 1 + 1) 64 (arrP (0, 0)) := (putP_blk C2.out (0, 0)).far (by omega) _ _
   have r2 : Blk (((W.setCell ⟨w.heap.size + 1 + 1, 0, none⟩ (.int .i64 0)).setCell ⟨w.heap.size + 1 + 1, 1, none⟩ (.int .i64 0)).setCell ⟨w.heap.size + 1 + 1 + 1, 0, none⟩ (.iface 75 (.int .i64 5))) (w.heap.size + 1 + 1 + 1) 29 #[.iface 75 (.int .i64 5)] := ((C3.out.far (by omega) _ _).far (by omega) _ _).set 0 _
   refine ⟨by simp, .inl ⟨_, _, rfl, run_takeDeferred hK', ?_⟩⟩
   have hd := HD.out
   have hg := HG.out
   have l1 := loadP (r1.putO (.deferred none) (l := D) (by omega))
   have l2 := loadE (r2.putO (.deferred none) (l := D) (by omega))
   refine ⟨.tuple #[.agg (arrP (0, 0)), .iface 75 (.int .i64 5)], ?_, by rw [HE.out]; rfl, ?_⟩
   ·rw [results_two rfl]
    simp [asAddr, Result.andThen, l1, l2]
   ·exact (((HBk.out.setCell (by simp; omega) _).setCell (by simp; omega) _).setCell (by simp; omega) _).trans (below_putObj _ _ (by omega))
  ·have HE : Hid (R = .tuple #[.agg (arrP (lo, hi)), .nilIface]) := by have h := HR.out; rw [if_neg (show ¬ (lo, hi).2 < (lo, hi).1 from hlt)] at h; exact h
   clear HR
   gi_wp2
   have hK' : (((W.setCell ⟨w.heap.size + 1 + 1, 0, none⟩ (.int .i64 lo)).setCell ⟨w.heap.size + 1 + 1, 1, none⟩ (.int .i64 hi)).setCell ⟨w.heap.size + 1 + 1 + 1, 0, none⟩ .nilIface).heap[D]? = some (.deferred (some [])) := by
    have := HD.out
    have := HG.out
    rw [Below.heap_setCell _ _ _ _ (by simp; omega), Below.heap_setCell _ _ _ _ (by simp; omega), Below.heap_setCell _ _ _ _ (by simp; omega)]; exact HK.out
   have r1 : Blk (((W.setCell ⟨w.heap.size + 1 + 1, 0, none⟩ (.int .i64 lo)).setCell ⟨w.heap.size + 1 + 1, 1, none⟩ (.int .i64 hi)).setCell ⟨w.heap.size + 1 + 1 + 1, 0, none⟩ .nilIface) (w.heap.size + 1 + 1) 64 (arrP (lo, hi)) := (putP_blk C2.out (lo, hi)).far (by omega) _ _
   have r2 : Blk (((W.setCell ⟨w.heap.size + 1 + 1, 0, none⟩ (.int .i64 lo)).setCell ⟨w.heap.size + 1 + 1, 1, none⟩ (.int .i64 hi)).setCell ⟨w.heap.size + 1 + 1 + 1, 0, none⟩ .nilIface) (w.heap.size + 1 + 1 + 1) 29 #[.nilIface] := ((C3.out.far (by omega) _ _).far (by omega) _ _).set 0 _
   refine ⟨by simp, .inl ⟨_, _, rfl, run_takeDeferred hK', ?_⟩⟩
   have hd := HD.out
   have hg := HG.out
   have l1 := loadP (r1.putO (.deferred none) (l := D) (by omega))
   have l2 := loadE (r2.putO (.deferred none) (l := D) (by omega))
   refine ⟨.tuple #[.agg (arrP (lo, hi)), .nilIface], ?_, by rw [HE.out], ?_⟩
   ·rw [results_two rfl]
    simp [asAddr, Result.andThen, l1, l2]
   ·exact (((HBk.out.setCell (by simp; omega) _).setCell (by simp; omega) _).setCell (by simp; omega) _).trans (below_putObj _ _ (by omega))
 case stop => exact fun _ _ _ _ _ h => h.elim
set_option maxHeartbeats 4000000 in
theorem spof_wrong (ao : Option Addr) (al acap : Nat) (co : Option Addr) (cl ccap : Nat) (tq : Option Addr) (tl tcap : Nat) (u F : Int) (w : World)
    (hC : ∀ W, Below w.heap.size w W → Calls Tryz.prog 61 #[.agg #[.slice ao al acap, .slice co cl ccap], .slice tq tl tcap, .int .i64 u] W (Bk W (.iface 75 (.int .i64 F)))) :
    Calls Tryz.prog 20 #[.agg #[.slice ao al acap, .slice co cl ccap], .slice tq tl tcap, .int .i64 u] w (Bk w (.tuple #[.agg (arrP (0, 0)), .iface 75 (.int .i64 F)])) := by
 have HC := hide hC
 clear hC
 obtain ⟨hs1, b0, b1, b2, b3, hB1⟩ := four_newS w (.cells #[.slice ao al acap, .slice co cl ccap] 25) (.cells #[.slice tq tl tcap] 23) (.cells #[.int .i64 0, .int .i64 0] 64) (.cells #[.nilIface] 29)
 obtain ⟨w1, hw1⟩ := nm ((((w.alloc (.cells #[.slice ao al acap, .slice co cl ccap] 25)).alloc (.cells #[.slice tq tl tcap] 23)).alloc (.cells #[.int .i64 0, .int .i64 0] 64)).alloc (.cells #[.nilIface] 29))
 rw [← hw1] at hs1 b0 b1 b2 b3 hB1
 have HB1 := hide hB1
 have I0 : Hid (Blk w1 w.heap.size 25 #[.slice ao al acap, .slice co cl ccap]) := b0
 have I1 : Hid (Blk w1 (w.heap.size + 1) 23 #[.slice tq tl tcap]) := b1
 have I2 : Hid (Blk w1 (w.heap.size + 1 + 1) 64 (arrP (0, 0))) := b2
 have I3 : Hid (Blk w1 (w.heap.size + 1 + 1 + 1) 29 #[.nilIface]) := b3
 clear hs1 b0 b1 b2 b3 hB1
 go_enter Tryz.func20, Tryz.ntmps20
 go_upto_region 1 with fail
 rw [← hw1]
 clear hw1
 have i0 : w1.cell? ⟨w.heap.size, 0, none⟩ = some (.slice ao al acap) := I0.out.cell 0
 have i1 : w1.cell? ⟨w.heap.size, 1, none⟩ = some (.slice co cl ccap) := I0.out.cell 1
 have i2 : w1.cell? ⟨w.heap.size + 1, 0, none⟩ = some (.slice tq tl tcap) := I1.out.cell 0
 go_wp2_with fail
 go_at_call 61
 refine (HC.out _ HB1.out).mono ?_
 rintro e w2 ⟨rfl, hb2⟩
 have HB2 := hide (HB1.out.trans (hb2.mono HB1.out.size))
 have C2 := hide (I2.out.below hb2)
 have C3 := hide (I3.out.below hb2)
 clear hb2 i0 i1 i2
 have e1 : w2.cell? ⟨w.heap.size + 1 + 1, 0, none⟩ = some (.int .i64 0) := C2.out.cell 0
 have e2 : w2.cell? ⟨w.heap.size + 1 + 1, 1, none⟩ = some (.int .i64 0) := C2.out.cell 1
 have z1 : w2.frozen? ⟨w.heap.size + 1 + 1, 0, none⟩ = false := C2.out.frozen 0
 have z2 : w2.frozen? ⟨w.heap.size + 1 + 1, 1, none⟩ = false := C2.out.frozen 1
 have e3 : w2.cell? ⟨w.heap.size + 1 + 1 + 1, 0, none⟩ = some .nilIface := C3.out.cell 0
 have z3 : w2.frozen? ⟨w.heap.size + 1 + 1 + 1, 0, none⟩ = false := C3.out.frozen 0
 go_wp2
 have r1 : Blk (((w2.setCell ⟨w.heap.size + 1 + 1, 0, none⟩ (.int .i64 0)).setCell ⟨w.heap.size + 1 + 1, 1, none⟩ (.int .i64 0)).setCell ⟨w.heap.size + 1 + 1 + 1, 0, none⟩ (.iface 75 (.int .i64 F))) (w.heap.size + 1 + 1) 64 (arrP (0, 0)) := (putP_blk C2.out (0, 0)).far (by omega) _ _
 have r2 : Blk (((w2.setCell ⟨w.heap.size + 1 + 1, 0, none⟩ (.int .i64 0)).setCell ⟨w.heap.size + 1 + 1, 1, none⟩ (.int .i64 0)).setCell ⟨w.heap.size + 1 + 1 + 1, 0, none⟩ (.iface 75 (.int .i64 F))) (w.heap.size + 1 + 1 + 1) 29 #[.iface 75 (.int .i64 F)] := ((C3.out.far (by omega) _ _).far (by omega) _ _).set 0 _
 have l1 := loadP r1
 have l2 := loadE r2
 refine bodyPost_ret (v := .tuple #[.agg (arrP (0, 0)), .iface 75 (.int .i64 F)]) ?_ rfl ⟨rfl, ?_⟩
 ·rw [results_two rfl]
  simp [asAddr, Result.andThen, l1, l2]
 ·exact ((HB2.out.setCell (by simp; omega) _).setCell (by simp; omega) _).setCell (by simp; omega) _
theorem spanOf_any (va vc vt : Value) (ats : List At) (c t : List Int) (u : Int) (w : World) (hA : ReadsA w va ats) (hC : Reads w vc c) (hT : Reads w vt t) (hK : KindsLaid w) :
    Calls Tryz.prog 20 #[.agg #[va, vc], vt, .int .i64 u] w (Bk w (.tuple #[.agg (arrP (spanLo ats c t u, spanHi ats c t u)), errV (spanFault ats c t u)])) := by
 have hCk := fun W (hW : Below w.heap.size w W) => spcheck_any va vc vt ats c t u W (hA.below hW) (hC.below hW) (hT.below hW) (hK.below hW)
 have hH := fun (N : Nat → Int) W (hW : Below w.heap.size w W) => wholds_any va vc ats c N W (hA.below hW) (hC.below hW) (hK.below hW)
 have hQ := fun (N : Nat → Int) W (hW : Below w.heap.size w W) => count_any t vt N W (hT.below hW)
 obtain ⟨ao, acap, rfl, _⟩ := hA.slice
 obtain ⟨co, ccap, rfl, _⟩ := hC.slice
 obtain ⟨tq, tcap, rfl, _⟩ := hT.slice
 by_cases h0 : spCheckN ats c t u = 0
 ·rw [h0] at hCk
  have hgood : formFault ats c = 0 ∧ faultN t = 0 ∧ (0 ≤ u ∧ u ≤ 6) := by
   unfold spCheckN at h0
   by_cases h1 : formFault ats c = 0
   ·rw [if_pos h1] at h0
    by_cases h2 : faultN t = 0
    ·rw [if_pos h2] at h0
     by_cases h3 : 0 ≤ u ∧ u ≤ 6
     ·exact ⟨h1, h2, h3⟩
     ·rw [if_neg h3] at h0; exact absurd h0 (by decide)
    ·rw [if_neg h2] at h0; exact absurd h0 h2
   ·rw [if_neg h1] at h0; exact absurd h0 h1
  obtain ⟨h1, h2, h3⟩ := hgood
  obtain ⟨n, rfl⟩ := Int.eq_ofNat_of_zero_le h3.1
  have hn : n ≤ 6 := by omega
  refine spof_right ao _ acap co _ ccap tq _ tcap n hn (fun N => (madeN N 8).formIs ats c) (fun N => sumIn (liesB t) N 8) (fun k => spanFrom ats c t n ((worldsL n).take k)) _ w hCk (fun M W hM hW => hH M W hW h1 (everyC_right hn hM)) (fun M W hM hW => ?_) rfl (fun k M hM => ?_) ?_
  ·have h := hQ M W hW
   have e0 : countFault t M = 0 := by unfold countFault; rw [if_pos h2]; exact everyC_right hn hM
   have e1 : countN t M = sumIn (liesB t) M 8 := by unfold countN; rw [if_pos e0]
   rw [e0, e1] at h
   exact h
  ·have hk : (worldsL n)[k]? = some (madeN M 8) := by unfold worldsL; rw [List.getElem?_map, hM]; rfl
   show spanFrom ats c t n ((worldsL n).take (k + 1)) = _
   rw [List.take_add_one, hk]
   show spanFrom ats c t n ((worldsL n).take k ++ [madeN M 8]) = _
   rw [spanFrom_add]
   unfold spanStep
   rw [made_size h2 (everyC_right hn (List.mem_of_getElem? hM))]
  ·have el : (worldsL n).take (everyC n).length = worldsL n := by rw [← worldsL_length, List.take_length]
   show _ = if (spanFrom ats c t n ((worldsL n).take (everyC n).length)).2 < (spanFrom ats c t n ((worldsL n).take (everyC n).length)).1 then _ else Value.tuple #[.agg (arrP (spanFrom ats c t n ((worldsL n).take (everyC n).length))), .nilIface]
   rw [el]
   rcases span_from (ats := ats) (c := c) (t := t) (u := (n : Int)) (worldsL n) (made_few h2 hn) with ⟨g1, g2⟩ | ⟨g1, g2, g3, g4⟩
   ·rw [g1, if_pos (by show (-1 : Int) < (n : Int) + 1; omega)]
    have e0 : spanFault ats c t (n : Int) = 5 := by
     unfold spanFault; rw [if_pos h1, if_pos h2, if_pos h3, if_pos]
     rw [Int.toNat_natCast]; unfold spanP; rw [g2]; decide
    have e1 : spanLo ats c t (n : Int) = 0 := by unfold spanLo; rw [if_neg (by rw [e0]; decide)]
    have e2 : spanHi ats c t (n : Int) = 0 := by unfold spanHi; rw [if_neg (by rw [e0]; decide)]
    rw [e0, e1, e2]; rfl
   ·rw [g1, if_neg (by omega)]
    have e0 : spanFault ats c t (n : Int) = 0 := by
     unfold spanFault; rw [if_pos h1, if_pos h2, if_pos h3, if_neg]
     rw [Int.toNat_natCast]; unfold spanP; omega
    have e1 : spanLo ats c t (n : Int) = (spanOver ats c t (worldsL n)).1 := by unfold spanLo; rw [if_pos e0, Int.toNat_natCast]; rfl
    have e2 : spanHi ats c t (n : Int) = (spanOver ats c t (worldsL n)).2 := by unfold spanHi; rw [if_pos e0, Int.toNat_natCast]; rfl
    rw [e0, e1, e2]; rfl
 ·rw [errV_no h0] at hCk
  have e0 : spanFault ats c t u = spCheckN ats c t u := by
   unfold spCheckN at h0 ⊢
   unfold spanFault
   by_cases h1 : formFault ats c = 0
   ·rw [if_pos h1] at h0 ⊢
    rw [if_pos h1]
    by_cases h2 : faultN t = 0
    ·rw [if_pos h2] at h0 ⊢
     rw [if_pos h2]
     by_cases h3 : 0 ≤ u ∧ u ≤ 6
     ·rw [if_pos h3] at h0; exact absurd rfl h0
     ·rw [if_neg h3, if_neg h3]
    ·rw [if_neg h2, if_neg h2]
   ·rw [if_neg h1, if_neg h1]
  have e1 : spanLo ats c t u = 0 := by unfold spanLo; rw [if_neg (by rw [e0]; exact h0)]
  have e2 : spanHi ats c t u = 0 := by unfold spanHi; rw [if_neg (by rw [e0]; exact h0)]
  rw [e0, e1, e2, errV_no h0]
  exact spof_wrong ao _ acap co _ ccap tq _ tcap u _ w hCk
end Go.Proofs.YtjaedfjfcghgcabGreatDoor
namespace Go.Proofs.YtjaedfjfcghgcabGreatDoor
open Go.ChangeShapes Go.WideShapes Go.ChangeAt Go.RowKit
set_option maxRecDepth 100000
theorem sIndexByte_any (s : ByteArray) (c : Int) (w : World) :
    Calls Tryz.prog 152 #[.string s, .int .u8 c] w (Sk w (.int .i64 (Lib.indexByte s.data.toList c.toNat.toUInt8))) := by
 go_enter Tryz.func152, Tryz.ntmps152
 go_wp2
 rw [run_callFunc_extern Tryz.func175 (by kernel_rfl) (by kernel_rfl) (by kernel_rfl) (e := Extern.BytealgIndexByte.indexByte) (by kernel_rfl), Lib.run_indexByteString]
 simp only [Result.andThen]
 rw [Oper.upon_value]
 go_wp2
 go_ret
 exact ⟨rfl, rfl⟩
theorem indexByte_any (s : ByteArray) (c : Int) (w : World) :
    Calls Tryz.prog 123 #[.string s, .int .u8 c] w (Sk w (.int .i64 (Lib.indexByte s.data.toList c.toNat.toUInt8))) := by
 go_enter Tryz.func123, Tryz.ntmps123
 go_wp2_with (go_at_call 152; refine (sIndexByte_any _ _ _).mono ?_; rintro e w' ⟨rfl, rfl⟩)
 go_ret
 exact ⟨rfl, rfl⟩
theorem index_sign : ∀ b : UInt8, Lib.indexByte letterL b = signOf b := by
 intro b
 have h : ∀ n : Fin 256, Lib.indexByte letterL ⟨⟨n⟩⟩ = signOf ⟨⟨n⟩⟩ := by decide +kernel
 exact h b.toBitVec.toFin
theorem indexLetter_any (b : UInt8) (w : World) :
    Calls Tryz.prog 123 #[.string { data := #[65, 66, 67, 48, 49, 43, 42, 45, 126] }, .int .u8 (b.toNat : Int)] w (Sk w (.int .i64 (signOf b))) := by
 have := indexByte_any { data := #[65, 66, 67, 48, 49, 43, 42, 45, 126] } (b.toNat : Int) w
 have e : Lib.indexByte (ByteArray.mk #[65, 66, 67, 48, 49, 43, 42, 45, 126]).data.toList (b.toNat : Int).toNat.toUInt8 = signOf b := by
  rw [← index_sign b, Int.toNat_natCast]
  congr 1
  simp
 rwa [e] at this
def runeB (r : Nat) : Bool := decide (r < 128) && (signOf (UInt8.ofNat r) != -1)
theorem runeB_low (b : UInt8) (h : b.toNat < 128) : runeB b.toNat = (signOf b != -1) := by
 simp [runeB, h]
theorem runeB_high {r : Nat} (h : 128 ≤ r) : runeB r = false := by
 simp [runeB]; omega
theorem no_high : ∀ (k : Nat), k ≤ 9 → ∀ b : UInt8, 128 ≤ b.toNat → Lib.indexByte (letterL.drop k) b = -1 := by
 intro k hk b hb
 have h : ∀ k : Fin 10, ∀ n : Fin 256, 128 ≤ n.val → Lib.indexByte (letterL.drop k.val) ⟨⟨n⟩⟩ = -1 := by decide +kernel
 exact h ⟨k, by omega⟩ b.toBitVec.toFin hb
set_option maxRecDepth 100000 in
set_option maxHeartbeats 1000000 in
theorem indexRune_low (r : Nat) (hr : r < 128) (w : World) :
    Calls Tryz.prog 179 #[.string { data := #[65, 66, 67, 48, 49, 43, 42, 45, 126] }, .int .i32 r] w (Bk w (.int .i64 (signOf (UInt8.ofNat r)))) := by
 have hb : (UInt8.ofNat r).toNat = r := by simp; omega
 have c : Calls Tryz.prog 123 #[.string { data := #[65, 66, 67, 48, 49, 43, 42, 45, 126] }, .int .u8 (r : Int)] w (Sk w (.int .i64 (signOf (UInt8.ofNat r)))) := by
  have := indexLetter_any (UInt8.ofNat r) w
  rwa [hb] at this
 have HC := hide c
 clear c hb
 go_enter Tryz.func179, Tryz.ntmps179
 go_wp2_with (go_at_call 123; refine HC.out.mono ?_; rintro e w' ⟨rfl, rfl⟩)
 go_ret
 exact ⟨rfl, Below.refl _ _⟩
set_option maxRecDepth 100000 in
theorem validRune_no (r : Int) (h0 : 55296 ≤ r) (h1 : r ≤ 57343) (w : World) :
    Calls Tryz.prog 205 #[.int .i32 r] w (Sk w (.bool false)) := by
 go_enter Tryz.func205, Tryz.ntmps205
 go_wp2
 go_ret
 exact ⟨rfl, rfl⟩
set_option maxRecDepth 100000 in
theorem validRune_ok (r : Int) (h0 : 0 ≤ r) (h : r < 55296 ∨ 57343 < r ∧ r ≤ 1114111) (w : World) :
    Calls Tryz.prog 205 #[.int .i32 r] w (Sk w (.bool true)) := by
 rcases h with h | ⟨h, h'⟩
 all_goals
  go_enter Tryz.func205, Tryz.ntmps205
  go_wp2
  go_ret
  exact ⟨rfl, rfl⟩
set_option maxRecDepth 100000 in
set_option maxHeartbeats 1000000 in
theorem indexRune_no (r : Int) (h0 : 55296 ≤ r) (h1 : r ≤ 57343) (w : World) :
    Calls Tryz.prog 179 #[.string { data := #[65, 66, 67, 48, 49, 43, 42, 45, 126] }, .int .i32 r] w (Bk w (.int .i64 (-1))) := by
 go_enter Tryz.func179, Tryz.ntmps179
 go_wp2_with (go_at_call 205; refine (validRune_no _ h0 h1 _).mono ?_; rintro e w' ⟨rfl, rfl⟩)
 go_ret
 exact ⟨rfl, Below.refl _ _⟩
theorem decode_letter : ∀ pos : Nat, pos < 9 → (Utf8.decode { data := #[65, 66, 67, 48, 49, 43, 42, 45, 126] } pos).1 < 128 ∧ (Utf8.decode { data := #[65, 66, 67, 48, 49, 43, 42, 45, 126] } pos).2 = 1 := by
 decide +kernel
set_option maxRecDepth 100000 in
set_option maxHeartbeats 2000000 in
theorem indexRune_err (w : World) :
    Calls Tryz.prog 179 #[.string { data := #[65, 66, 67, 48, 49, 43, 42, 45, 126] }, .int .i32 65533] w (Bk w (.int .i64 (-1))) := by
 obtain ⟨s, hs⟩ : ∃ s : ByteArray, s = { data := #[65, 66, 67, 48, 49, 43, 42, 45, 126] } := ⟨_, rfl⟩
 have HD : Hid (∀ pos : Nat, pos < 9 → (Utf8.decode s pos).1 < 128 ∧ (Utf8.decode s pos).2 = 1) := by unfold Hid; rw [hs]; exact decode_letter
 have HZ : Hid (s.size = 9) := by unfold Hid; rw [hs]; rfl
 rw [← hs]
 clear hs
 go_enter Tryz.func179, Tryz.ntmps179
 go_wp2
 go_loopg [] 9 (fun gf wx => ∃ pos : Nat, pos + gf = 9 ∧ wx.heap[w.heap.size]? = some (.stringIter s pos) ∧ Below w.heap.size w wx)
 case atStart => exact ⟨0, rfl, World.iter_heap w s 0, (Below.refl _ w).alloc (Nat.le_refl _) _⟩
 case round =>
  obtain ⟨pos, hpos, hit, hbw⟩ := hrel
  by_cases hps : pos < 9
  ·obtain ⟨g', rfl⟩ : ∃ g', gk = g' + 1 := ⟨gk - 1, by omega⟩
   have hnx : ∀ ty, (Instr.next (.pointer (some ⟨w.heap.size, 0, none⟩)) true ty).run Tryz.prog wr = _ := fun ty => Lib.run_next_any_at wr w.heap.size s pos ty hit (by rw [HZ.out]; exact hps)
   have hd := HD.out pos hps
   have hit2 := Lib.iterAt_heap wr w.heap.size s pos (pos + 1) hit
   have hbw2 := Lib.below_iterAt hbw (k := w.heap.size) (Nat.le_refl _) s (pos + 1)
   obtain ⟨R, hR⟩ : ∃ R, (Utf8.decode s pos).1 = R := ⟨_, rfl⟩
   rw [hR, hd.2] at hnx
   rw [hR] at hd
   have hR' : ((R : Int) == 65533) = false := by simp; omega
   obtain ⟨W, hWd⟩ : ∃ W, wr.iterAt w.heap.size s (pos + 1) = W := ⟨_, rfl⟩
   rw [hWd] at hnx hit2 hbw2
   have HI : Hid (W.heap[w.heap.size]? = some (.stringIter s (pos + 1)) ∧ Below w.heap.size w W) := ⟨hit2, hbw2⟩
   clear hit hbw hit2 hbw2 hWd hd hR
   go_wp2
   go_roundg g'
   case measure => omega
   case rel => exact ⟨pos + 1, by omega, HI.out.1, HI.out.2⟩
  ·have hnx : ∀ ty, (Instr.next (.pointer (some ⟨w.heap.size, 0, none⟩)) true ty).run Tryz.prog wr = _ := fun ty => Lib.run_next_end_at wr w.heap.size s pos ty hit (by rw [HZ.out]; exact hps)
   have HB := hide hbw
   clear hit hbw
   go_wp2
   go_ret
   exact ⟨rfl, HB.out⟩
end Go.Proofs.YtjaedfjfcghgcabGreatDoor
namespace Go.Proofs.YtjaedfjfcghgcabGreatDoor
open Go.ChangeShapes Go.WideShapes Go.ChangeAt Go.RowKit
set_option maxRecDepth 100000
theorem noHigh_any (s : ByteArray) (k : Nat) (hk : k ≤ 9) (hs : s.data.toList = letterL.drop k) (b : UInt8) (hb : 128 ≤ b.toNat) (W : World) :
    Calls Tryz.prog 123 #[.string s, .int .u8 (b.toNat : Int)] W fun e w' => e = .returned (.int .i64 (-1)) ∧ w' = W := by
 have := indexByte_any s (b.toNat : Int) W
 have e : Lib.indexByte s.data.toList (b.toNat : Int).toNat.toUInt8 = -1 := by
  rw [hs, ← no_high k hk b hb, Int.toNat_natCast]
  congr 1
  simp
 rw [e] at this
 exact this.mono fun _ _ h => (And.intro h.1 h.2.symm)
set_option maxRecDepth 100000 in
set_option maxHeartbeats 4000000 in
theorem indexRune_two (r : Int) (h0 : 128 ≤ r) (h1 : r < 2048) (x0 x1 : UInt8) (hE : Utf8.encode r = { data := #[x0, x1] }) (hy : 128 ≤ (x1.toNat : Int)) (w : World) :
    Calls Tryz.prog 179 #[.string { data := #[65, 66, 67, 48, 49, 43, 42, 45, 126] }, .int .i32 r] w (Bk w (.int .i64 (-1))) := by
 have hcv : ∀ W, (convert 21 9 (.int .i32 r)).run Tryz.prog W = .ok (.string { data := #[x0, x1] }) W := fun W => by
  rw [run_convert_int_string W 21 9 .i32 r (by kernel_rfl) (by kernel_rfl), hE]
 have HV : Hid (∀ W, Calls Tryz.prog 205 #[.int .i32 r] W (Sk W (.bool true))) := fun W => validRune_ok r (by omega) (by omega) W
 have hneq : (((((ByteArray.mk #[65, 66, 67, 48, 49, 43, 42, 45, 126])[1]'(by decide)).toNat : Nat) : Int) != ((((ByteArray.mk #[x0, x1])[1]'(by simp [ByteArray.size])).toNat : Nat) : Int)) = true := by
  show ((66 : Int) != (x1.toNat : Int)) = true
  simp; omega
 have HY : Hid (128 ≤ x1.toNat) := by unfold Hid; omega
 clear hE hy
 go_enter Tryz.func179, Tryz.ntmps179
 go_wp2_with (go_at_call 205; refine (HV.out _).mono ?_; rintro e w' ⟨rfl, rfl⟩)
 go_step3
 go_wp2
 refine wp_loop_rounds 1 ?_
 rw [rounds_succ]
 go_wp2_with fail
 go_step3
 go_wp2_with fail
 go_quiet (fail)
 go_wp2_with fail
 go_quiet (first | (go_at_call 123; exact (noHigh_any _ 2 (by omega) rfl x1 HY.out _).mono fun _ _ h => ⟨h.1, _, h.2⟩))
 go_wp2
 simp only [Exit.noGoto_ret, Exit.inBlock, Exit.then]
 go_ret
 exact ⟨rfl, below_drewNs _ _⟩
set_option maxRecDepth 100000 in
set_option maxHeartbeats 4000000 in
theorem indexRune_three (r : Int) (h0 : 2048 ≤ r) (h1 : r < 65536) (hne : ¬ r = 65533) (hsur : r < 55296 ∨ 57343 < r) (x0 x1 x2 : UInt8) (hE : Utf8.encode r = { data := #[x0, x1, x2] }) (hy : 128 ≤ (x2.toNat : Int)) (w : World) :
    Calls Tryz.prog 179 #[.string { data := #[65, 66, 67, 48, 49, 43, 42, 45, 126] }, .int .i32 r] w (Bk w (.int .i64 (-1))) := by
 have hcv : ∀ W, (convert 21 9 (.int .i32 r)).run Tryz.prog W = .ok (.string { data := #[x0, x1, x2] }) W := fun W => by
  rw [run_convert_int_string W 21 9 .i32 r (by kernel_rfl) (by kernel_rfl), hE]
 have HV : Hid (∀ W, Calls Tryz.prog 205 #[.int .i32 r] W (Sk W (.bool true))) := fun W => validRune_ok r (by omega) (by omega) W
 have hne1 : (r == 65533) = false := by simpa using hne
 clear hne
 have hneq : (((((ByteArray.mk #[65, 66, 67, 48, 49, 43, 42, 45, 126])[2]'(by decide)).toNat : Nat) : Int) != ((((ByteArray.mk #[x0, x1, x2])[2]'(by simp [ByteArray.size])).toNat : Nat) : Int)) = true := by
  show ((67 : Int) != (x2.toNat : Int)) = true
  simp; omega
 have HY : Hid (128 ≤ x2.toNat) := by unfold Hid; omega
 clear hE hy
 go_enter Tryz.func179, Tryz.ntmps179
 go_wp2_with (go_at_call 205; refine (HV.out _).mono ?_; rintro e w' ⟨rfl, rfl⟩)
 go_step3
 go_wp2
 refine wp_loop_rounds 1 ?_
 rw [rounds_succ]
 go_wp2_with fail
 go_step3
 go_wp2_with fail
 go_quiet (fail)
 go_wp2_with fail
 go_quiet (first | (go_at_call 123; exact (noHigh_any _ 3 (by omega) rfl x2 HY.out _).mono fun _ _ h => ⟨h.1, _, h.2⟩))
 go_wp2
 simp only [Exit.noGoto_ret, Exit.inBlock, Exit.then]
 go_ret
 exact ⟨rfl, below_drewNs _ _⟩
set_option maxRecDepth 100000 in
set_option maxHeartbeats 4000000 in
theorem indexRune_four (r : Int) (h0 : 65536 ≤ r) (h1 : r ≤ 1114111) (x0 x1 x2 x3 : UInt8) (hE : Utf8.encode r = { data := #[x0, x1, x2, x3] }) (hy : 128 ≤ (x3.toNat : Int)) (w : World) :
    Calls Tryz.prog 179 #[.string { data := #[65, 66, 67, 48, 49, 43, 42, 45, 126] }, .int .i32 r] w (Bk w (.int .i64 (-1))) := by
 have hcv : ∀ W, (convert 21 9 (.int .i32 r)).run Tryz.prog W = .ok (.string { data := #[x0, x1, x2, x3] }) W := fun W => by
  rw [run_convert_int_string W 21 9 .i32 r (by kernel_rfl) (by kernel_rfl), hE]
 have HV : Hid (∀ W, Calls Tryz.prog 205 #[.int .i32 r] W (Sk W (.bool true))) := fun W => validRune_ok r (by omega) (by omega) W
 have hneq : (((((ByteArray.mk #[65, 66, 67, 48, 49, 43, 42, 45, 126])[3]'(by decide)).toNat : Nat) : Int) != ((((ByteArray.mk #[x0, x1, x2, x3])[3]'(by simp [ByteArray.size])).toNat : Nat) : Int)) = true := by
  show ((48 : Int) != (x3.toNat : Int)) = true
  simp; omega
 have HY : Hid (128 ≤ x3.toNat) := by unfold Hid; omega
 clear hE hy
 go_enter Tryz.func179, Tryz.ntmps179
 go_wp2_with (go_at_call 205; refine (HV.out _).mono ?_; rintro e w' ⟨rfl, rfl⟩)
 go_step3
 go_wp2
 refine wp_loop_rounds 1 ?_
 rw [rounds_succ]
 go_wp2_with fail
 go_step3
 go_wp2_with fail
 go_quiet (fail)
 go_wp2_with fail
 go_quiet (first | (go_at_call 123; exact (noHigh_any _ 4 (by omega) rfl x3 HY.out _).mono fun _ _ h => ⟨h.1, _, h.2⟩))
 go_wp2
 simp only [Exit.noGoto_ret, Exit.inBlock, Exit.then]
 go_ret
 exact ⟨rfl, below_drewNs _ _⟩
end Go.Proofs.YtjaedfjfcghgcabGreatDoor
namespace Go.Proofs.YtjaedfjfcghgcabGreatDoor
open Go.ChangeShapes Go.WideShapes Go.ChangeAt Go.RowKit
set_option maxRecDepth 100000
def runeI (r : Nat) : Int := if r < 128 then signOf (UInt8.ofNat r) else -1
theorem runeI_iff (r : Nat) : (decide (0 ≤ runeI r)) = runeB r := by
 unfold runeI runeB
 by_cases h : r < 128
 ·rw [if_pos h]
  rcases byte_all (UInt8.ofNat r) with h1 | h1
  ·rw [h1]; simp
  ·have := signB_iff.1 h1.1
   have e : (signOf (UInt8.ofNat r) != -1) = true := by simp; omega
   rw [e]; simp [h]; omega
 ·rw [if_neg h]; simp [h]
theorem tail_high (n : Nat) : 128 ≤ ((UInt8.ofNat (128 + n % 64)).toNat : Int) := by
 have : (UInt8.ofNat (128 + n % 64)).toNat = 128 + n % 64 := by simp; omega
 rw [this]; omega
theorem indexRune_any (r : Nat) (hr : r ≤ 1114111) (w : World) :
    Calls Tryz.prog 179 #[.string { data := #[65, 66, 67, 48, 49, 43, 42, 45, 126] }, .int .i32 r] w (Bk w (.int .i64 (runeI r))) := by
 unfold runeI
 by_cases h : r < 128
 ·rw [if_pos h]; exact indexRune_low r h w
 rw [if_neg h]
 by_cases he : r = 65533
 ·subst he; exact indexRune_err w
 by_cases hs : 55296 ≤ r ∧ r ≤ 57343
 ·exact indexRune_no (r : Int) (by omega) (by omega) w
 have hv : Utf8.valid (r : Int) = true := by
  unfold Utf8.valid
  rw [Bool.or_eq_true, Bool.and_eq_true, Bool.and_eq_true]
  simp only [decide_eq_true_eq]
  omega
 have hE : Utf8.encode (r : Int) = if r < 128 then ⟨#[UInt8.ofNat r]⟩ else if r < 2048 then ⟨#[UInt8.ofNat (192 + r / 64), UInt8.ofNat (128 + r % 64)]⟩ else if r < 65536 then ⟨#[UInt8.ofNat (224 + r / 4096), UInt8.ofNat (128 + r / 64 % 64), UInt8.ofNat (128 + r % 64)]⟩ else ⟨#[UInt8.ofNat (240 + r / 262144), UInt8.ofNat (128 + r / 4096 % 64), UInt8.ofNat (128 + r / 64 % 64), UInt8.ofNat (128 + r % 64)]⟩ := by
  unfold Utf8.encode
  rw [if_pos hv]
  rfl
 rw [if_neg h] at hE
 by_cases h2 : r < 2048
 ·rw [if_pos h2] at hE
  exact indexRune_two (r : Int) (by omega) (by omega) _ _ hE (tail_high r) w
 rw [if_neg h2] at hE
 by_cases h3 : r < 65536
 ·rw [if_pos h3] at hE
  exact indexRune_three (r : Int) (by omega) (by omega) (by omega) (by omega) _ _ _ hE (tail_high r) w
 rw [if_neg h3] at hE
 exact indexRune_four (r : Int) (by omega) (by omega) _ _ _ _ hE (tail_high r) w
theorem containsRune_any (r : Nat) (hr : r ≤ 1114111) (w : World) :
    Calls Tryz.prog 156 #[.string { data := #[65, 66, 67, 48, 49, 43, 42, 45, 126] }, .int .i32 r] w (Bk w (.bool (runeB r))) := by
 have HC : Hid (∀ W, Calls Tryz.prog 179 #[.string { data := #[65, 66, 67, 48, 49, 43, 42, 45, 126] }, .int .i32 r] W (Bk W (.int .i64 (runeI r)))) := fun W => indexRune_any r hr W
 have HI : Hid (decide (0 ≤ runeI r) = runeB r) := runeI_iff r
 clear hr
 go_enter Tryz.func156, Tryz.ntmps156
 go_wp2_with (go_at_call 179; refine (HC.out _).mono ?_; rintro e w' ⟨rfl, hb⟩)
 go_ret
 exact ⟨back_b HI.out, hb⟩
theorem noLetter_any (r : Nat) (hr : r ≤ 1114111) (w : World) :
    Calls Tryz.prog 155 #[.int .i32 r] w (Bk w (.bool (!runeB r))) := by
 have HC : Hid (∀ W, Calls Tryz.prog 156 #[.string { data := #[65, 66, 67, 48, 49, 43, 42, 45, 126] }, .int .i32 r] W (Bk W (.bool (runeB r)))) := fun W => containsRune_any r hr W
 clear hr
 go_enter Tryz.func155, Tryz.ntmps155
 go_wp2_with (go_at_call 156; refine (HC.out _).mono ?_; rintro e w' ⟨rfl, hb⟩)
 go_ret
 exact ⟨rfl, hb⟩
theorem decode_low (s : ByteArray) (pos : Nat) (h : pos < s.size) (ha : (s[pos]'h).toNat < 128) : Utf8.decode s pos = ((s[pos]'h).toNat, 1) := by
 simp only [Utf8.decode, get_at s pos h, ha, if_true]
def badFrom : List UInt8 → Nat → Int
 | [], _ => -1
 | b :: l, k => if (signOf b != -1) = true then badFrom l (k + 1) else k
theorem badFrom_iff (l : List UInt8) (k : Nat) : decide (0 ≤ badFrom l k) = !lettersB l := by
 induction l generalizing k with
 | nil => rfl
 | cons b l ih =>
  unfold badFrom lettersB
  rw [List.all_cons]
  by_cases h : (signOf b != -1) = true
  ·rw [if_pos h, h]; exact ih (k + 1)
  ·have h' : (signOf b != -1) = false := by simpa using h
   rw [if_neg h, h']; simp
theorem badFrom_drop (s : ByteArray) {k : Nat} (hk : k < s.size) : badFrom (s.data.toList.drop k) k = if (signOf (s[k]'hk) != -1) = true then badFrom (s.data.toList.drop (k + 1)) (k + 1) else k := by
 have hk' : k < s.data.toList.length := by rw [Array.length_toList]; exact hk
 rw [List.drop_eq_getElem_cons hk']
 rfl
theorem letter_low (b : UInt8) (h : (signOf b != -1) = true) : b.toNat < 128 := by
 have h' : signOf b ≠ -1 := by simpa using h
 have := byte_sign h'
 rw [← this.2]
 rcases nine this.1 with e | e | e | e | e | e | e | e | e <;> rw [e] <;> decide
theorem rune_le (s : ByteArray) (pos : Nat) : (Utf8.decode s pos).1 ≤ 1114111 := by
 have hb : ∀ k, (s.get! (pos + k)).toNat < 256 := fun k => (s.get! (pos + k)).toNat_lt
 have h0 := hb 0; have h1 := hb 1; have h2 := hb 2; have h3 := hb 3
 simp only [Utf8.decode]
 repeat' split
 all_goals simp_all [Utf8.runeError, Utf8.valid]
 all_goals omega
set_option maxRecDepth 100000 in
set_option maxHeartbeats 2000000 in
theorem indexFunc_text (s : ByteArray) (w : World) :
    Calls Tryz.prog 206 #[.string s, .func (.func 155) #[] #[], .bool true] w (Bk w (.int .i64 (badFrom s.data.toList 0))) := by
 obtain ⟨A, hA⟩ := nm (badFrom s.data.toList 0)
 rw [← hA]
 have HA := hide hA
 clear hA
 go_enter Tryz.func206, Tryz.ntmps206
 go_wp2
 go_loopg [] s.size (fun gf wx => ∃ pos : Nat, pos + gf = s.size ∧ wx.heap[w.heap.size]? = some (.stringIter s pos) ∧ Below w.heap.size w wx ∧ badFrom (s.data.toList.drop pos) pos = A)
 case atStart => exact ⟨0, by omega, World.iter_heap w s 0, (Below.refl _ w).alloc (Nat.le_refl _) _, HA.out.symm⟩
 case round =>
  obtain ⟨pos, hpos, hit, hbw, hbad⟩ := hrel
  by_cases hps : pos < s.size
  ·obtain ⟨g', rfl⟩ : ∃ g', gk = g' + 1 := ⟨gk - 1, by omega⟩
   have hnx : ∀ ty, (Instr.next (.pointer (some ⟨w.heap.size, 0, none⟩)) true ty).run Tryz.prog wr = _ := fun ty => Lib.run_next_any_at wr w.heap.size s pos ty hit hps
   have hbd := badFrom_drop s hps
   have hle := rune_le s pos
   by_cases hL : (signOf (s[pos]'hps) != -1) = true
   ·rw [if_pos hL, hbad] at hbd
    have hlow := letter_low _ hL
    have hd := decode_low s pos hps hlow
    have hrb := runeB_low _ hlow
    rw [hL] at hrb
    obtain ⟨R, hR⟩ : ∃ R, (s[pos]'hps).toNat = R := ⟨_, rfl⟩
    rw [hR] at hrb hd
    rw [hd] at hnx hle
    have hit2 := Lib.iterAt_heap wr w.heap.size s pos (pos + 1) hit
    have hbw2 := Lib.below_iterAt hbw (k := w.heap.size) (Nat.le_refl _) s (pos + 1)
    simp only at hnx
    obtain ⟨W, hWd⟩ : ∃ W, wr.iterAt w.heap.size s (pos + 1) = W := ⟨_, rfl⟩
    rw [hWd] at hnx hit2 hbw2
    have HI : Hid (W.heap[w.heap.size]? = some (.stringIter s (pos + 1)) ∧ Below w.heap.size w W) := ⟨hit2, hbw2⟩
    have HL : Hid (w.heap.size < W.heap.size) := (Array.getElem?_eq_some_iff.1 hit2).1
    have HB := hide hbd
    have HN : Hid (Calls Tryz.prog 155 #[.int .i32 R] W (Bk W (.bool false))) := by
     have := noLetter_any R hle W
     rw [hrb] at this; exact this
    clear hit hbw hit2 hbw2 hWd hd hR hbad hbd hlow hL hrb hle
    go_wp2_with (go_at_call 155; refine HN.out.mono ?_; rintro e W' ⟨rfl, hbc⟩)
    go_roundg g'
    case measure => omega
    case rel => exact ⟨pos + 1, by omega, (hbc.block _ HL.out).trans HI.out.1, HI.out.2.trans (hbc.mono HI.out.2.size), HB.out.symm⟩
   ·rw [if_neg hL, hbad] at hbd
    have hL' : (signOf (s[pos]'hps) != -1) = false := by simpa using hL
    have hrb : runeB (Utf8.decode s pos).1 = false := by
     by_cases hlow : (s[pos]'hps).toNat < 128
     ·rw [decode_low s pos hps hlow, runeB_low _ hlow]; exact hL'
     ·exact runeB_high (decode_high s pos hps (by omega)).1
    obtain ⟨R, hR⟩ : ∃ R, (Utf8.decode s pos).1 = R := ⟨_, rfl⟩
    obtain ⟨K, hK⟩ : ∃ K, (Utf8.decode s pos).2 = K := ⟨_, rfl⟩
    rw [hR] at hrb hnx hle
    rw [hK] at hnx
    have hbw2 := Lib.below_iterAt hbw (k := w.heap.size) (Nat.le_refl _) s (pos + K)
    obtain ⟨W, hWd⟩ : ∃ W, wr.iterAt w.heap.size s (pos + K) = W := ⟨_, rfl⟩
    rw [hWd] at hnx hbw2
    have HI := hide hbw2
    have HB := hide hbd
    have HN : Hid (Calls Tryz.prog 155 #[.int .i32 R] W (Bk W (.bool true))) := by
     have := noLetter_any R hle W
     rw [hrb] at this; exact this
    clear hit hbw hbw2 hWd hR hK hbad hbd hL hL' hrb hle
    go_wp2_with (go_at_call 155; refine HN.out.mono ?_; rintro e W' ⟨rfl, hbc⟩)
    go_ret
    exact ⟨back_i HB.out.symm, HI.out.trans (hbc.mono HI.out.size)⟩
  ·have hnx : ∀ ty, (Instr.next (.pointer (some ⟨w.heap.size, 0, none⟩)) true ty).run Tryz.prog wr = _ := fun ty => Lib.run_next_end_at wr w.heap.size s pos ty hit hps
   have HB := hide hbw
   have HE : Hid (-1 = A) := by
    rw [List.drop_eq_nil_of_le (by have : s.data.toList.length = s.size := Array.length_toList
                                   omega)] at hbad
    exact hbad
   clear hit hbw hbad
   go_wp2
   go_ret
   exact ⟨back_i HE.out, HB.out⟩
theorem IndexFunc_text (s : ByteArray) (w : World) :
    Calls Tryz.prog 180 #[.string s, .func (.func 155) #[] #[]] w (Bk w (.int .i64 (badFrom s.data.toList 0))) := by
 have HC := indexFunc_text s w
 have HC' := hide HC
 clear HC
 go_enter Tryz.func180, Tryz.ntmps180
 go_wp2_with (go_at_call 206; refine HC'.out.mono ?_; rintro e w' ⟨rfl, hb⟩)
 go_ret
 exact ⟨rfl, hb⟩
theorem containsFunc_text (s : ByteArray) (w : World) :
    Calls Tryz.prog 157 #[.string s, .func (.func 155) #[] #[]] w (Bk w (.bool (!lettersB s.data.toList))) := by
 have HC : Hid (Calls Tryz.prog 180 #[.string s, .func (.func 155) #[] #[]] w (Bk w (.int .i64 (badFrom s.data.toList 0)))) := IndexFunc_text s w
 have HI : Hid (decide (0 ≤ badFrom s.data.toList 0) = !lettersB s.data.toList) := badFrom_iff _ 0
 obtain ⟨I, hI⟩ := nm (badFrom s.data.toList 0)
 rw [← hI] at HC HI
 clear hI
 go_enter Tryz.func157, Tryz.ntmps157
 go_wp2_with (go_at_call 180; refine HC.out.mono ?_; rintro e w' ⟨rfl, hb⟩)
 go_ret
 exact ⟨back_b HI.out, hb⟩
end Go.Proofs.YtjaedfjfcghgcabGreatDoor