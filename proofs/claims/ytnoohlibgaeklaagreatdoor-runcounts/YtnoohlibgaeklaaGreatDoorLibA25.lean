/-
  Facts and contracts that the statement leans on.
-/
import Derived.Test.YtnoohlibgaeklaaGreatDoorLibA24
import Derived.Test.YtnoohlibgaeklaaGreatDoorLibA19
import Derived.Test.YtnoohlibgaeklaaGreatDoorLibA12
import Derived.Test.YtnoohlibgaeklaaGreatDoorLibA11
import Derived.Test.YtnoohlibgaeklaaGreatDoorLibA17
import Derived.Test.YtnoohlibgaeklaaGreatDoorLibA18
namespace Go.Proofs.YtnoohlibgaeklaaGreatDoor
open Go.ChangeShapes Go.WideShapes Go.ChangeAt Go.RowKit
set_option maxRecDepth 100000
attribute [local go_sem] Oper.semAt_some
theorem four_newS (w : World) (o0 o1 o2 o3 : Obj) :
    ((((w.alloc o0).alloc o1).alloc o2).alloc o3).heap.size = w.heap.size + 4 ∧
    ((((w.alloc o0).alloc o1).alloc o2).alloc o3).heap[w.heap.size]? = some o0 ∧
    ((((w.alloc o0).alloc o1).alloc o2).alloc o3).heap[w.heap.size + 1]? = some o1 ∧
    ((((w.alloc o0).alloc o1).alloc o2).alloc o3).heap[w.heap.size + 1 + 1]? = some o2 ∧
    ((((w.alloc o0).alloc o1).alloc o2).alloc o3).heap[w.heap.size + 1 + 1 + 1]? = some o3 ∧
    Below w.heap.size w ((((w.alloc o0).alloc o1).alloc o2).alloc o3) := by
 have s1 : (w.alloc o0).heap.size = w.heap.size + 1 := World.size_alloc _ _
 have s2 : ((w.alloc o0).alloc o1).heap.size = w.heap.size + 1 + 1 := by rw [World.size_alloc, s1]
 have s3 : (((w.alloc o0).alloc o1).alloc o2).heap.size = w.heap.size + 1 + 1 + 1 := by rw [World.size_alloc, s2]
 refine ⟨by rw [World.size_alloc, s3], ?_, ?_, ?_, ?_, ?_⟩
 ·rw [Below.heap_alloc _ _ _ (by omega), Below.heap_alloc _ _ _ (by omega), Below.heap_alloc _ _ _ (by omega)]; exact World.alloc_heap_new _ _
 ·rw [Below.heap_alloc _ _ _ (by omega), Below.heap_alloc _ _ _ (by omega), ← s1]; exact World.alloc_heap_new _ _
 ·rw [Below.heap_alloc _ _ _ (by omega), ← s2]; exact World.alloc_heap_new _ _
 ·rw [← s3]; exact World.alloc_heap_new _ _
 ·exact ((((Below.refl _ w).alloc (Nat.le_refl _) _).alloc (by omega) _).alloc (by omega) _).alloc (by omega) _
set_option maxHeartbeats 4000000 in
theorem spof_right (ao : Option Addr) (al acap : Nat) (co : Option Addr) (cl ccap : Nat) (tq : Option Addr) (tl tcap : Nat) (n : Nat) (hn : n ≤ 6) (p : (Nat → Int) → Bool) (q : (Nat → Int) → Int) (P : Nat → Int × Int) (R : Value) (w : World)
    (hC : ∀ W, Below w.heap.size w W → Calls Tryz.prog 103 #[.agg #[.slice ao al acap, .slice co cl ccap], .slice tq tl tcap, .int .i64 n] W (Bk W .nilIface))
    (hH : ∀ (M : Nat → Int) W, M ∈ everyC n → Below w.heap.size w W → Calls Tryz.prog 81 #[.agg #[.slice ao al acap, .slice co cl ccap], .agg #[.int .i64 (M 0), .int .i64 (M 1), .int .i64 (M 2), .int .i64 (M 3), .int .i64 (M 4), .int .i64 (M 5), .int .i64 (M 6), .int .i64 (M 7)]] W (Bk W (.tuple #[.bool (p M), .nilIface])))
    (hQ : ∀ (M : Nat → Int) W, M ∈ everyC n → Below w.heap.size w W → Calls Tryz.prog 104 #[.slice tq tl tcap, .agg #[.int .i64 (M 0), .int .i64 (M 1), .int .i64 (M 2), .int .i64 (M 3), .int .i64 (M 4), .int .i64 (M 5), .int .i64 (M 6), .int .i64 (M 7)]] W (Bk W (.tuple #[.int .i64 (q M), .nilIface])))
    (h0 : P 0 = ((n : Int) + 1, -1)) (h1 : ∀ (k : Nat) (M : Nat → Int), (everyC n)[k]? = some M → P (k + 1) = if p M = true then (if q M < (P k).1 then q M else (P k).1, if (P k).2 < q M then q M else (P k).2) else P k)
    (hR : R = if (P (everyC n).length).2 < (P (everyC n).length).1 then .tuple #[.agg #[.int .i64 0, .int .i64 0], .iface 91 (.int .i64 5)] else .tuple #[.agg (arrP (P (everyC n).length)), .nilIface]) :
    Calls Tryz.prog 67 #[.agg #[.slice ao al acap, .slice co cl ccap], .slice tq tl tcap, .int .i64 n] w (Bk w R) := by
 obtain ⟨A, hA⟩ := nm (everyC n)
 have HC := hide hC
 have HF : Hid (∀ (k : Nat) (M : Nat → Int) W, A[k]? = some M → Below w.heap.size w W → Calls Tryz.prog 81 #[.agg #[.slice ao al acap, .slice co cl ccap], .agg #[.int .i64 (M 0), .int .i64 (M 1), .int .i64 (M 2), .int .i64 (M 3), .int .i64 (M 4), .int .i64 (M 5), .int .i64 (M 6), .int .i64 (M 7)]] W (Bk W (.tuple #[.bool (p M), .nilIface]))) := fun k M W hM hW => hH M W (by rw [hA] at hM; exact List.mem_of_getElem? hM) hW
 have HQ : Hid (∀ (k : Nat) (M : Nat → Int) W, A[k]? = some M → Below w.heap.size w W → Calls Tryz.prog 104 #[.slice tq tl tcap, .agg #[.int .i64 (M 0), .int .i64 (M 1), .int .i64 (M 2), .int .i64 (M 3), .int .i64 (M 4), .int .i64 (M 5), .int .i64 (M 6), .int .i64 (M 7)]] W (Bk W (.tuple #[.int .i64 (q M), .nilIface]))) := fun k M W hM hW => hQ M W (by rw [hA] at hM; exact List.mem_of_getElem? hM) hW
 have HS : Hid (∀ Bu W, W.cell? ⟨Bu, 0, none⟩ = some (.int .i64 n) → SeqR 2 Tryz.prog 118 #[.pointer (some ⟨Bu, 0, none⟩)] enc8 A W) := fun Bu W hB => by rw [hA]; exact iter_any n hn 2 (by omega) Bu W hB
 have HP0 := hide h0
 rw [← hA] at h1 hR
 have HP1 := hide h1
 have HR := hide hR
 clear hA hC hH hQ h0 h1 hR
 obtain ⟨hs1, b0, b1, b2, b3, hB1⟩ := four_newS w (.cells #[.slice ao al acap, .slice co cl ccap] 78) (.cells #[.slice tq tl tcap] 62) (.cells #[.int .i64 0, .int .i64 0] 117) (.cells #[.nilIface] 34)
 obtain ⟨w1, hw1⟩ := nm ((((w.alloc (.cells #[.slice ao al acap, .slice co cl ccap] 78)).alloc (.cells #[.slice tq tl tcap] 62)).alloc (.cells #[.int .i64 0, .int .i64 0] 117)).alloc (.cells #[.nilIface] 34))
 rw [← hw1] at hs1 b0 b1 b2 b3 hB1
 have HB1 := hide hB1
 have Hs1 := hide hs1
 have I0 : Hid (Blk w1 w.heap.size 78 #[.slice ao al acap, .slice co cl ccap]) := b0
 have I1 : Hid (Blk w1 (w.heap.size + 1) 62 #[.slice tq tl tcap]) := b1
 have I2 : Hid (Blk w1 (w.heap.size + 1 + 1) 117 (arrP (0, 0))) := b2
 have I3 : Hid (Blk w1 (w.heap.size + 1 + 1 + 1) 34 #[.nilIface]) := b3
 clear hs1 b0 b1 b2 b3 hB1
 refine (callsIn_wide (n := 3)).1 ?_
 refine callsIn_of_wp_marks Tryz.func67 rfl trivial ?_ rfl
 simp only [Tryz.ntmps67, List.size_toArray, List.length_cons, List.length_nil, Nat.reduceAdd, Nat.reduceSub, Array.replicate_succ, Array.replicate_zero, List.push_toArray, List.append_toArray, List.nil_append, List.cons_append]
 gi_upto_region 1 with fail
 rw [← hw1]
 clear hw1
 have i0 : w1.cell? ⟨w.heap.size, 0, none⟩ = some (.slice ao al acap) := I0.out.cell 0
 have i1 : w1.cell? ⟨w.heap.size, 1, none⟩ = some (.slice co cl ccap) := I0.out.cell 1
 have i2 : w1.cell? ⟨w.heap.size + 1, 0, none⟩ = some (.slice tq tl tcap) := I1.out.cell 0
 gi_wp2_with fail
 refine ⟨trivial, ?_⟩
 gi_at_call 103
 refine (callsIn_wide.2 (HC.out _ HB1.out)).mono ?_
 rintro e w2 ⟨rfl, hb2⟩
 have HB2 := hide (HB1.out.trans (hb2.mono HB1.out.size))
 have J0 := hide (I0.out.below hb2)
 have J1 := hide (I1.out.below hb2)
 have J2 := hide (I2.out.below hb2)
 have J3 := hide (I3.out.below hb2)
 obtain ⟨G, hG⟩ := nm w2.heap.size
 have HG : Hid (w.heap.size + 4 ≤ G) := by unfold Hid; rw [hG, ← Hs1.out]; exact hb2.size
 clear hb2 i0 i1 i2
 gi_wp2_with fail
 refine ⟨trivial, ?_⟩
 gi_at_call 80
 refine (callsIn_wide.2 (fitAll_any _ _)).mono ?_
 rintro e w4 ⟨rfl, rfl⟩
 gi_wp2_with fail
 obtain ⟨wl, hwl⟩ := nm ((w2.alloc (.cells #[.int .i64 ((n : Int) + 1), .int .i64 (-1)] 117)).alloc (.cells #[.int .i64 n] 3))
 have HB0 : Hid (Below w.heap.size w wl) := by unfold Hid; rw [hwl]; exact (HB2.out.alloc HB2.out.size _).alloc (by rw [World.size_alloc]; exact Nat.le_succ_of_le HB2.out.size) _
 have Hsz : Hid (wl.heap.size = G + 2) := by unfold Hid; rw [hwl, hG, World.size_alloc, World.size_alloc]
 have H0 : Hid (Blk wl w.heap.size 78 #[.slice ao al acap, .slice co cl ccap]) := by unfold Hid; rw [hwl]; exact (J0.out.old _).old _
 have H1 : Hid (Blk wl (w.heap.size + 1) 62 #[.slice tq tl tcap]) := by unfold Hid; rw [hwl]; exact (J1.out.old _).old _
 have H2 : Hid (Blk wl (w.heap.size + 1 + 1) 117 (arrP (0, 0))) := by unfold Hid; rw [hwl]; exact (J2.out.old _).old _
 have H3 : Hid (Blk wl (w.heap.size + 1 + 1 + 1) 34 #[.nilIface]) := by unfold Hid; rw [hwl]; exact (J3.out.old _).old _
 have H4 : Hid (Blk wl G 117 (arrP (P 0))) := by unfold Hid; rw [HP0.out, hwl, hG]; exact (Blk.new _ _ _).old _
 have H5 : Hid (Blk wl (G + 1) 3 #[.int .i64 n]) := by
  unfold Hid; rw [hwl, hG]
  have := Blk.new (w2.alloc (.cells #[.int .i64 ((n : Int) + 1), .int .i64 (-1)] 117)) 3 #[.int .i64 n]
  rw [World.size_alloc] at this
  exact this
 rw [← hwl, ← hG]
 clear hwl hG
 refine wpIn_range_own (by omega) (gf := 118) (lb := #[.pointer (some ⟨G + 1, 0, none⟩)]) rfl (enters_of Tryz.func118 (by kernel_rfl) rfl) (encs := enc8) (A := A)
  (fun W hW => HS.out _ W ((hW.cell (by rw [Hsz.out]; simp)).trans (H5.out.cell 0))) (fun _ => rfl)
  (fun k W => Below w.heap.size w W ∧ Blk W w.heap.size 78 #[.slice ao al acap, .slice co cl ccap] ∧ Blk W (w.heap.size + 1) 62 #[.slice tq tl tcap] ∧ Blk W (w.heap.size + 1 + 1) 117 (arrP (0, 0)) ∧ Blk W (w.heap.size + 1 + 1 + 1) 34 #[.nilIface] ∧ Blk W G 117 (arrP (P k)))
  (fun _ _ => False)
  (fun k X Y h hb => ⟨h.1.trans (hb.mono (by have := HG.out; rw [Hsz.out]; omega)), h.2.1.keep hb (by have := HG.out; rw [Hsz.out]; omega), h.2.2.1.keep hb (by have := HG.out; rw [Hsz.out]; omega), h.2.2.2.1.keep hb (by have := HG.out; rw [Hsz.out]; omega), h.2.2.2.2.1.keep hb (by have := HG.out; rw [Hsz.out]; omega), h.2.2.2.2.2.keep hb (by rw [Hsz.out]; omega)⟩)
  (fun _ _ _ h _ => h) ⟨HB0.out, H0.out, H1.out, H2.out, H3.out, H4.out⟩ ?round ?done ?stop
 case round =>
  intro ln k x W hx hl1 hl2 ⟨hB, c0, c1, c2, c3, c4⟩
  have HX := hide hx
  have Hl1 : Hid (G + 2 ≤ ln) := by unfold Hid; rw [← Hsz.out]; exact hl1
  have Hl2 := hide hl2
  have HBk := hide hB
  have C0 : Hid (Blk W w.heap.size 78 #[.slice ao al acap, .slice co cl ccap]) := c0
  have C1 : Hid (Blk W (w.heap.size + 1) 62 #[.slice tq tl tcap]) := c1
  have C2 : Hid (Blk W (w.heap.size + 1 + 1) 117 (arrP (0, 0))) := c2
  have C3 : Hid (Blk W (w.heap.size + 1 + 1 + 1) 34 #[.nilIface]) := c3
  have C4 : Hid (Blk W G 117 (arrP (P k))) := c4
  clear hx hl1 hl2 hB c0 c1 c2 c3 c4
  unfold enc8
  gi_wp2
  refine ⟨(Over.refl _ _).alloc _, fun o => ?_⟩
  obtain ⟨W2, hW2⟩ := nm ((W.alloc (.cells #[.int .i64 (x 0), .int .i64 (x 1), .int .i64 (x 2), .int .i64 (x 3), .int .i64 (x 4), .int .i64 (x 5), .int .i64 (x 6), .int .i64 (x 7)] 60)).putObj ln o)
  obtain ⟨Gx, hGx⟩ := nm W.heap.size
  have HB2 : Hid (Below w.heap.size w W2) := by unfold Hid; rw [hW2]; exact (HBk.out.alloc HBk.out.size _).trans (below_putObj _ _ (by have := Hl1.out; have := HG.out; omega))
  have D0 : Hid (Blk W2 w.heap.size 78 #[.slice ao al acap, .slice co cl ccap]) := by unfold Hid; rw [hW2]; exact (C0.out.old _).putO _ (by have := Hl1.out; have := HG.out; omega)
  have D1 : Hid (Blk W2 (w.heap.size + 1) 62 #[.slice tq tl tcap]) := by unfold Hid; rw [hW2]; exact (C1.out.old _).putO _ (by have := Hl1.out; have := HG.out; omega)
  have D2 : Hid (Blk W2 (w.heap.size + 1 + 1) 117 (arrP (0, 0))) := by unfold Hid; rw [hW2]; exact (C2.out.old _).putO _ (by have := Hl1.out; have := HG.out; omega)
  have D3 : Hid (Blk W2 (w.heap.size + 1 + 1 + 1) 34 #[.nilIface]) := by unfold Hid; rw [hW2]; exact (C3.out.old _).putO _ (by have := Hl1.out; have := HG.out; omega)
  have D4 : Hid (Blk W2 G 117 (arrP (P k))) := by unfold Hid; rw [hW2]; exact (C4.out.old _).putO _ (by have := Hl1.out; omega)
  have D8 : Hid (Blk W2 Gx 60 (arr8 x)) := by unfold Hid; rw [hW2, hGx]; exact (Blk.new _ _ _).putO _ (by have := Hl2.out; omega)
  rw [← hW2, ← hGx]
  clear hW2 hGx
  have HFk := hide (HF.out k x W2 HX.out HB2.out)
  have HM := hide (HP1.out k x HX.out)
  have HQk : Hid (∀ W, Below w.heap.size w W → Calls Tryz.prog 104 #[.slice tq tl tcap, .agg #[.int .i64 (x 0), .int .i64 (x 1), .int .i64 (x 2), .int .i64 (x 3), .int .i64 (x 4), .int .i64 (x 5), .int .i64 (x 6), .int .i64 (x 7)]] W (Bk W (.tuple #[.int .i64 (q x), .nilIface]))) := fun W => HQ.out k x W HX.out
  obtain ⟨g, hg⟩ := nm (p x)
  obtain ⟨m, hm⟩ := nm (q x)
  obtain ⟨⟨lo, hi⟩, hp⟩ : ∃ r, r = P k := ⟨_, rfl⟩
  rw [← hg] at HFk HM
  rw [← hm] at HM HQk
  rw [← hp] at HM D4
  clear hg hm hp
  have e0 : W2.cell? ⟨w.heap.size, 0, none⟩ = some (.slice ao al acap) := D0.out.cell 0
  have e1 : W2.cell? ⟨w.heap.size, 1, none⟩ = some (.slice co cl ccap) := D0.out.cell 1
  obtain ⟨x0, x1, x2, x3, x4, x5, x6, x7⟩ := D8.out.cells8
  gi_wp2_with fail
  refine ⟨trivial, ?_⟩
  gi_at_call 81
  refine (CallsIn.inRound ln (callsIn_wide.2 HFk.out)).mono ?_
  rintro e W3 ⟨rfl, hb3⟩
  have HB3 := hide (HB2.out.trans (hb3.mono HB2.out.size))
  have E0 := hide (D0.out.below hb3)
  have E1 := hide (D1.out.below hb3)
  have E2 := hide (D2.out.below hb3)
  have E3 := hide (D3.out.below hb3)
  have E4 := hide (D4.out.below hb3)
  have E8 := hide (D8.out.below hb3)
  have HO3 : Hid (Over wl.heap.size W2 W3) := Over.of_below hb3
  clear hb3 e0 e1 x0 x1 x2 x3 x4 x5 x6 x7
  cases g with
  | true =>
   have HM1 : Hid (P (k + 1) = (if m < lo then m else lo, if hi < m then m else hi)) := by unfold Hid; have h := HM.out; rw [if_pos rfl] at h; exact h
   clear HM
   have e3 : W3.cell? ⟨w.heap.size + 1, 0, none⟩ = some (.slice tq tl tcap) := E1.out.cell 0
   obtain ⟨x0, x1, x2, x3, x4, x5, x6, x7⟩ := E8.out.cells8
   gi_wp2_with fail
   refine ⟨trivial, ?_⟩
   gi_at_call 104
   refine (CallsIn.inRound ln (callsIn_wide.2 (HQk.out _ HB3.out))).mono ?_
   rintro e W4 ⟨rfl, hb4⟩
   have HB4 := hide (HB3.out.trans (hb4.mono HB3.out.size))
   have F0 := hide (E0.out.below hb4)
   have F1 := hide (E1.out.below hb4)
   have F2 := hide (E2.out.below hb4)
   have F3 := hide (E3.out.below hb4)
   have F4 := hide (E4.out.below hb4)
   have HO4 := hide (HO3.out.trans (Over.of_below hb4))
   clear hb4 e3 x0 x1 x2 x3 x4 x5 x6 x7
   have s0 : W4.cell? ⟨G, 0, none⟩ = some (.int .i64 lo) := F4.out.cell 0
   have s1 : W4.cell? ⟨G, 1, none⟩ = some (.int .i64 hi) := F4.out.cell 1
   have z0 : W4.frozen? ⟨G, 0, none⟩ = false := F4.out.frozen 0
   have z1 : W4.frozen? ⟨G, 1, none⟩ = false := F4.out.frozen 1
   gi_wp2
   all_goals have hM := HM1.out
   all_goals have hg := HG.out
   all_goals refine ⟨(HO4.out.setCell (by rw [Hsz.out]; simp) _).setCell (by rw [Hsz.out]; simp) _, (HB4.out.setCell (by simp; omega) _).setCell (by simp; omega) _, (F0.out.far (by omega) _ _).far (by omega) _ _, (F1.out.far (by omega) _ _).far (by omega) _ _, (F2.out.far (by omega) _ _).far (by omega) _ _, (F3.out.far (by omega) _ _).far (by omega) _ _, ?_⟩
   all_goals show Blk _ _ _ (arrP (P (k + 1)))
   all_goals rw [hM]
   all_goals first
    | (rw [show min lo m = (if m < lo then m else lo) by split <;> omega, show max hi m = (if hi < m then m else hi) by split <;> omega]; exact putP_blk F4.out (_, _))
    | (rw [if_pos (c := m < lo) (by omega), if_pos (c := hi < m) (by omega)]; exact putP_blk F4.out (m, m))
    | (rw [if_pos (c := m < lo) (by omega), if_neg (c := hi < m) (by omega)]; exact putP_blk F4.out (m, hi))
    | (rw [if_neg (c := m < lo) (by omega), if_pos (c := hi < m) (by omega)]; exact putP_blk F4.out (lo, m))
    | (rw [if_neg (c := m < lo) (by omega), if_neg (c := hi < m) (by omega)]; exact putP_blk F4.out (lo, hi))
  | false =>
   have HM1 : Hid (P (k + 1) = (lo, hi)) := by unfold Hid; have h := HM.out; rw [if_neg (by decide)] at h; exact h
   clear HM
   gi_wp2
   have hM := HM1.out
   exact ⟨HO3.out, HB3.out, E0.out, E1.out, E2.out, E3.out, by rw [hM]; exact E4.out⟩
 case done =>
  intro D W hD ⟨hB, c0, c1, c2, c3, c4⟩ hK
  have HD : Hid (G + 2 ≤ D) := by unfold Hid; rw [← Hsz.out]; exact hD
  have HK := hide hK
  have HBk := hide hB
  obtain ⟨⟨lo, hi⟩, hS⟩ : ∃ S, S = P A.length := ⟨_, rfl⟩
  rw [← hS] at c4 HR
  clear hS
  have C2 : Hid (Blk W (w.heap.size + 1 + 1) 117 (arrP (0, 0))) := c2
  have C3 : Hid (Blk W (w.heap.size + 1 + 1 + 1) 34 #[.nilIface]) := c3
  have C4 : Hid (Blk W G 117 (arrP (lo, hi))) := c4
  clear hD hB c0 c1 c2 c3 c4 hK
  have e1 : W.cell? ⟨w.heap.size + 1 + 1, 0, none⟩ = some (.int .i64 0) := C2.out.cell 0
  have e2 : W.cell? ⟨w.heap.size + 1 + 1, 1, none⟩ = some (.int .i64 0) := C2.out.cell 1
  have z1 : W.frozen? ⟨w.heap.size + 1 + 1, 0, none⟩ = false := C2.out.frozen 0
  have z2 : W.frozen? ⟨w.heap.size + 1 + 1, 1, none⟩ = false := C2.out.frozen 1
  have e3 : W.cell? ⟨w.heap.size + 1 + 1 + 1, 0, none⟩ = some .nilIface := C3.out.cell 0
  have z3 : W.frozen? ⟨w.heap.size + 1 + 1 + 1, 0, none⟩ = false := C3.out.frozen 0
  have e4 : W.cell? ⟨G, 0, none⟩ = some (.int .i64 lo) := C4.out.cell 0
  have e5 : W.cell? ⟨G, 1, none⟩ = some (.int .i64 hi) := C4.out.cell 1
  by_cases hlt : hi < lo
  ·have HE : Hid (R = .tuple #[.agg #[.int .i64 0, .int .i64 0], .iface 91 (.int .i64 5)]) := by have h := HR.out; rw [if_pos (show (lo, hi).2 < (lo, hi).1 from hlt)] at h; exact h
   clear HR
   gi_wp2
   have hK' : (((W.setCell ⟨w.heap.size + 1 + 1, 0, none⟩ (.int .i64 0)).setCell ⟨w.heap.size + 1 + 1, 1, none⟩ (.int .i64 0)).setCell ⟨w.heap.size + 1 + 1 + 1, 0, none⟩ (.iface 91 (.int .i64 5))).heap[D]? = some (.deferred (some [])) := by
    have := HD.out
    have := HG.out
    rw [Below.heap_setCell _ _ _ _ (by simp; omega), Below.heap_setCell _ _ _ _ (by simp; omega), Below.heap_setCell _ _ _ _ (by simp; omega)]; exact HK.out
   have r1 : Blk (((W.setCell ⟨w.heap.size + 1 + 1, 0, none⟩ (.int .i64 0)).setCell ⟨w.heap.size + 1 + 1, 1, none⟩ (.int .i64 0)).setCell ⟨w.heap.size + 1 + 1 + 1, 0, none⟩ (.iface 91 (.int .i64 5))) (w.heap.size + 1 + 1) 117 (arrP (0, 0)) := (putP_blk C2.out (0, 0)).far (by omega) _ _
   have r2 : Blk (((W.setCell ⟨w.heap.size + 1 + 1, 0, none⟩ (.int .i64 0)).setCell ⟨w.heap.size + 1 + 1, 1, none⟩ (.int .i64 0)).setCell ⟨w.heap.size + 1 + 1 + 1, 0, none⟩ (.iface 91 (.int .i64 5))) (w.heap.size + 1 + 1 + 1) 34 #[.iface 91 (.int .i64 5)] := ((C3.out.far (by omega) _ _).far (by omega) _ _).set 0 _
   refine ⟨by simp, .inl ⟨_, _, rfl, run_takeDeferred hK', ?_⟩⟩
   have hd := HD.out
   have hg := HG.out
   have l1 := loadP (r1.putO (.deferred none) (l := D) (by omega))
   have l2 := loadE (r2.putO (.deferred none) (l := D) (by omega))
   refine ⟨.tuple #[.agg (arrP (0, 0)), .iface 91 (.int .i64 5)], ?_, by rw [HE.out]; rfl, ?_⟩
   ·rw [results_two rfl]
    simp [asAddr, Result.andThen, l1, l2]
   ·exact (((HBk.out.setCell (by simp; omega) _).setCell (by simp; omega) _).setCell (by simp; omega) _).trans (below_putObj _ _ (by omega))
  ·have HE : Hid (R = .tuple #[.agg (arrP (lo, hi)), .nilIface]) := by have h := HR.out; rw [if_neg (show ¬ (lo, hi).2 < (lo, hi).1 from hlt)] at h; exact h
   clear HR
   gi_wp2
   have hK' : (((W.setCell ⟨w.heap.size + 1 + 1, 0, none⟩ (.int .i64 lo)).setCell ⟨w.heap.size + 1 + 1, 1, none⟩ (.int .i64 hi)).setCell ⟨w.heap.size + 1 + 1 + 1, 0, none⟩ .nilIface).heap[D]? = some (.deferred (some [])) := by
    have := HD.out
    have := HG.out
    rw [Below.heap_setCell _ _ _ _ (by simp; omega), Below.heap_setCell _ _ _ _ (by simp; omega), Below.heap_setCell _ _ _ _ (by simp; omega)]; exact HK.out
   have r1 : Blk (((W.setCell ⟨w.heap.size + 1 + 1, 0, none⟩ (.int .i64 lo)).setCell ⟨w.heap.size + 1 + 1, 1, none⟩ (.int .i64 hi)).setCell ⟨w.heap.size + 1 + 1 + 1, 0, none⟩ .nilIface) (w.heap.size + 1 + 1) 117 (arrP (lo, hi)) := (putP_blk C2.out (lo, hi)).far (by omega) _ _
   have r2 : Blk (((W.setCell ⟨w.heap.size + 1 + 1, 0, none⟩ (.int .i64 lo)).setCell ⟨w.heap.size + 1 + 1, 1, none⟩ (.int .i64 hi)).setCell ⟨w.heap.size + 1 + 1 + 1, 0, none⟩ .nilIface) (w.heap.size + 1 + 1 + 1) 34 #[.nilIface] := ((C3.out.far (by omega) _ _).far (by omega) _ _).set 0 _
   refine ⟨by simp, .inl ⟨_, _, rfl, run_takeDeferred hK', ?_⟩⟩
   have hd := HD.out
   have hg := HG.out
   have l1 := loadP (r1.putO (.deferred none) (l := D) (by omega))
   have l2 := loadE (r2.putO (.deferred none) (l := D) (by omega))
   refine ⟨.tuple #[.agg (arrP (lo, hi)), .nilIface], ?_, by rw [HE.out], ?_⟩
   ·rw [results_two rfl]
    simp [asAddr, Result.andThen, l1, l2]
   ·exact (((HBk.out.setCell (by simp; omega) _).setCell (by simp; omega) _).setCell (by simp; omega) _).trans (below_putObj _ _ (by omega))
 case stop => exact fun _ _ _ _ _ h => h.elim
set_option maxHeartbeats 4000000 in
theorem spof_wrong (ao : Option Addr) (al acap : Nat) (co : Option Addr) (cl ccap : Nat) (tq : Option Addr) (tl tcap : Nat) (u F : Int) (w : World)
    (hC : ∀ W, Below w.heap.size w W → Calls Tryz.prog 103 #[.agg #[.slice ao al acap, .slice co cl ccap], .slice tq tl tcap, .int .i64 u] W (Bk W (.iface 91 (.int .i64 F)))) :
    Calls Tryz.prog 67 #[.agg #[.slice ao al acap, .slice co cl ccap], .slice tq tl tcap, .int .i64 u] w (Bk w (.tuple #[.agg (arrP (0, 0)), .iface 91 (.int .i64 F)])) := by
 have HC := hide hC
 clear hC
 obtain ⟨hs1, b0, b1, b2, b3, hB1⟩ := four_newS w (.cells #[.slice ao al acap, .slice co cl ccap] 78) (.cells #[.slice tq tl tcap] 62) (.cells #[.int .i64 0, .int .i64 0] 117) (.cells #[.nilIface] 34)
 obtain ⟨w1, hw1⟩ := nm ((((w.alloc (.cells #[.slice ao al acap, .slice co cl ccap] 78)).alloc (.cells #[.slice tq tl tcap] 62)).alloc (.cells #[.int .i64 0, .int .i64 0] 117)).alloc (.cells #[.nilIface] 34))
 rw [← hw1] at hs1 b0 b1 b2 b3 hB1
 have HB1 := hide hB1
 have I0 : Hid (Blk w1 w.heap.size 78 #[.slice ao al acap, .slice co cl ccap]) := b0
 have I1 : Hid (Blk w1 (w.heap.size + 1) 62 #[.slice tq tl tcap]) := b1
 have I2 : Hid (Blk w1 (w.heap.size + 1 + 1) 117 (arrP (0, 0))) := b2
 have I3 : Hid (Blk w1 (w.heap.size + 1 + 1 + 1) 34 #[.nilIface]) := b3
 clear hs1 b0 b1 b2 b3 hB1
 go_enter Tryz.func67, Tryz.ntmps67
 go_upto_region 1 with fail
 rw [← hw1]
 clear hw1
 have i0 : w1.cell? ⟨w.heap.size, 0, none⟩ = some (.slice ao al acap) := I0.out.cell 0
 have i1 : w1.cell? ⟨w.heap.size, 1, none⟩ = some (.slice co cl ccap) := I0.out.cell 1
 have i2 : w1.cell? ⟨w.heap.size + 1, 0, none⟩ = some (.slice tq tl tcap) := I1.out.cell 0
 go_wp2_with fail
 go_at_call 103
 refine (HC.out _ HB1.out).mono ?_
 rintro e w2 ⟨rfl, hb2⟩
 have HB2 := hide (HB1.out.trans (hb2.mono HB1.out.size))
 have C2 := hide (I2.out.below hb2)
 have C3 := hide (I3.out.below hb2)
 clear hb2 i0 i1 i2
 have e1 : w2.cell? ⟨w.heap.size + 1 + 1, 0, none⟩ = some (.int .i64 0) := C2.out.cell 0
 have e2 : w2.cell? ⟨w.heap.size + 1 + 1, 1, none⟩ = some (.int .i64 0) := C2.out.cell 1
 have z1 : w2.frozen? ⟨w.heap.size + 1 + 1, 0, none⟩ = false := C2.out.frozen 0
 have z2 : w2.frozen? ⟨w.heap.size + 1 + 1, 1, none⟩ = false := C2.out.frozen 1
 have e3 : w2.cell? ⟨w.heap.size + 1 + 1 + 1, 0, none⟩ = some .nilIface := C3.out.cell 0
 have z3 : w2.frozen? ⟨w.heap.size + 1 + 1 + 1, 0, none⟩ = false := C3.out.frozen 0
 go_wp2
 have r1 : Blk (((w2.setCell ⟨w.heap.size + 1 + 1, 0, none⟩ (.int .i64 0)).setCell ⟨w.heap.size + 1 + 1, 1, none⟩ (.int .i64 0)).setCell ⟨w.heap.size + 1 + 1 + 1, 0, none⟩ (.iface 91 (.int .i64 F))) (w.heap.size + 1 + 1) 117 (arrP (0, 0)) := (putP_blk C2.out (0, 0)).far (by omega) _ _
 have r2 : Blk (((w2.setCell ⟨w.heap.size + 1 + 1, 0, none⟩ (.int .i64 0)).setCell ⟨w.heap.size + 1 + 1, 1, none⟩ (.int .i64 0)).setCell ⟨w.heap.size + 1 + 1 + 1, 0, none⟩ (.iface 91 (.int .i64 F))) (w.heap.size + 1 + 1 + 1) 34 #[.iface 91 (.int .i64 F)] := ((C3.out.far (by omega) _ _).far (by omega) _ _).set 0 _
 have l1 := loadP r1
 have l2 := loadE r2
 refine bodyPost_ret (v := .tuple #[.agg (arrP (0, 0)), .iface 91 (.int .i64 F)]) ?_ rfl ⟨rfl, ?_⟩
 ·rw [results_two rfl]
  simp [asAddr, Result.andThen, l1, l2]
 ·exact ((HB2.out.setCell (by simp; omega) _).setCell (by simp; omega) _).setCell (by simp; omega) _
theorem spanOf_any (va vc vt : Value) (ats : List At) (c t : List Int) (u : Int) (w : World) (hA : ReadsA w va ats) (hC : Reads w vc c) (hT : Reads w vt t) (hK : KindsLaid w) :
    Calls Tryz.prog 67 #[.agg #[va, vc], vt, .int .i64 u] w (Bk w (.tuple #[.agg (arrP (spanLo ats c t u, spanHi ats c t u)), errV (spanFault ats c t u)])) := by
 have hCk := fun W (hW : Below w.heap.size w W) => spcheck_any va vc vt ats c t u W (hA.below hW) (hC.below hW) (hT.below hW) (hK.below hW)
 have hH := fun (N : Nat → Int) W (hW : Below w.heap.size w W) => wholds_any va vc ats c N W (hA.below hW) (hC.below hW) (hK.below hW)
 have hQ := fun (N : Nat → Int) W (hW : Below w.heap.size w W) => count_any t vt N W (hT.below hW)
 obtain ⟨ao, acap, rfl, _⟩ := hA.slice
 obtain ⟨co, ccap, rfl, _⟩ := hC.slice
 obtain ⟨tq, tcap, rfl, _⟩ := hT.slice
 by_cases h0 : spCheckN ats c t u = 0
 ·rw [h0] at hCk
  have hgood : formFault ats c = 0 ∧ faultN t = 0 ∧ (0 ≤ u ∧ u ≤ 6) := by
   unfold spCheckN at h0
   by_cases h1 : formFault ats c = 0
   ·rw [if_pos h1] at h0
    by_cases h2 : faultN t = 0
    ·rw [if_pos h2] at h0
     by_cases h3 : 0 ≤ u ∧ u ≤ 6
     ·exact ⟨h1, h2, h3⟩
     ·rw [if_neg h3] at h0; exact absurd h0 (by decide)
    ·rw [if_neg h2] at h0; exact absurd h0 h2
   ·rw [if_neg h1] at h0; exact absurd h0 h1
  obtain ⟨h1, h2, h3⟩ := hgood
  obtain ⟨n, rfl⟩ := Int.eq_ofNat_of_zero_le h3.1
  have hn : n ≤ 6 := by omega
  refine spof_right ao _ acap co _ ccap tq _ tcap n hn (fun N => (madeN N 8).formIs ats c) (fun N => sumIn (liesB t) N 8) (fun k => spanFrom ats c t n ((worldsL n).take k)) _ w hCk (fun M W hM hW => hH M W hW h1 (everyC_right hn hM)) (fun M W hM hW => ?_) rfl (fun k M hM => ?_) ?_
  ·have h := hQ M W hW
   have e0 : countFault t M = 0 := by unfold countFault; rw [if_pos h2]; exact everyC_right hn hM
   have e1 : countN t M = sumIn (liesB t) M 8 := by unfold countN; rw [if_pos e0]
   rw [e0, e1] at h
   exact h
  ·have hk : (worldsL n)[k]? = some (madeN M 8) := by unfold worldsL; rw [List.getElem?_map, hM]; rfl
   show spanFrom ats c t n ((worldsL n).take (k + 1)) = _
   rw [List.take_add_one, hk]
   show spanFrom ats c t n ((worldsL n).take k ++ [madeN M 8]) = _
   rw [spanFrom_add]
   unfold spanStep
   rw [made_size h2 (everyC_right hn (List.mem_of_getElem? hM))]
  ·have el : (worldsL n).take (everyC n).length = worldsL n := by rw [← worldsL_length, List.take_length]
   show _ = if (spanFrom ats c t n ((worldsL n).take (everyC n).length)).2 < (spanFrom ats c t n ((worldsL n).take (everyC n).length)).1 then _ else Value.tuple #[.agg (arrP (spanFrom ats c t n ((worldsL n).take (everyC n).length))), .nilIface]
   rw [el]
   rcases span_from (ats := ats) (c := c) (t := t) (u := (n : Int)) (worldsL n) (made_few h2 hn) with ⟨g1, g2⟩ | ⟨g1, g2, g3, g4⟩
   ·rw [g1, if_pos (by show (-1 : Int) < (n : Int) + 1; omega)]
    have e0 : spanFault ats c t (n : Int) = 5 := by
     unfold spanFault; rw [if_pos h1, if_pos h2, if_pos h3, if_pos]
     rw [Int.toNat_natCast]; unfold spanP; rw [g2]; decide
    have e1 : spanLo ats c t (n : Int) = 0 := by unfold spanLo; rw [if_neg (by rw [e0]; decide)]
    have e2 : spanHi ats c t (n : Int) = 0 := by unfold spanHi; rw [if_neg (by rw [e0]; decide)]
    rw [e0, e1, e2]; rfl
   ·rw [g1, if_neg (by omega)]
    have e0 : spanFault ats c t (n : Int) = 0 := by
     unfold spanFault; rw [if_pos h1, if_pos h2, if_pos h3, if_neg]
     rw [Int.toNat_natCast]; unfold spanP; omega
    have e1 : spanLo ats c t (n : Int) = (spanOver ats c t (worldsL n)).1 := by unfold spanLo; rw [if_pos e0, Int.toNat_natCast]; rfl
    have e2 : spanHi ats c t (n : Int) = (spanOver ats c t (worldsL n)).2 := by unfold spanHi; rw [if_pos e0, Int.toNat_natCast]; rfl
    rw [e0, e1, e2]; rfl
 ·rw [errV_no h0] at hCk
  have e0 : spanFault ats c t u = spCheckN ats c t u := by
   unfold spCheckN at h0 ⊢
   unfold spanFault
   by_cases h1 : formFault ats c = 0
   ·rw [if_pos h1] at h0 ⊢
    rw [if_pos h1]
    by_cases h2 : faultN t = 0
    ·rw [if_pos h2] at h0 ⊢
     rw [if_pos h2]
     by_cases h3 : 0 ≤ u ∧ u ≤ 6
     ·rw [if_pos h3] at h0; exact absurd rfl h0
     ·rw [if_neg h3, if_neg h3]
    ·rw [if_neg h2, if_neg h2]
   ·rw [if_neg h1, if_neg h1]
  have e1 : spanLo ats c t u = 0 := by unfold spanLo; rw [if_neg (by rw [e0]; exact h0)]
  have e2 : spanHi ats c t u = 0 := by unfold spanHi; rw [if_neg (by rw [e0]; exact h0)]
  rw [e0, e1, e2, errV_no h0]
  exact spof_wrong ao _ acap co _ ccap tq _ tcap u _ w hCk
end Go.Proofs.YtnoohlibgaeklaaGreatDoor
namespace Go.Proofs.YtnoohlibgaeklaaGreatDoor
open Go.RowKit
set_option maxRecDepth 100000
theorem txt_append (a b : List UInt8) : txtOf a ++ txtOf b = txtOf (a ++ b) := by
 unfold txtOf
 apply ByteArray.ext
 simp [ByteArray.data_append]
theorem decT_size (u : Nat) : (txtOf (decT u)).size ≤ 9 := by rw [txtOf_size]; exact decF_length 8 u
theorem spanSo_range (fs : List Fm) (t : List Int) : ∀ L : List Wd, (0 ≤ (spanSoOver fs t L).1 ∧ (spanSoOver fs t L).1 ≤ 100) ∧ 0 ≤ (spanSoOver fs t L).2 ∧ (spanSoOver fs t L).2 ≤ 100 := by
 refine revInd ?_ ?_
 ·exact ⟨⟨by show (0 : Int) ≤ 100; decide, by show (100 : Int) ≤ 100; decide⟩, by show (0 : Int) ≤ 0; decide, by show (0 : Int) ≤ 100; decide⟩
 ·intro L D ih
  have e : spanSoOver fs t (L ++ [D]) = spanSoStep fs t (spanSoOver fs t L) D := by unfold spanSoOver; rw [List.foldl_append]; rfl
  rw [e]
  have hp := pcN_le (D.val t)
  unfold spanSoStep
  refine ⟨?_, ?_⟩
  ·dsimp only
   split <;> omega
  ·dsimp only
   split <;> omega
theorem lineS_same {fs : List Fm} {s : List UInt8} (h : ¬ (moreB s = true ∧ (wordL s = sayW ∨ wordL s = denyW) ∧ lineFault (restL s) = 0 ∧ fs.length < 6 ∧ openN (fs ++ [aloneF (atOf (restL s)) (decide (wordL s = sayW))]) 4 = true)) : lineS fs s = fs := by
 unfold lineS; rw [if_neg h]
theorem worldsSo_range (fs : List Fm) : 0 ≤ worldsSo fs ∧ worldsSo fs ≤ 4096 := by
 have hp : ∀ N ∈ everyC 4, 1 ≤ likeN N := fun N hN => like_pos (by decide) hN
 have hr := sumL_range hp (fun N => (madeN N 8).so fs)
 rw [(like_facts 4 (by decide)).2] at hr
 have he : eightN 4 = 4096 := by decide
 rw [he] at hr
 exact hr
end Go.Proofs.YtnoohlibgaeklaaGreatDoor
namespace Go.Proofs.YtnoohlibgaeklaaGreatDoor
open Go.ChangeShapes Go.WideShapes Go.ChangeAt Go.RowKit
set_option maxRecDepth 100000
def askCheckN (fs : List Fm) (ats : List At) (c : List Int) (u : Int) : Int := if formsFault fs u = 0 then formFault ats c else formsFault fs u
theorem askcheck_forms (lo : Option Addr) (ln lcap : Nat) (ao : Option Addr) (al acap : Nat) (co : Option Addr) (cl ccap : Nat) (u m : Int) (w : World)
    (HF : Hid (∀ W, Below w.heap.size w W → Calls Tryz.prog 141 #[.slice lo ln lcap, .int .i64 u] W (Bk W (.iface 91 (.int .i64 m))))) :
    Calls Tryz.prog 96 #[.slice lo ln lcap, .agg #[.slice ao al acap, .slice co cl ccap], .int .i64 u] w (Bk w (.iface 91 (.int .i64 m))) := by
 go_enter Tryz.func96, Tryz.ntmps96
 go_wp2_with fail
 go_at_call 141
 refine (HF.out _ (below_alloc1 _ _)).mono ?_
 rintro e w2 ⟨rfl, hb⟩
 have HB : Hid (Below w.heap.size w w2) := (below_alloc1 w _).trans (hb.mono (by simp))
 clear hb
 go_wp2
 go_ret
 exact ⟨rfl, HB.out⟩
theorem askcheck_good (lo : Option Addr) (ln lcap : Nat) (ao : Option Addr) (al acap : Nat) (co : Option Addr) (cl ccap : Nat) (u : Int) (E : Value) (w : World)
    (HF : Hid (∀ W, Below w.heap.size w W → Calls Tryz.prog 141 #[.slice lo ln lcap, .int .i64 u] W (Bk W .nilIface)))
    (HG : Hid (∀ W, Below w.heap.size w W → Calls Tryz.prog 78 #[.agg #[.slice ao al acap, .slice co cl ccap]] W (Bk W E))) :
    Calls Tryz.prog 96 #[.slice lo ln lcap, .agg #[.slice ao al acap, .slice co cl ccap], .int .i64 u] w (Bk w E) := by
 obtain ⟨w1, hw1⟩ := nm (w.alloc (.cells #[.slice ao al acap, .slice co cl ccap] 78))
 have HB1 : Hid (Below w.heap.size w w1) := by unfold Hid; rw [hw1]; exact below_alloc1 _ _
 have HQ : Hid (Blk w1 w.heap.size 78 #[.slice ao al acap, .slice co cl ccap]) := by unfold Hid; rw [hw1]; exact Blk.new _ _ _
 go_enter Tryz.func96, Tryz.ntmps96
 go_upto_region 1 with fail
 rw [← hw1]
 clear hw1
 go_wp2_with fail
 go_at_call 141
 refine (HF.out _ HB1.out).mono ?_
 rintro e w2 ⟨rfl, hb⟩
 have HB2 := hide (HB1.out.trans (hb.mono HB1.out.size))
 have y0 : w2.cell? ⟨w.heap.size, 0, none⟩ = some (.slice ao al acap) := (HQ.out.below hb).cell 0
 have y1 : w2.cell? ⟨w.heap.size, 1, none⟩ = some (.slice co cl ccap) := (HQ.out.below hb).cell 1
 clear hb
 go_wp2_with fail
 go_at_call 78
 refine (HG.out _ HB2.out).mono ?_
 rintro e w3 ⟨rfl, hb⟩
 have HB3 := hide (HB2.out.trans (hb.mono HB2.out.size))
 clear hb y0 y1
 go_wp2
 go_ret
 exact ⟨rfl, HB3.out⟩
theorem askCheck_any (v va vc : Value) (fs : List Fm) (ats : List At) (c : List Int) (u : Int) (w : World) (hF : ReadsF w v fs) (hA : ReadsA w va ats) (hC : Reads w vc c) (hK : KindsLaid w) :
    Calls Tryz.prog 96 #[v, .agg #[va, vc], .int .i64 u] w (Bk w (errV (askCheckN fs ats c u))) := by
 have hL := fun W (hW : Below w.heap.size w W) => coreCheck_any v fs u W (hF.below hW) (hK.below hW)
 have hG := fun W (hW : Below w.heap.size w W) => fcheck_any va vc ats c W (hA.below hW) (hC.below hW) (hK.below hW)
 obtain ⟨lo, lcap, rfl, _⟩ := hF.slice
 obtain ⟨ao, acap, rfl, _⟩ := hA.slice
 obtain ⟨co, ccap, rfl, _⟩ := hC.slice
 unfold askCheckN
 by_cases h : formsFault fs u = 0
 ·rw [if_pos h]
  rw [h] at hL
  exact askcheck_good lo _ lcap ao _ acap co _ ccap u _ w hL hG
 ·rw [if_neg h, errV_no h]
  rw [errV_no h] at hL
  exact askcheck_forms lo _ lcap ao _ acap co _ ccap u _ w hL
def seenN (h f : Bool) : Int := if h = true then (if f = true then 0 else 1) else (if f = true then -1 else 0)
def seenE (h f : Bool) : Int := if (h || f) = true then 0 else 6
theorem seenAnswer_any (h f : Bool) (w : World) : Calls Tryz.prog 98 #[.agg #[.bool h, .bool f]] w (Bk w (.tuple #[.int .i64 (seenN h f), errV (seenE h f)])) := by
 cases h <;> cases f
 ·show Calls _ _ _ _ fun e w' => e = .returned (.tuple #[.int .i64 0, .iface 91 (.int .i64 6)]) ∧ _
  go_enter Tryz.func98, Tryz.ntmps98
  go_wp2
  go_ret2
  exact ⟨rfl, below_alloc1 _ _⟩
 ·show Calls _ _ _ _ fun e w' => e = .returned (.tuple #[.int .i64 (-1), .nilIface]) ∧ _
  go_enter Tryz.func98, Tryz.ntmps98
  go_wp2
  go_ret2
  exact ⟨rfl, below_alloc1 _ _⟩
 ·show Calls _ _ _ _ fun e w' => e = .returned (.tuple #[.int .i64 1, .nilIface]) ∧ _
  go_enter Tryz.func98, Tryz.ntmps98
  go_wp2
  go_ret2
  exact ⟨rfl, below_alloc1 _ _⟩
 ·show Calls _ _ _ _ fun e w' => e = .returned (.tuple #[.int .i64 0, .nilIface]) ∧ _
  go_enter Tryz.func98, Tryz.ntmps98
  go_wp2
  go_ret2
  exact ⟨rfl, below_alloc1 _ _⟩
theorem seen_is {p : Int × Int} (h : 0 ≤ p.1 ∧ 0 ≤ p.2) : seenN (decide (¬ p.1 = 0)) (decide (¬ p.2 = 0)) = (if p.1 + p.2 = 0 then 0 else answerN p) ∧ seenE (decide (¬ p.1 = 0)) (decide (¬ p.2 = 0)) = if p.1 + p.2 = 0 then 6 else 0 := by
 unfold seenN seenE answerN
 by_cases h1 : p.1 = 0 <;> by_cases h2 : p.2 = 0 <;> simp [h1, h2] <;> omega
set_option maxHeartbeats 8000000 in
theorem allHold_any (v : Value) (fs : List Fm) (hgood : ∀ f ∈ fs, f.fault = 0) (D : Wd) (hok : D.ok = true) (w : World) (hF : ReadsF w v fs) (hK : KindsLaid w) :
    Calls Tryz.prog 142 #[v, .agg #[.int .i64 D.u, .int .i64 D.a, .int .i64 D.b, .int .i64 D.c]] w (Bk w (.tuple #[.bool (D.so fs), .nilIface])) := by
 obtain ⟨lo, lcap, rfl, hl63⟩ := hF.slice
 have HF := hide hF
 obtain ⟨L, hL⟩ : ∃ L : Nat → Bool, L = fun j => match fs[j]? with | some f => D.formIs f.ats f.c | none => false := ⟨_, rfl⟩
 have HHo : Hid (∀ (k : Nat) f va vc W, fs[k]? = some f → Below w.heap.size w W → ReadsA W va f.ats → Reads W vc f.c → Calls Tryz.prog 122 #[.agg #[va, vc], .agg #[.int .i64 D.u, .int .i64 D.a, .int .i64 D.b, .int .i64 D.c]] W (Bk W (.tuple #[.bool (L k), .nilIface]))) := fun k f va vc W hf hW hA hC => by
  have h := fholds_any va vc f.ats f.c D.u D.a D.b D.c W hA hC (hK.below hW)
  have e : (Wd.mk D.u D.a D.b D.c).formFault f.ats f.c = 0 := wdForm_zero.2 ⟨hgood f (List.mem_of_getElem? hf), hok⟩
  rw [e] at h
  have eL : L k = D.formIs f.ats f.c := by rw [hL]; show (match fs[k]? with | some f => D.formIs f.ats f.c | none => false) = _; rw [hf]
  rw [eL]
  exact h
 have HNo : Hid (∀ k, k < fs.length → L k = false → D.so fs = false) := fun k hk h => by
  rw [hL] at h
  simp only [List.getElem?_eq_getElem hk] at h
  unfold Wd.so
  rw [List.all_eq_false]
  exact ⟨_, List.getElem_mem hk, by rw [h]; decide⟩
 have HYes : Hid ((∀ j, j < fs.length → L j = true) → D.so fs = true) := fun h => by
  unfold Wd.so
  rw [List.all_eq_true]
  intro f hf
  obtain ⟨i, hi⟩ := List.mem_iff_getElem?.1 hf
  have := h i (List.getElem?_eq_some_iff.1 hi).1
  rw [hL] at this
  simp only [hi] at this
  exact this
 obtain ⟨S, hS⟩ := nm (D.so fs)
 rw [← hS] at HNo HYes ⊢
 obtain ⟨n, hn⟩ := nm fs.length
 rw [← hn] at HF hl63 HNo HYes ⊢
 have HN := hide hn
 obtain ⟨w1, hw1⟩ := nm (w.alloc (.cells #[.int .i64 D.u, .int .i64 D.a, .int .i64 D.b, .int .i64 D.c] 58))
 have HB1 : Hid (Below w.heap.size w w1) := by unfold Hid; rw [hw1]; exact below_alloc1 _ _
 have HQ1 : Hid (Blk w1 w.heap.size 58 (arrW D)) := by unfold Hid; rw [hw1]; exact Blk.new _ _ _
 clear hF hL hS hn hgood hok hK
 go_enter Tryz.func142, Tryz.ntmps142
 go_wp2
 rw [← hw1]
 clear hw1
 go_loopw [12] (fun i wr => ∃ k : Nat, k ≤ n ∧ i = .int .i64 k ∧ Below w1.heap.size w1 wr ∧ Hid (∀ j, j < k → L j = true)) (fun i _ => n - (intOf i).toNat)
 case atStart => exact ⟨0, Nat.zero_le _, rfl, Below.refl _ _, fun j hj => by omega⟩
 case round =>
  obtain ⟨k, hk, rfl, hbr, HSo⟩ := hrel
  have HBr := hide hbr
  have HBw := hide (HB1.out.trans (hbr.mono HB1.out.size))
  clear hbr
  by_cases hlt : k < n
  ·obtain ⟨f, hf⟩ : ∃ f, fs[k]? = some f := ⟨_, List.getElem?_eq_getElem (by rw [← HN.out]; exact hlt)⟩
   obtain ⟨bL, oL, cL, hv⟩ := HF.out.place (by rw [← HN.out]; omega)
   obtain ⟨hlo, hx1, hx2⟩ := Value.slice.inj hv
   clear hx1 hx2
   subst hlo
   obtain ⟨hbL, va, vc, c0, c1, hA, hC⟩ := HF.out.at hf
   obtain ⟨ao, acap, rfl, _⟩ := hA.slice
   obtain ⟨co, ccap, rfl, _⟩ := hC.slice
   have x0 : wr.cell? ⟨bL, oL + k * 2, none⟩ = some (.slice ao f.ats.length acap) := (HBw.out.cell hbL).trans c0
   have x1 : wr.cell? ⟨bL, oL + k * 2 + 1, none⟩ = some (.slice co f.c.length ccap) := (HBw.out.cell hbL).trans c1
   have HH1 : Hid (∀ W, Below wr.heap.size wr W → Calls Tryz.prog 122 #[.agg #[.slice ao f.ats.length acap, .slice co f.c.length ccap], .agg #[.int .i64 D.u, .int .i64 D.a, .int .i64 D.b, .int .i64 D.c]] W (Bk w1 (.tuple #[.bool (L k), .nilIface]))) := fun W hW => by
    have hb' := HBw.out.trans (hW.mono HBw.out.size)
    have hb1 := HBr.out.trans (hW.mono HBr.out.size)
    exact (HHo.out k f _ _ W hf hb' (hA.below hb') (hC.below hb')).mono fun e w' ⟨he, hb⟩ => ⟨he, hb1.trans (hb.mono hb1.size)⟩
   obtain ⟨al, hal⟩ := nm f.ats.length
   obtain ⟨cl, hcl⟩ := nm f.c.length
   rw [← hal] at x0 HH1
   rw [← hcl] at x1 HH1
   obtain ⟨wf, hwf⟩ := nm (wr.alloc (.cells #[.slice ao al acap, .slice co cl ccap] 78))
   have HBf : Hid (Below wr.heap.size wr wf) := by unfold Hid; rw [hwf]; exact below_alloc1 _ _
   have HQf : Hid (Blk wf wr.heap.size 78 #[.slice ao al acap, .slice co cl ccap]) := by unfold Hid; rw [hwf]; exact Blk.new _ _ _
   have HH2 : Hid (Calls Tryz.prog 122 #[.agg #[.slice ao al acap, .slice co cl ccap], .agg #[.int .i64 D.u, .int .i64 D.a, .int .i64 D.b, .int .i64 D.c]] wf (Bk w1 (.tuple #[.bool (L k), .nilIface]))) := HH1.out _ HBf.out
   clear hf hv hbL c0 c1 hA hC hal hcl HH1
   have hkn : (k : Int) < (n : Int) := by omega
   obtain ⟨q, hq⟩ := nm (L k)
   have HQ := hide (hq.symm)
   rw [← hq] at HH2
   clear hq
   go_upto_region 4 with fail
   rw [← hwf]
   clear hwf x0 x1
   have y0 : wf.cell? ⟨wr.heap.size, 0, none⟩ = some (.slice ao al acap) := HQf.out.cell 0
   have y1 : wf.cell? ⟨wr.heap.size, 1, none⟩ = some (.slice co cl ccap) := HQf.out.cell 1
   obtain ⟨d0, d1, d2, d3⟩ := ((HQ1.out.below HBr.out).below HBf.out).cells4
   go_wp2_with fail
   go_at_call 122
   refine HH2.out.mono ?_
   rintro e w8 ⟨rfl, hb8⟩
   have HB8 := hide hb8
   clear hb8 y0 y1 d0 d1 d2 d3
   cases q with
   | true =>
    go_wp2
    go_roundw
    case rel =>
     refine ⟨k + 1, by omega, by go_num, HB8.out, fun j hj => ?_⟩
     by_cases e : j = k
     ·subst e; exact HQ.out
     ·exact HSo.out j (by omega)
    case measure => simp [intOf]; omega
   | false =>
    have HR := hide (HNo.out k hlt HQ.out)
    go_wp2
    go_ret2
    exact ⟨by first | (rw [HR.out]; done) | (rw [HR.out]; rfl), HB1.out.trans (HB8.out.mono HB1.out.size)⟩
  ·obtain rfl : k = n := by omega
   have HR := hide (HYes.out HSo.out)
   clear hlt
   go_wp2
   go_ret2
   exact ⟨by first | (rw [HR.out]; done) | (rw [HR.out]; rfl), HBw.out⟩
end Go.Proofs.YtnoohlibgaeklaaGreatDoor