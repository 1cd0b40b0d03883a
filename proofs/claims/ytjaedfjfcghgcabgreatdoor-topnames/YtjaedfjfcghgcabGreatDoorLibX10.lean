/-
  Facts and contracts that the statement leans on.
-/
import Derived.Test.YtjaedfjfcghgcabGreatDoorLibX9
import Derived.Test.YtjaedfjfcghgcabGreatDoorLibX6
import Derived.Test.YtjaedfjfcghgcabGreatDoorLibX3
import Derived.Test.YtjaedfjfcghgcabGreatDoorLibX8
import Derived.Maps.AppendAt
import Derived.Deep.AppendLies
import Derived.LaidEql
import Derived.Stop.Asserts
import Derived.RowKitTokens
import Derived.Test.YtjaedfjfcghgcabGreatDoorLibX4
import Derived.Deep.CutRange
import Derived.Test.YtjaedfjfcghgcabGreatDoorRows
import Derived.WalkKit
import Derived.Test.YtjaedfjfcghgcabGreatDoorLibX2
namespace Go.Proofs.YtjaedfjfcghgcabGreatDoor
open Go.ChangeShapes Go.WideShapes Go.ChangeAt Go.RowKit
set_option maxRecDepth 100000
attribute [local go_sem] Oper.semAt_some
theorem three_new (w : World) (o0 o1 o2 : Obj) :
    (((w.alloc o0).alloc o1).alloc o2).heap.size = w.heap.size + 3 ∧
    (((w.alloc o0).alloc o1).alloc o2).heap[w.heap.size]? = some o0 ∧
    (((w.alloc o0).alloc o1).alloc o2).heap[w.heap.size + 1]? = some o1 ∧
    (((w.alloc o0).alloc o1).alloc o2).heap[w.heap.size + 1 + 1]? = some o2 ∧
    Below w.heap.size w (((w.alloc o0).alloc o1).alloc o2) := by
 have s1 : (w.alloc o0).heap.size = w.heap.size + 1 := World.size_alloc _ _
 have s2 : ((w.alloc o0).alloc o1).heap.size = w.heap.size + 1 + 1 := by rw [World.size_alloc, s1]
 refine ⟨by rw [World.size_alloc, s2], ?_, ?_, ?_, ?_⟩
 ·rw [Below.heap_alloc _ _ _ (by omega), Below.heap_alloc _ _ _ (by omega)]; exact World.alloc_heap_new _ _
 ·rw [Below.heap_alloc _ _ _ (by omega), ← s1]; exact World.alloc_heap_new _ _
 ·rw [← s2]; exact World.alloc_heap_new _ _
 ·exact (((Below.refl _ w).alloc (Nat.le_refl _) _).alloc (by omega) _).alloc (by omega) _
set_option maxHeartbeats 4000000 in
theorem wof_right (ao : Option Addr) (al acap : Nat) (co : Option Addr) (cl ccap : Nat) (n : Nat) (hn : n ≤ 6) (p : (Nat → Int) → Bool) (w : World)
    (hC : ∀ W, Below w.heap.size w W → Calls Tryz.prog 14 #[.agg #[.slice ao al acap, .slice co cl ccap]] W (Bk W .nilIface))
    (hH : ∀ (M : Nat → Int) W, M ∈ everyC n → Below w.heap.size w W → Calls Tryz.prog 29 #[.agg #[.slice ao al acap, .slice co cl ccap], .agg #[.int .i64 (M 0), .int .i64 (M 1), .int .i64 (M 2), .int .i64 (M 3), .int .i64 (M 4), .int .i64 (M 5), .int .i64 (M 6), .int .i64 (M 7)]] W (Bk W (.tuple #[.bool (p M), .nilIface]))) :
    Calls Tryz.prog 8 #[.agg #[.slice ao al acap, .slice co cl ccap], .int .i64 n] w (Bk w (.tuple #[.int .i64 (sumL p (everyC n)), .nilIface])) := by
 obtain ⟨A, hA⟩ := nm (everyC n)
 have HC := hide hC
 have HF : Hid (∀ (k : Nat) (M : Nat → Int) W, A[k]? = some M → Below w.heap.size w W → Calls Tryz.prog 29 #[.agg #[.slice ao al acap, .slice co cl ccap], .agg #[.int .i64 (M 0), .int .i64 (M 1), .int .i64 (M 2), .int .i64 (M 3), .int .i64 (M 4), .int .i64 (M 5), .int .i64 (M 6), .int .i64 (M 7)]] W (Bk W (.tuple #[.bool (p M), .nilIface]))) := fun k M W hM hW => hH M W (by rw [hA] at hM; exact List.mem_of_getElem? hM) hW
 have HAl : Hid (∀ (k : Nat) (M : Nat → Int) W, A[k]? = some M → Calls Tryz.prog 30 #[.agg #[.int .i64 (M 0), .int .i64 (M 1), .int .i64 (M 2), .int .i64 (M 3), .int .i64 (M 4), .int .i64 (M 5), .int .i64 (M 6), .int .i64 (M 7)]] W (Bk W (.int .i64 (likeN M)))) := fun k M W hM => walike_any M (everyC_right hn (by rw [hA] at hM; exact List.mem_of_getElem? hM)) W
 have HS : Hid (∀ Bu W, W.cell? ⟨Bu, 0, none⟩ = some (.int .i64 n) → SeqG 2 Tryz.prog 74 #[.pointer (some ⟨Bu, 0, none⟩)] enc8 A W) := fun Bu W hB => by rw [hA]; exact iter_any n hn 2 (by omega) Bu W hB
 have HR : Hid (∀ (k : Nat) (M : Nat → Int), A[k]? = some M → 0 ≤ likeN M ∧ likeN M ≤ 262144 ∧ 0 ≤ sumL p (A.take k) ∧ sumL p (A.take k) ≤ 262144) := fun k M hM => by
  rw [hA] at hM ⊢
  have hmem := List.mem_of_getElem? hM
  have hp : ∀ N ∈ everyC n, 1 ≤ likeN N := fun N hN => like_pos hn hN
  have h1 := hp M hmem
  have h2 := sumL_has hp (p := fun _ => true) hmem rfl
  rw [(like_facts n hn).2] at h2
  have h3 := eight_le n hn
  have h4 := sumL_range (A := (everyC n).take k) (fun N hN => hp N (List.mem_of_mem_take hN)) p
  have h5 := sumL_part (A := everyC n) (fun N hN => Int.le_trans (by decide) (hp N hN)) (p := p) k
  have h6 := sumL_range hp p
  rw [(like_facts n hn).2] at h6
  omega
 rw [← hA]
 have HCk : Hid (∀ W, Calls Tryz.prog 27 #[.int .i64 n] W (Sk W .nilIface)) := fun W => wcheck_ok n hn W
 clear hA hn hC hH
 obtain ⟨hs1, b0, b1, b2, hB1⟩ := three_new w (.cells #[.slice ao al acap, .slice co cl ccap] 25) (.cells #[.int .i64 0] 3) (.cells #[.nilIface] 29)
 obtain ⟨w1, hw1⟩ := nm (((w.alloc (.cells #[.slice ao al acap, .slice co cl ccap] 25)).alloc (.cells #[.int .i64 0] 3)).alloc (.cells #[.nilIface] 29))
 rw [← hw1] at hs1 b0 b1 b2 hB1
 have HB1 := hide hB1
 have Hs1 := hide hs1
 have I0 : Hid (Blk w1 w.heap.size 25 #[.slice ao al acap, .slice co cl ccap]) := b0
 have I1 : Hid (Blk w1 (w.heap.size + 1) 3 #[.int .i64 0]) := b1
 have I2 : Hid (Blk w1 (w.heap.size + 1 + 1) 29 #[.nilIface]) := b2
 clear hs1 b0 b1 b2 hB1
 refine (callsIn_wide (n := 3)).1 ?_
 refine callsIn_of_wp_marks Tryz.func8 rfl trivial ?_ rfl
 simp only [Tryz.ntmps8, List.size_toArray, List.length_cons, List.length_nil, Nat.reduceAdd, Nat.reduceSub, Array.replicate_succ, Array.replicate_zero, List.push_toArray, List.append_toArray, List.nil_append, List.cons_append]
 gi_upto_region 1 with fail
 rw [← hw1]
 clear hw1
 have i0 : w1.cell? ⟨w.heap.size, 0, none⟩ = some (.slice ao al acap) := I0.out.cell 0
 have i1 : w1.cell? ⟨w.heap.size, 1, none⟩ = some (.slice co cl ccap) := I0.out.cell 1
 gi_wp2_with fail
 refine ⟨trivial, ?_⟩
 gi_at_call 14
 refine (callsIn_wide.2 (HC.out _ HB1.out)).mono ?_
 rintro e w2 ⟨rfl, hb2⟩
 have HB2 := hide (HB1.out.trans (hb2.mono HB1.out.size))
 have J0 := hide (I0.out.below hb2)
 have J1 := hide (I1.out.below hb2)
 have J2 := hide (I2.out.below hb2)
 obtain ⟨G, hG⟩ := nm w2.heap.size
 have HG : Hid (w.heap.size + 3 ≤ G) := by unfold Hid; rw [hG, ← Hs1.out]; exact hb2.size
 clear hb2 i0 i1
 gi_wp2_with fail
 refine ⟨trivial, ?_⟩
 gi_at_call 27
 refine (callsIn_wide.2 (HCk.out _)).mono ?_
 rintro e w3 ⟨rfl, rfl⟩
 gi_wp2_with fail
 refine ⟨trivial, ?_⟩
 gi_at_call 28
 refine (callsIn_wide.2 (fitAll_any _ _)).mono ?_
 rintro e w4 ⟨rfl, rfl⟩
 gi_wp2_with fail
 obtain ⟨wl, hwl⟩ := nm ((w2.alloc (.cells #[.int .i64 0] 3)).alloc (.cells #[.int .i64 n] 3))
 have HB0 : Hid (Below w.heap.size w wl) := by unfold Hid; rw [hwl]; exact (HB2.out.alloc HB2.out.size _).alloc (by rw [World.size_alloc]; exact Nat.le_succ_of_le HB2.out.size) _
 have Hsz : Hid (wl.heap.size = G + 2) := by unfold Hid; rw [hwl, hG, World.size_alloc, World.size_alloc]
 have H0 : Hid (Blk wl w.heap.size 25 #[.slice ao al acap, .slice co cl ccap]) := by unfold Hid; rw [hwl]; exact (J0.out.old _).old _
 have H1 : Hid (Blk wl (w.heap.size + 1) 3 #[.int .i64 0]) := by unfold Hid; rw [hwl]; exact (J1.out.old _).old _
 have H2 : Hid (Blk wl (w.heap.size + 1 + 1) 29 #[.nilIface]) := by unfold Hid; rw [hwl]; exact (J2.out.old _).old _
 have H3 : Hid (Blk wl G 3 #[.int .i64 0]) := by unfold Hid; rw [hwl, hG]; exact (Blk.new _ _ _).old _
 have H4 : Hid (Blk wl (G + 1) 3 #[.int .i64 n]) := by
  unfold Hid; rw [hwl, hG]
  have := Blk.new (w2.alloc (.cells #[.int .i64 0] 3)) 3 #[.int .i64 n]
  rw [World.size_alloc] at this
  exact this
 rw [← hwl, ← hG]
 clear hwl hG
 refine wpIn_range_own (by omega) (gf := 74) (lb := #[.pointer (some ⟨G + 1, 0, none⟩)]) rfl (enters_of Tryz.func74 (by kernel_rfl) rfl) (encs := enc8) (A := A)
  (fun W hW => HS.out _ W ((hW.cell (by rw [Hsz.out]; simp)).trans (H4.out.cell 0))) (fun _ => rfl)
  (fun k W => Below w.heap.size w W ∧ Blk W w.heap.size 25 #[.slice ao al acap, .slice co cl ccap] ∧ Blk W (w.heap.size + 1) 3 #[.int .i64 0] ∧ Blk W (w.heap.size + 1 + 1) 29 #[.nilIface] ∧ Blk W G 3 #[.int .i64 (sumL p (A.take k))])
  (fun _ _ => False)
  (fun k X Y h hb => ⟨h.1.trans (hb.mono (by have := HG.out; rw [Hsz.out]; omega)), h.2.1.keep hb (by have := HG.out; rw [Hsz.out]; omega), h.2.2.1.keep hb (by have := HG.out; rw [Hsz.out]; omega), h.2.2.2.1.keep hb (by have := HG.out; rw [Hsz.out]; omega), h.2.2.2.2.keep hb (by rw [Hsz.out]; omega)⟩)
  (fun _ _ _ h _ => h) ⟨HB0.out, H0.out, H1.out, H2.out, H3.out⟩ ?round ?done ?stop
 case round =>
  intro ln k x W hx hl1 hl2 ⟨hB, c0, c1, c2, c3⟩
  have HX := hide hx
  have Hl1 : Hid (G + 2 ≤ ln) := by unfold Hid; rw [← Hsz.out]; exact hl1
  have Hl2 := hide hl2
  have HBk := hide hB
  have C0 : Hid (Blk W w.heap.size 25 #[.slice ao al acap, .slice co cl ccap]) := c0
  have C1 : Hid (Blk W (w.heap.size + 1) 3 #[.int .i64 0]) := c1
  have C2 : Hid (Blk W (w.heap.size + 1 + 1) 29 #[.nilIface]) := c2
  have C3 : Hid (Blk W G 3 #[.int .i64 (sumL p (A.take k))]) := c3
  clear hx hl1 hl2 hB c0 c1 c2 c3
  unfold enc8
  gi_wp2
  refine ⟨(Over.refl _ _).alloc _, fun o => ?_⟩
  obtain ⟨W2, hW2⟩ := nm ((W.alloc (.cells #[.int .i64 (x 0), .int .i64 (x 1), .int .i64 (x 2), .int .i64 (x 3), .int .i64 (x 4), .int .i64 (x 5), .int .i64 (x 6), .int .i64 (x 7)] 44)).putObj ln o)
  obtain ⟨Gx, hGx⟩ := nm W.heap.size
  have HB2 : Hid (Below w.heap.size w W2) := by unfold Hid; rw [hW2]; exact (HBk.out.alloc HBk.out.size _).trans (below_putObj _ _ (by have := Hl1.out; have := HG.out; omega))
  have D0 : Hid (Blk W2 w.heap.size 25 #[.slice ao al acap, .slice co cl ccap]) := by unfold Hid; rw [hW2]; exact (C0.out.old _).putO _ (by have := Hl1.out; have := HG.out; omega)
  have D1 : Hid (Blk W2 (w.heap.size + 1) 3 #[.int .i64 0]) := by unfold Hid; rw [hW2]; exact (C1.out.old _).putO _ (by have := Hl1.out; have := HG.out; omega)
  have D2 : Hid (Blk W2 (w.heap.size + 1 + 1) 29 #[.nilIface]) := by unfold Hid; rw [hW2]; exact (C2.out.old _).putO _ (by have := Hl1.out; have := HG.out; omega)
  have D3 : Hid (Blk W2 G 3 #[.int .i64 (sumL p (A.take k))]) := by unfold Hid; rw [hW2]; exact (C3.out.old _).putO _ (by have := Hl1.out; omega)
  have D8 : Hid (Blk W2 Gx 44 (arr8 x)) := by unfold Hid; rw [hW2, hGx]; exact (Blk.new _ _ _).putO _ (by have := Hl2.out; omega)
  rw [← hW2, ← hGx]
  clear hW2 hGx
  have HFk := hide (HF.out k x W2 HX.out HB2.out)
  have HM : Hid (sumL p (A.take (k + 1)) = sumL p (A.take k) + (if p x = true then likeN x else 0)) := sumL_take HX.out
  have HAk : Hid (∀ W, Calls Tryz.prog 30 #[.agg #[.int .i64 (x 0), .int .i64 (x 1), .int .i64 (x 2), .int .i64 (x 3), .int .i64 (x 4), .int .i64 (x 5), .int .i64 (x 6), .int .i64 (x 7)]] W (Bk W (.int .i64 (likeN x)))) := fun W => HAl.out k x W HX.out
  obtain ⟨hr1, hr2, hr3, hr4⟩ := HR.out k x HX.out
  obtain ⟨q, hq⟩ := nm (p x)
  rw [← hq] at HFk HM
  clear hq
  obtain ⟨m, hm⟩ := nm (sumL p (A.take k))
  obtain ⟨L, hL⟩ := nm (likeN x)
  rw [← hm] at HM D3 hr3 hr4
  rw [← hL] at HM HAk hr1 hr2
  have Hr : Hid (0 ≤ L ∧ L ≤ 262144 ∧ 0 ≤ m ∧ m ≤ 262144) := ⟨hr1, hr2, hr3, hr4⟩
  clear hm hL hr1 hr2 hr3 hr4
  have e0 : W2.cell? ⟨w.heap.size, 0, none⟩ = some (.slice ao al acap) := D0.out.cell 0
  have e1 : W2.cell? ⟨w.heap.size, 1, none⟩ = some (.slice co cl ccap) := D0.out.cell 1
  obtain ⟨x0, x1, x2, x3, x4, x5, x6, x7⟩ := D8.out.cells8
  gi_wp2_with fail
  refine ⟨trivial, ?_⟩
  gi_at_call 29
  refine (CallsIn.inRound ln (callsIn_wide.2 HFk.out)).mono ?_
  rintro e W3 ⟨rfl, hb3⟩
  have HB3 := hide (HB2.out.trans (hb3.mono HB2.out.size))
  have E0 := hide (D0.out.below hb3)
  have E1 := hide (D1.out.below hb3)
  have E2 := hide (D2.out.below hb3)
  have E3 := hide (D3.out.below hb3)
  have E8 := hide (D8.out.below hb3)
  have HO3 : Hid (Over wl.heap.size W2 W3) := Over.of_below hb3
  clear hb3 e0 e1 x0 x1 x2 x3 x4 x5 x6 x7
  cases q with
  | true =>
   have HM1 : Hid (sumL p (A.take (k + 1)) = m + L) := by unfold Hid; have h := HM.out; simpa using h
   clear HM
   have e3 : W3.cell? ⟨G, 0, none⟩ = some (.int .i64 m) := E3.out.cell 0
   have z3 : W3.frozen? ⟨G, 0, none⟩ = false := E3.out.frozen 0
   obtain ⟨x0, x1, x2, x3, x4, x5, x6, x7⟩ := E8.out.cells8
   obtain ⟨hr1, hr2, hr3, hr4⟩ := Hr.out
   have HA3 : Hid (∀ W, Below W3.heap.size W3 W → Calls Tryz.prog 30 #[.agg #[.int .i64 (x 0), .int .i64 (x 1), .int .i64 (x 2), .int .i64 (x 3), .int .i64 (x 4), .int .i64 (x 5), .int .i64 (x 6), .int .i64 (x 7)]] W fun e w' => e = .returned (.int .i64 L) ∧ Below W3.heap.size W3 w' ∧ w'.cell? ⟨G, 0, none⟩ = some (.int .i64 m) ∧ w'.frozen? ⟨G, 0, none⟩ = false) := fun W hW => (HAk.out W).mono fun e w' ⟨h1, h2⟩ => ⟨h1, hW.trans (h2.mono hW.size), (E3.out.below (hW.trans (h2.mono hW.size))).cell 0, (E3.out.below (hW.trans (h2.mono hW.size))).frozen 0⟩
   gi_upto_region 14 with fail
   gi_region_with (refine ⟨trivial, ?_⟩; gi_at_call 30; refine (CallsIn.inRound ln (callsIn_wide.2 (HA3.out _ (by first | exact Below.drew (Below.refl _ _) | exact Below.refl _ _)))).mono ?_; rintro e w8 ⟨rfl, hb8, g8, z8⟩)
   all_goals gi_wp2
   all_goals have hM := HM1.out
   all_goals have hg := HG.out
   all_goals refine ⟨(HO3.out.trans (Over.of_below hb8)).setCell (by rw [Hsz.out]; simp) _, (HB3.out.trans (hb8.mono HB3.out.size)).setCell (by simp; omega) _, (E0.out.below hb8).far (by omega) _ _, (E1.out.below hb8).far (by omega) _ _, (E2.out.below hb8).far (by omega) _ _, ?_⟩
   all_goals show Blk _ _ _ #[.int .i64 (sumL p (A.take (k + 1)))]
   all_goals rw [hM]
   all_goals have ew : IntKind.i64.wrap (m + L) = m + L := by rw [IntKind.wrap_i64]; omega
   all_goals rw [ew]
   all_goals exact (E3.out.below hb8).set 0 (.int .i64 (m + L))
  | false =>
   have HM1 : Hid (sumL p (A.take (k + 1)) = m) := by unfold Hid; have h := HM.out; simpa using h
   clear HM
   gi_wp2
   have hM := HM1.out
   exact ⟨HO3.out, HB3.out, E0.out, E1.out, E2.out, by rw [hM]; exact E3.out⟩
 case done =>
  intro D W hD ⟨hB, c0, c1, c2, c3⟩ hK
  have HD : Hid (G + 2 ≤ D) := by unfold Hid; rw [← Hsz.out]; exact hD
  have HK := hide hK
  have HBk := hide hB
  rw [List.take_length] at c3
  obtain ⟨S, hS⟩ := nm (sumL p A)
  rw [← hS] at c3
  have HE := hide hS
  clear hS
  have C1 : Hid (Blk W (w.heap.size + 1) 3 #[.int .i64 0]) := c1
  have C2 : Hid (Blk W (w.heap.size + 1 + 1) 29 #[.nilIface]) := c2
  have C3 : Hid (Blk W G 3 #[.int .i64 S]) := c3
  clear hD hB c0 c1 c2 c3 hK
  have e1 : W.cell? ⟨w.heap.size + 1, 0, none⟩ = some (.int .i64 0) := C1.out.cell 0
  have z1 : W.frozen? ⟨w.heap.size + 1, 0, none⟩ = false := C1.out.frozen 0
  have e2 : W.cell? ⟨w.heap.size + 1 + 1, 0, none⟩ = some .nilIface := C2.out.cell 0
  have z2 : W.frozen? ⟨w.heap.size + 1 + 1, 0, none⟩ = false := C2.out.frozen 0
  have e3 : W.cell? ⟨G, 0, none⟩ = some (.int .i64 S) := C3.out.cell 0
  gi_wp2
  have hK' : ((W.setCell ⟨w.heap.size + 1, 0, none⟩ (.int .i64 S)).setCell ⟨w.heap.size + 1 + 1, 0, none⟩ .nilIface).heap[D]? = some (.deferred (some [])) := by
   have := HD.out
   have := HG.out
   rw [Below.heap_setCell _ _ _ _ (by simp; omega), Below.heap_setCell _ _ _ _ (by simp; omega)]; exact HK.out
  have r1 : Blk ((W.setCell ⟨w.heap.size + 1, 0, none⟩ (.int .i64 S)).setCell ⟨w.heap.size + 1 + 1, 0, none⟩ .nilIface) (w.heap.size + 1) 3 #[.int .i64 S] := (C1.out.set 0 _).far (by omega) _ _
  have r2 : Blk ((W.setCell ⟨w.heap.size + 1, 0, none⟩ (.int .i64 S)).setCell ⟨w.heap.size + 1 + 1, 0, none⟩ .nilIface) (w.heap.size + 1 + 1) 29 #[.nilIface] := (C2.out.far (by omega) _ _).set 0 _
  refine ⟨by simp, .inl ⟨_, _, rfl, run_takeDeferred hK', ?_⟩⟩
  have hd := HD.out
  have hg := HG.out
  have l1 := loadI (r1.putO (.deferred none) (l := D) (by omega))
  have l2 := loadE (r2.putO (.deferred none) (l := D) (by omega))
  refine ⟨.tuple #[.int .i64 S, .nilIface], ?_, by rw [HE.out], ?_⟩
  ·rw [results_two rfl]
   simp [asAddr, Result.andThen, l1, l2]
  ·exact ((HBk.out.setCell (by simp) _).setCell (by simp; omega) _).trans (below_putObj _ _ (by omega))
 case stop => exact fun _ _ _ _ _ h => h.elim
set_option maxHeartbeats 4000000 in
theorem wof_form (ao : Option Addr) (al acap : Nat) (co : Option Addr) (cl ccap : Nat) (u F : Int) (w : World)
    (hC : ∀ W, Below w.heap.size w W → Calls Tryz.prog 14 #[.agg #[.slice ao al acap, .slice co cl ccap]] W (Bk W (.iface 75 (.int .i64 F)))) :
    Calls Tryz.prog 8 #[.agg #[.slice ao al acap, .slice co cl ccap], .int .i64 u] w (Bk w (.tuple #[.int .i64 0, .iface 75 (.int .i64 F)])) := by
 have HC := hide hC
 clear hC
 obtain ⟨hs1, b0, b1, b2, hB1⟩ := three_new w (.cells #[.slice ao al acap, .slice co cl ccap] 25) (.cells #[.int .i64 0] 3) (.cells #[.nilIface] 29)
 obtain ⟨w1, hw1⟩ := nm (((w.alloc (.cells #[.slice ao al acap, .slice co cl ccap] 25)).alloc (.cells #[.int .i64 0] 3)).alloc (.cells #[.nilIface] 29))
 rw [← hw1] at hs1 b0 b1 b2 hB1
 have HB1 := hide hB1
 have I0 : Hid (Blk w1 w.heap.size 25 #[.slice ao al acap, .slice co cl ccap]) := b0
 have I1 : Hid (Blk w1 (w.heap.size + 1) 3 #[.int .i64 0]) := b1
 have I2 : Hid (Blk w1 (w.heap.size + 1 + 1) 29 #[.nilIface]) := b2
 clear hs1 b0 b1 b2 hB1
 go_enter Tryz.func8, Tryz.ntmps8
 go_upto_region 1 with fail
 rw [← hw1]
 clear hw1
 have i0 : w1.cell? ⟨w.heap.size, 0, none⟩ = some (.slice ao al acap) := I0.out.cell 0
 have i1 : w1.cell? ⟨w.heap.size, 1, none⟩ = some (.slice co cl ccap) := I0.out.cell 1
 go_wp2_with fail
 go_at_call 14
 refine (HC.out _ HB1.out).mono ?_
 rintro e w2 ⟨rfl, hb2⟩
 have HB2 := hide (HB1.out.trans (hb2.mono HB1.out.size))
 have J1 := hide (I1.out.below hb2)
 have J2 := hide (I2.out.below hb2)
 clear hb2 i0 i1
 have e1 : w2.cell? ⟨w.heap.size + 1, 0, none⟩ = some (.int .i64 0) := J1.out.cell 0
 have z1 : w2.frozen? ⟨w.heap.size + 1, 0, none⟩ = false := J1.out.frozen 0
 have e2 : w2.cell? ⟨w.heap.size + 1 + 1, 0, none⟩ = some .nilIface := J2.out.cell 0
 have z2 : w2.frozen? ⟨w.heap.size + 1 + 1, 0, none⟩ = false := J2.out.frozen 0
 go_wp2
 have r1 : Blk ((w2.setCell ⟨w.heap.size + 1, 0, none⟩ (.int .i64 0)).setCell ⟨w.heap.size + 1 + 1, 0, none⟩ (.iface 75 (.int .i64 F))) (w.heap.size + 1) 3 #[.int .i64 0] := (J1.out.set 0 _).far (by omega) _ _
 have r2 : Blk ((w2.setCell ⟨w.heap.size + 1, 0, none⟩ (.int .i64 0)).setCell ⟨w.heap.size + 1 + 1, 0, none⟩ (.iface 75 (.int .i64 F))) (w.heap.size + 1 + 1) 29 #[.iface 75 (.int .i64 F)] := (J2.out.far (by omega) _ _).set 0 _
 have l1 := loadI r1
 have l2 := loadE r2
 refine bodyPost_ret (v := .tuple #[.int .i64 0, .iface 75 (.int .i64 F)]) ?_ rfl ⟨rfl, ?_⟩
 ·rw [results_two rfl]
  simp [asAddr, Result.andThen, l1, l2]
 ·exact (HB2.out.setCell (by simp) _).setCell (by simp; omega) _
set_option maxHeartbeats 4000000 in
theorem wof_range (ao : Option Addr) (al acap : Nat) (co : Option Addr) (cl ccap : Nat) (u : Int) (hu : ¬ (0 ≤ u ∧ u ≤ 6)) (w : World)
    (hC : ∀ W, Below w.heap.size w W → Calls Tryz.prog 14 #[.agg #[.slice ao al acap, .slice co cl ccap]] W (Bk W .nilIface)) :
    Calls Tryz.prog 8 #[.agg #[.slice ao al acap, .slice co cl ccap], .int .i64 u] w (Bk w (.tuple #[.int .i64 0, .iface 75 (.int .i64 1)])) := by
 have HC := hide hC
 have HCk : Hid (∀ W, Calls Tryz.prog 27 #[.int .i64 u] W (Sk W (.iface 75 (.int .i64 1)))) := fun W => wcheck_no u hu W
 clear hC hu
 obtain ⟨hs1, b0, b1, b2, hB1⟩ := three_new w (.cells #[.slice ao al acap, .slice co cl ccap] 25) (.cells #[.int .i64 0] 3) (.cells #[.nilIface] 29)
 obtain ⟨w1, hw1⟩ := nm (((w.alloc (.cells #[.slice ao al acap, .slice co cl ccap] 25)).alloc (.cells #[.int .i64 0] 3)).alloc (.cells #[.nilIface] 29))
 rw [← hw1] at hs1 b0 b1 b2 hB1
 have HB1 := hide hB1
 have I0 : Hid (Blk w1 w.heap.size 25 #[.slice ao al acap, .slice co cl ccap]) := b0
 have I1 : Hid (Blk w1 (w.heap.size + 1) 3 #[.int .i64 0]) := b1
 have I2 : Hid (Blk w1 (w.heap.size + 1 + 1) 29 #[.nilIface]) := b2
 clear hs1 b0 b1 b2 hB1
 go_enter Tryz.func8, Tryz.ntmps8
 go_upto_region 1 with fail
 rw [← hw1]
 clear hw1
 have i0 : w1.cell? ⟨w.heap.size, 0, none⟩ = some (.slice ao al acap) := I0.out.cell 0
 have i1 : w1.cell? ⟨w.heap.size, 1, none⟩ = some (.slice co cl ccap) := I0.out.cell 1
 go_wp2_with fail
 go_at_call 14
 refine (HC.out _ HB1.out).mono ?_
 rintro e w2 ⟨rfl, hb2⟩
 have HB2 := hide (HB1.out.trans (hb2.mono HB1.out.size))
 have J1 := hide (I1.out.below hb2)
 have J2 := hide (I2.out.below hb2)
 clear hb2 i0 i1
 go_wp2_with fail
 go_at_call 27
 refine (HCk.out _).mono ?_
 rintro e w3 ⟨rfl, rfl⟩
 have e1 : w2.cell? ⟨w.heap.size + 1, 0, none⟩ = some (.int .i64 0) := J1.out.cell 0
 have z1 : w2.frozen? ⟨w.heap.size + 1, 0, none⟩ = false := J1.out.frozen 0
 have e2 : w2.cell? ⟨w.heap.size + 1 + 1, 0, none⟩ = some .nilIface := J2.out.cell 0
 have z2 : w2.frozen? ⟨w.heap.size + 1 + 1, 0, none⟩ = false := J2.out.frozen 0
 go_wp2
 have r1 : Blk ((w2.setCell ⟨w.heap.size + 1, 0, none⟩ (.int .i64 0)).setCell ⟨w.heap.size + 1 + 1, 0, none⟩ (.iface 75 (.int .i64 1))) (w.heap.size + 1) 3 #[.int .i64 0] := (J1.out.set 0 _).far (by omega) _ _
 have r2 : Blk ((w2.setCell ⟨w.heap.size + 1, 0, none⟩ (.int .i64 0)).setCell ⟨w.heap.size + 1 + 1, 0, none⟩ (.iface 75 (.int .i64 1))) (w.heap.size + 1 + 1) 29 #[.iface 75 (.int .i64 1)] := (J2.out.far (by omega) _ _).set 0 _
 have l1 := loadI r1
 have l2 := loadE r2
 refine bodyPost_ret (v := .tuple #[.int .i64 0, .iface 75 (.int .i64 1)]) ?_ rfl ⟨rfl, ?_⟩
 ·rw [results_two rfl]
  simp [asAddr, Result.andThen, l1, l2]
 ·exact (HB2.out.setCell (by simp) _).setCell (by simp; omega) _
theorem worldsOf_any (va vc : Value) (ats : List At) (c : List Int) (u : Int) (w : World) (hA : ReadsA w va ats) (hC : Reads w vc c) (hK : KindsLaid w) :
    Calls Tryz.prog 8 #[.agg #[va, vc], .int .i64 u] w (Bk w (.tuple #[.int .i64 (worldsN ats c u), errV (worldsFault ats c u)])) := by
 have hF := fun W hW => fcheck_any va vc ats c W (hA.below hW) (hC.below hW) (hK.below hW)
 have hH := fun (N : Nat → Int) W hW => wholds_any va vc ats c N W (hA.below hW) (hC.below hW) (hK.below hW)
 obtain ⟨ao, acap, rfl, _⟩ := hA.slice
 obtain ⟨co, ccap, rfl, _⟩ := hC.slice
 by_cases hf : formFault ats c = 0
 ·rw [hf] at hF
  by_cases hu : 0 ≤ u ∧ u ≤ 6
  ·obtain ⟨n, rfl⟩ := Int.eq_ofNat_of_zero_le hu.1
   have e0 : worldsFault ats c (n : Int) = 0 := by unfold worldsFault allFault; rw [if_pos hf, if_pos hu]
   have en : worldsN ats c (n : Int) = sumL (fun N => (madeN N 8).formIs ats c) (everyC n) := by unfold worldsN; rw [if_pos e0, Int.toNat_natCast]
   rw [e0, en]
   exact wof_right ao _ acap co _ ccap n (by omega) (fun N => (madeN N 8).formIs ats c) w hF fun M W hM hW => hH M W hW hf (everyC_right (by omega) hM)
  ·have e0 : worldsFault ats c u = 1 := by unfold worldsFault allFault; rw [if_pos hf, if_neg hu]
   have en : worldsN ats c u = 0 := by unfold worldsN; rw [if_neg (by rw [e0]; decide)]
   rw [e0, en]
   exact wof_range ao _ acap co _ ccap u hu w hF
 ·rw [errV_no hf] at hF
  have e0 : worldsFault ats c u = formFault ats c := by unfold worldsFault; rw [if_neg hf]
  have en : worldsN ats c u = 0 := by unfold worldsN; rw [if_neg (by rw [e0]; exact hf)]
  rw [e0, en, errV_no hf]
  exact wof_form ao _ acap co _ ccap u _ w hF
end Go.Proofs.YtjaedfjfcghgcabGreatDoor
namespace Go.Proofs.YtjaedfjfcghgcabGreatDoor
open Go.ChangeShapes Go.WideShapes Go.ChangeAt Go.RowKit
set_option maxRecDepth 100000
def ReadsO (w : World) (v : Value) (t : List Bool) : Prop :=
 (∃ ao cap, v = .slice ao 0 cap ∧ t = []) ∨ (∃ b off cap, v = .slice (some ⟨b, off, none⟩) t.length cap ∧ b < w.heap.size ∧ 0 < t.length ∧ (t.length ≤ 9223372036854775807 ∧ t.length ≤ cap) ∧ ∀ k, k < t.length → w.cell? ⟨b, off + k, none⟩ = some (.bool (t.getD k false)))
theorem ReadsO.below {w w' : World} {v : Value} {t : List Bool} (h : ReadsO w v t) (hb : Below w.heap.size w w') : ReadsO w' v t := by
 rcases h with h | ⟨b, off, cap, h1, h2, h3, h4, h5⟩
 ·exact Or.inl h
 ·exact Or.inr ⟨b, off, cap, h1, Nat.lt_of_lt_of_le h2 hb.size, h3, h4, fun k hk => by rw [hb.cell h2]; exact h5 k hk⟩
theorem ReadsO.slice {w : World} {v : Value} {t : List Bool} (h : ReadsO w v t) : ∃ ao cap, v = .slice ao t.length cap ∧ t.length ≤ 9223372036854775807 := by
 rcases h with ⟨ao, cap, rfl, rfl⟩ | ⟨b, off, cap, rfl, _, _, h, _⟩
 ·exact ⟨ao, cap, rfl, by decide⟩
 ·exact ⟨_, cap, rfl, h.1⟩
theorem own_readsO {w : World} {K : Nat} {v : Value} {t : List Bool} (h : w.ownsRow K 4 1 v t.length (t.map Value.bool)) (hm : t.length ≤ 9223372036854775807) : ReadsO w v t := by
 rcases h.2 with ⟨rfl, h0⟩ | ⟨g, cap, cur, rfl, hb, hg, hc, _⟩
 ·exact Or.inl ⟨none, 0, rfl, List.eq_nil_of_length_eq_zero h0⟩
 ·rcases Nat.eq_zero_or_pos t.length with h0 | h0
  ·have e : t = [] := List.eq_nil_of_length_eq_zero h0
   subst e
   exact Or.inl ⟨_, _, rfl, rfl⟩
  ·refine Or.inr ⟨g, 0, cap, rfl, (Array.getElem?_eq_some_iff.1 hg).1, h0, ⟨hm, hc⟩, fun k hk => ?_⟩
   rw [Nat.zero_add, h.cellAt _ (by omega), List.getElem?_map, List.getElem?_eq_getElem hk, List.getD_eq_getElem?_getD, List.getElem?_eq_getElem hk]
   rfl
theorem infoO : (Tryz.prog.info? 4).isSome = true := by kernel_rfl
theorem zeroO : (Tryz.prog.info? 4).bind (·.zero) = some (.bool false) := by kernel_rfl
theorem sizeO : (Tryz.prog.info? 4).map (·.size) = some 1 := by kernel_rfl
theorem bytesO : (Tryz.prog.info? 4).map (·.bytes) = some 1 := by kernel_rfl
theorem append_bool {w : World} {ops : Array Oper} {rest : List Oper} {o : Oper} {a : Act} {Q : Exit → Act → World → Prop} (hgd : o.guard = none) (s x : Operand)
    (ho : o.op = .call { callee := .builtin .append, args := #[s, x], argTypes := #[115, 115] }) (K : Nat) (v : Value) (hs : a.eval s = v) (l : List Bool) (r : Bool) (B c : Nat) (hx : a.eval x = .slice (some ⟨B, 0, none⟩) 1 c)
    (hown : w.ownsRow K 4 1 v l.length (l.map Value.bool)) (hB : w.heap[B]? = some (.cells #[.bool r] 4 (0, 0))) (hK : K ≤ w.heap.size) (h12 : l.length ≤ 12)
    (h : ∀ v' w', w'.ownsRow K 4 1 v' (l ++ [r]).length ((l ++ [r]).map Value.bool) → w.grownBy w' v.ownBlock → wpList Tryz.prog ops Q rest (a.put o.dst v') w') :
    wpList Tryz.prog ops Q (o :: rest) a w := by
 obtain ⟨i1, hi⟩ : ∃ i, Tryz.prog.info? 4 = some i := Option.isSome_iff_exists.1 infoO
 have hz0 : i1.zero = some (.bool false) := by have := zeroO; rw [hi] at this; simpa using this
 have hz1 : i1.size = 1 := by have := sizeO; rw [hi] at this; simpa using this
 have hz2 : i1.bytes = 1 := by have := bytesO; rw [hi] at this; simpa using this
 refine wpList_append_own_at w hgd s x 115 ho K 4 i1 _ 1 1 Tryz.underlying115 hi hz0 hz1 hz2 rfl (by decide) v l.length (l.map Value.bool) hs hown ⟨B, 0, none⟩ 1 c [.bool r] hx rfl (World.news_of_block hB) (by simp [Value.oneCell']) (by unfold maxLen; omega) (by omega) hK ?_
 intro v' w' h1 h2 _ _
 refine h v' w' ?_ h2
 rw [List.map_append, List.length_append]
 exact h1
end Go.Proofs.YtjaedfjfcghgcabGreatDoor
namespace Go.Proofs.YtjaedfjfcghgcabGreatDoor
open Go.ChangeShapes Go.WideShapes Go.ChangeAt Go.RowKit Go.Extern.Stop Go.Stop Go.Extern
set_option maxRecDepth 100000
theorem isnTypeOf (v : Value) (w : World) : (Extern.ReflectliteType.typeOf #[.iface 75 v]).run Tryz.prog w = .ok (.iface 207 (.agg #[.pointer (some ⟨12, 75, none⟩)])) w := by kernel_rfl
theorem isnComparable (w : World) : (callFunc 251 #[.agg #[.pointer (some ⟨12, 75, none⟩)]]).run Tryz.prog w = .ok (.value (.bool true)) w := by
 rw [@run_callFunc_extern Tryz.prog 251 _ (Extern.ReflectliteType.method fun t => do Rtype.noPackHeld "Comparable" t; pure (.bool (← typeInfo t).comparable)) Tryz.func251 (by kernel_rfl) (by kernel_rfl) (by kernel_rfl) (by kernel_rfl)]
 rw [show ((Extern.ReflectliteType.method fun t => do Rtype.noPackHeld "Comparable" t; pure (.bool (← typeInfo t).comparable)) #[.agg #[.pointer (some ⟨12, 75, none⟩)]]).run Tryz.prog w = .ok (.bool true) w by kernel_rfl]
 rfl
theorem isnMethodComparable (v : Value) (w : World) : (Go.method 421 207 v "Comparable").run Tryz.prog w = .ok (251, v) w := by kernel_rfl
theorem isnIsE (v : Value) (xT : TypeId) (w : World) : (Instr.typeAssert (.iface 75 v) xT 229 true).run Tryz.prog w = .ok (.tuple #[.nilIface, .bool false]) w := run_typeAssert_lacksB Tryz.underlying229 (by kernel_rfl) (by kernel_rfl) v xT w
theorem isnUnwrapE (v : Value) (xT : TypeId) (w : World) : (Instr.typeAssert (.iface 75 v) xT 214 true).run Tryz.prog w = .ok (.tuple #[.nilIface, .bool false]) w := run_typeAssert_lacksB Tryz.underlying214 (by kernel_rfl) (by kernel_rfl) v xT w
theorem isnUnwrapsE (v : Value) (xT : TypeId) (w : World) : (Instr.typeAssert (.iface 75 v) xT 216 true).run Tryz.prog w = .ok (.tuple #[.nilIface, .bool false]) w := run_typeAssert_lacksB Tryz.underlying216 (by kernel_rfl) (by kernel_rfl) v xT w
theorem isnEql (m : Int) (W : World) : (binOp .eql 29 (.iface 75 (.int .i64 m)) (.iface 75 (.int .i64 5))).run Tryz.prog W = .ok (.bool (m == 5)) W := by kernel_rfl
set_option maxHeartbeats 2000000 in
theorem isn_in (m : Int) (b : Bool) (hq : ∀ W, (binOp .eql 29 (.iface 75 (.int .i64 m)) (.iface 75 (.int .i64 5))).run Tryz.prog W = .ok (.bool b) W) (w : World) :
    Calls Tryz.prog 99 #[.iface 75 (.int .i64 m), .iface 75 (.int .i64 5)] w fun e w' => e = .returned (.bool b) ∧ w' = w := by
 have h8 := @run_callFunc_extern Tryz.prog 130 _ Extern.ReflectliteType.typeOf Tryz.func130 (by kernel_rfl) (by kernel_rfl) (by kernel_rfl) (by kernel_rfl)
 have tT := isnTypeOf
 have cT := isnComparable
 have mR := isnMethodComparable
 have nE := isnIsE
 have uE := isnUnwrapE
 have vE := isnUnwrapsE
 cases b
 ·go_enter Tryz.func99, Tryz.ntmps99
  go_wp2
  refine wp_loop_rounds 1 ?_
  rw [rounds_succ]
  go_wp2
  go_ret
  exact ⟨rfl, rfl⟩
 ·go_enter Tryz.func99, Tryz.ntmps99
  go_wp2
  refine wp_loop_rounds 1 ?_
  rw [rounds_succ]
  go_wp2
  go_ret
  exact ⟨rfl, rfl⟩
theorem isn_err (m : Int) (w : World) : Calls Tryz.prog 99 #[.iface 75 (.int .i64 m), .iface 75 (.int .i64 5)] w fun e w' => e = .returned (.bool (m == 5)) ∧ w' = w :=
 isn_in m (m == 5) (isnEql m) w
end Go.Proofs.YtjaedfjfcghgcabGreatDoor
namespace Go.Proofs.YtjaedfjfcghgcabGreatDoor
open Go.ChangeShapes Go.WideShapes Go.ChangeAt Go.RowKit
set_option maxRecDepth 100000
set_option maxHeartbeats 2000000 in
theorem indexO_any (t : List Bool) (v : Value) (w : World) (h : ReadsO w v t) :
    Calls Tryz.prog 57 #[v, .bool true] w fun e w' => ((∃ k : Nat, k < t.length ∧ t.getD k false = true ∧ (∀ j, j < k → t.getD j false = false) ∧ e = .returned (.int .i64 k)) ∨ ((∀ j, j < t.length → t.getD j false = false) ∧ e = .returned (.int .i64 (-1)))) ∧ Below w.heap.size w w' := by
 rcases h with ⟨ao, cap, rfl, rfl⟩ | ⟨b, off, cap, rfl, hB, h0, ⟨hl, _⟩, hc⟩
 ·go_enter Tryz.func57, Tryz.ntmps57
  go_wp2
  refine wp_loop_rounds 1 ?_
  rw [rounds_succ]
  go_wp2
  go_ret
  exact ⟨Or.inr ⟨fun j hj => absurd hj (by simp), rfl⟩, Below.refl _ _⟩
 ·have HC := hide hc
  have HB := hide hB
  clear hc hB
  obtain ⟨n, hn⟩ := nm t.length
  rw [← hn] at hl h0 ⊢
  have HN := hide hn
  clear hn
  go_enter Tryz.func57, Tryz.ntmps57
  go_wp2
  go_loopw [8] (fun i wr => ∃ k : Nat, k ≤ n ∧ i = .int .i64 k ∧ (∀ j, j < k → t.getD j false = false) ∧ Below w.heap.size w wr) (fun i _ => n - (intOf i).toNat)
  case atStart => exact ⟨0, Nat.zero_le _, rfl, fun j hj => absurd hj (by omega), Below.refl _ _⟩
  case round =>
   obtain ⟨k, hk, rfl, hall, hbel⟩ := hrel
   have HA := hide hall
   clear hall
   by_cases hlt : k < n
   ·obtain ⟨s, hs⟩ := nm (t.getD k false)
    have hkt : k < t.length := by rw [← HN.out]; exact hlt
    have c0 : wr.cell? ⟨b, off + k, none⟩ = some (.bool s) := by rw [hs, hbel.cell HB.out]; exact HC.out k hkt
    have HW := hide hbel
    have HS := hide hs
    clear hs hkt hbel
    cases s with
    | true =>
     go_wp2
     go_ret
     exact ⟨Or.inl ⟨k, hlt, HS.out.symm, HA.out, rfl⟩, HW.out⟩
    | false =>
     go_wp2
     go_roundw
     case rel =>
      refine ⟨k + 1, by omega, by go_num, fun j hj => ?_, HW.out⟩
      rcases Nat.lt_or_ge j k with h | h
      ·exact HA.out j h
      ·obtain rfl : j = k := by omega
       exact HS.out.symm
     case measure => simp [intOf]; omega
   ·obtain rfl : k = n := by omega
    have HW := hide hbel
    clear hbel
    go_wp2
    go_ret
    exact ⟨Or.inr ⟨HA.out, rfl⟩, HW.out⟩
set_option maxHeartbeats 8000000 in
theorem list_good (ao : Option Addr) (al acap : Nat) (co : Option Addr) (cl ccap : Nat) (m : Nat → Bool) (w : World)
    (hM : ∀ u : Nat, u ≤ 6 → ∀ W, Below w.heap.size w W → Calls Tryz.prog 7 #[.agg #[.slice ao al acap, .slice co cl ccap], .int .i64 u] W fun e w' => (∃ D : Wd, e = .returned (.tuple #[.agg #[.int .i64 D.u, .int .i64 D.a, .int .i64 D.b, .int .i64 D.c], if m u = true then .nilIface else .iface 75 (.int .i64 5)])) ∧ Below W.heap.size W w') :
    Calls Tryz.prog 56 #[.agg #[.slice ao al acap, .slice co cl ccap]] w fun e w' => (∃ v, e = .returned (.tuple #[v, .nilIface]) ∧ ReadsO w' v ((List.range 7).map m)) ∧ Below w.heap.size w w' := by
 have HM := hide hM
 clear hM
 obtain ⟨w1, hw1⟩ := nm (w.alloc (.cells #[.slice ao al acap, .slice co cl ccap] 25))
 have HB1 : Hid (Below w.heap.size w w1) := by unfold Hid; rw [hw1]; exact below_alloc1 _ _
 have HP1 : Hid (Blk w1 w.heap.size 25 #[.slice ao al acap, .slice co cl ccap]) := by unfold Hid; rw [hw1]; exact Blk.new _ _ _
 go_enter Tryz.func56, Tryz.ntmps56
 go_wp2_with fail
 rw [← hw1]
 clear hw1
 go_wp2_with fail
 go_loopw [4, 8] (fun l i wr => ∃ k : Nat, k ≤ 7 ∧ i = .int .i64 k ∧ Below w1.heap.size w1 wr ∧ wr.ownsRow w1.heap.size 4 1 l k (((List.range k).map m).map Value.bool)) (fun _ i _ => 7 - (intOf i).toNat)
 case atStart => exact ⟨0, by omega, rfl, Below.refl _ _, World.ownsRow_nil _ _ _ _⟩
 case round =>
  obtain ⟨k, hk, rfl, hbr, hown⟩ := hrel
  have HBr := hide hbr
  have HBw := hide (HB1.out.trans (hbr.mono HB1.out.size))
  have HOw := hide hown
  clear hbr hown
  by_cases hlt : k ≤ 6
  ·have x0 : wr.cell? ⟨w.heap.size, 0, none⟩ = some (.slice ao al acap) := (HP1.out.below HBr.out).cell 0
   have x1 : wr.cell? ⟨w.heap.size, 1, none⟩ = some (.slice co cl ccap) := (HP1.out.below HBr.out).cell 1
   go_wp2_with fail
   go_at_call 7
   refine (HM.out k hlt _ HBw.out).mono ?_
   rintro e w4 ⟨⟨D, rfl⟩, hb⟩
   have HB4 := hide (HBr.out.trans (hb.mono HBr.out.size))
   have HO4 : Hid (w4.ownsRow w1.heap.size 4 1 u4 k (((List.range k).map m).map Value.bool)) := ownsRow_below HOw.out hb
   clear hb x0 x1
   obtain ⟨w5, hw5⟩ := nm (w4.alloc (.cells #[.int .i64 D.u, .int .i64 D.a, .int .i64 D.b, .int .i64 D.c] 34))
   have HB5 : Hid (Below w1.heap.size w1 w5) := by unfold Hid; rw [hw5]; exact HB4.out.alloc HB4.out.size _
   have HO5 : Hid (w5.ownsRow w1.heap.size 4 1 u4 k (((List.range k).map m).map Value.bool)) := by unfold Hid; rw [hw5]; exact HO4.out.alloc _
   go_upto_region 6 with fail
   rw [← hw5]
   clear hw5
   obtain ⟨l, hl⟩ := nm ((List.range k).map m)
   have HLl : Hid (l.length = k) := by unfold Hid; rw [hl]; simp
   have HLs : Hid ((List.range (k + 1)).map m = l ++ [m k]) := by unfold Hid; rw [List.range_succ, List.map_append, ← hl]; rfl
   have HO6 : Hid (w5.ownsRow w1.heap.size 4 1 u4 l.length (l.map Value.bool)) := by unfold Hid; rw [HLl.out, hl]; exact HO5.out
   have HS := hide (HB5.out.size)
   have hl12 : l.length ≤ 12 := by have := HLl.out; omega
   obtain ⟨b, hb⟩ := nm (m k)
   rw [← hb] at HLs ⊢
   clear hl hb
   cases b with
   | true =>
    rw [if_pos rfl]
    go_wp2_with (at_builtin; refine append_bool rfl _ _ rfl w1.heap.size u4 rfl l true w5.heap.size 1 rfl (HO6.out.alloc _) (heap_alloc_new w5 _) (by have := HS.out; simp; omega) hl12 ?_)
    intro v9 w9 hown hgrow
    have HBa : Hid (Below w1.heap.size w1 (w5.alloc (.cells #[.bool true] 4))) := HB5.out.alloc HB5.out.size _
    have HB9 : Hid (Below w1.heap.size w1 w9) := HBa.out.grown hgrow HBa.out.size (fun x hx => (HO6.out.lt x hx).1)
    have HO9 : Hid (w9.ownsRow w1.heap.size 4 1 v9 (k + 1) (((List.range (k + 1)).map m).map Value.bool)) := by
     unfold Hid
     rw [HLs.out, List.map_append]
     have hl := HLl.out
     rw [← hl]
     simpa using hown
    clear hown hgrow
    go_wp2
    go_roundw
    case rel => exact ⟨k + 1, by omega, by go_num, HB9.out, HO9.out⟩
    case measure => simp [intOf]; omega
   | false =>
    rw [if_neg (by decide)]
    go_wp2_with fail
    go_at_call 99
    refine (isn_err 5 _).mono ?_
    rintro e w6 ⟨rfl, hw6⟩
    obtain rfl := hw6
    go_wp2_with (at_builtin; refine append_bool rfl _ _ rfl w1.heap.size u4 rfl l false w6.heap.size 1 rfl (HO6.out.alloc _) (heap_alloc_new w6 _) (by have := HS.out; simp; omega) hl12 ?_)
    intro v9 w9 hown hgrow
    have HBa : Hid (Below w1.heap.size w1 (w6.alloc (.cells #[.bool false] 4))) := HB5.out.alloc HB5.out.size _
    have HB9 : Hid (Below w1.heap.size w1 w9) := HBa.out.grown hgrow HBa.out.size (fun x hx => (HO6.out.lt x hx).1)
    have HO9 : Hid (w9.ownsRow w1.heap.size 4 1 v9 (k + 1) (((List.range (k + 1)).map m).map Value.bool)) := by
     unfold Hid
     rw [HLs.out, List.map_append]
     have hl := HLl.out
     rw [← hl]
     simpa using hown
    clear hown hgrow
    go_wp2
    go_roundw
    case rel => exact ⟨k + 1, by omega, by go_num, HB9.out, HO9.out⟩
    case measure => simp [intOf]; omega
  ·obtain rfl : k = 7 := by omega
   have HRd : Hid (ReadsO wr u4 ((List.range 7).map m)) := own_readsO (K := w1.heap.size) (by simpa using HOw.out) (by simp)
   go_wp2
   go_ret2
   exact ⟨⟨u4, rfl, HRd.out⟩, HBw.out⟩
set_option maxHeartbeats 8000000 in
theorem list_bad (ao : Option Addr) (al acap : Nat) (co : Option Addr) (cl ccap : Nat) (n : Int) (h5 : ¬ n = 5) (w : World)
    (hM : ∀ W, Below w.heap.size w W → Calls Tryz.prog 7 #[.agg #[.slice ao al acap, .slice co cl ccap], .int .i64 0] W fun e w' => (∃ D : Wd, e = .returned (.tuple #[.agg #[.int .i64 D.u, .int .i64 D.a, .int .i64 D.b, .int .i64 D.c], .iface 75 (.int .i64 n)])) ∧ Below W.heap.size W w') :
    Calls Tryz.prog 56 #[.agg #[.slice ao al acap, .slice co cl ccap]] w (Bk w (.tuple #[.slice none 0 0, .iface 75 (.int .i64 n)])) := by
 have HM := hide hM
 clear hM
 have HI : Hid (∀ W, Calls Tryz.prog 99 #[.iface 75 (.int .i64 n), .iface 75 (.int .i64 5)] W fun e w' => e = .returned (.bool false) ∧ w' = W) := fun W => by
  have h := isn_err n W
  rw [show (n == 5) = false by simp [h5]] at h
  exact h
 clear h5
 obtain ⟨w1, hw1⟩ := nm (w.alloc (.cells #[.slice ao al acap, .slice co cl ccap] 25))
 have HB1 : Hid (Below w.heap.size w w1) := by unfold Hid; rw [hw1]; exact below_alloc1 _ _
 have HP1 : Hid (Blk w1 w.heap.size 25 #[.slice ao al acap, .slice co cl ccap]) := by unfold Hid; rw [hw1]; exact Blk.new _ _ _
 have x0 : w1.cell? ⟨w.heap.size, 0, none⟩ = some (.slice ao al acap) := HP1.out.cell 0
 have x1 : w1.cell? ⟨w.heap.size, 1, none⟩ = some (.slice co cl ccap) := HP1.out.cell 1
 go_enter Tryz.func56, Tryz.ntmps56
 go_wp2_with fail
 rw [← hw1]
 clear hw1
 go_wp2_with fail
 refine wp_loop_rounds 1 ?_
 rw [rounds_succ]
 go_wp2_with fail
 go_at_call 7
 refine (HM.out _ HB1.out).mono ?_
 rintro e w4 ⟨⟨D, rfl⟩, hb⟩
 have HB4 := hide (HB1.out.trans (hb.mono HB1.out.size))
 clear hb x0 x1
 obtain ⟨w5, hw5⟩ := nm (w4.alloc (.cells #[.int .i64 D.u, .int .i64 D.a, .int .i64 D.b, .int .i64 D.c] 34))
 have HB5 : Hid (Below w.heap.size w w5) := by unfold Hid; rw [hw5]; exact HB4.out.alloc HB4.out.size _
 go_upto_region 6 with fail
 rw [← hw5]
 clear hw5
 go_wp2_with fail
 go_at_call 99
 refine (HI.out _).mono ?_
 rintro e w6 ⟨rfl, hw6⟩
 obtain rfl := hw6
 go_wp2
 go_ret2
 exact ⟨rfl, HB5.out⟩
set_option maxHeartbeats 4000000 in
theorem least_bad (ao : Option Addr) (al acap : Nat) (co : Option Addr) (cl ccap : Nat) (n : Int) (w : World)
    (hL : ∀ W, Below w.heap.size w W → Calls Tryz.prog 56 #[.agg #[.slice ao al acap, .slice co cl ccap]] W (Bk W (.tuple #[.slice none 0 0, .iface 75 (.int .i64 n)]))) :
    Calls Tryz.prog 18 #[.agg #[.slice ao al acap, .slice co cl ccap]] w (Bk w (.tuple #[.int .i64 0, .iface 75 (.int .i64 n)])) := by
 have HL := hide hL
 clear hL
 obtain ⟨w1, hw1⟩ := nm (w.alloc (.cells #[.slice ao al acap, .slice co cl ccap] 25))
 have HB1 : Hid (Below w.heap.size w w1) := by unfold Hid; rw [hw1]; exact below_alloc1 _ _
 have HP1 : Hid (Blk w1 w.heap.size 25 #[.slice ao al acap, .slice co cl ccap]) := by unfold Hid; rw [hw1]; exact Blk.new _ _ _
 have x0 : w1.cell? ⟨w.heap.size, 0, none⟩ = some (.slice ao al acap) := HP1.out.cell 0
 have x1 : w1.cell? ⟨w.heap.size, 1, none⟩ = some (.slice co cl ccap) := HP1.out.cell 1
 go_enter Tryz.func18, Tryz.ntmps18
 go_wp2_with fail
 rw [← hw1]
 clear hw1
 go_wp2_with fail
 go_at_call 56
 refine (HL.out _ HB1.out).mono ?_
 rintro e w4 ⟨rfl, hb⟩
 have HB4 := hide (HB1.out.trans (hb.mono HB1.out.size))
 clear hb x0 x1
 go_wp2
 go_ret2
 exact ⟨rfl, HB4.out⟩
set_option maxHeartbeats 4000000 in
theorem least_good (ao : Option Addr) (al acap : Nat) (co : Option Addr) (cl ccap : Nat) (t : List Bool) (w : World)
    (hL : ∀ W, Below w.heap.size w W → Calls Tryz.prog 56 #[.agg #[.slice ao al acap, .slice co cl ccap]] W fun e w' => (∃ v, e = .returned (.tuple #[v, .nilIface]) ∧ ReadsO w' v t) ∧ Below W.heap.size W w') :
    Calls Tryz.prog 18 #[.agg #[.slice ao al acap, .slice co cl ccap]] w fun e w' => ((∃ k : Nat, k < t.length ∧ t.getD k false = true ∧ (∀ j, j < k → t.getD j false = false) ∧ e = .returned (.tuple #[.int .i64 k, .nilIface])) ∨ ((∀ j, j < t.length → t.getD j false = false) ∧ e = .returned (.tuple #[.int .i64 0, .iface 75 (.int .i64 5)]))) ∧ Below w.heap.size w w' := by
 have HL := hide hL
 clear hL
 obtain ⟨w1, hw1⟩ := nm (w.alloc (.cells #[.slice ao al acap, .slice co cl ccap] 25))
 have HB1 : Hid (Below w.heap.size w w1) := by unfold Hid; rw [hw1]; exact below_alloc1 _ _
 have HP1 : Hid (Blk w1 w.heap.size 25 #[.slice ao al acap, .slice co cl ccap]) := by unfold Hid; rw [hw1]; exact Blk.new _ _ _
 have x0 : w1.cell? ⟨w.heap.size, 0, none⟩ = some (.slice ao al acap) := HP1.out.cell 0
 have x1 : w1.cell? ⟨w.heap.size, 1, none⟩ = some (.slice co cl ccap) := HP1.out.cell 1
 go_enter Tryz.func18, Tryz.ntmps18
 go_wp2_with fail
 rw [← hw1]
 clear hw1
 go_wp2_with fail
 go_at_call 56
 refine (HL.out _ HB1.out).mono ?_
 rintro e w4 ⟨⟨v, rfl, hr⟩, hb⟩
 have HR := hide hr
 have HB4 := hide (HB1.out.trans (hb.mono HB1.out.size))
 clear hb hr x0 x1
 go_wp2_with fail
 go_at_call 57
 refine (indexO_any t v _ HR.out).mono ?_
 rintro e w5 ⟨hor, hb⟩
 have HB5 := hide (HB4.out.trans (hb.mono HB4.out.size))
 clear hb
 rcases hor with ⟨k, hk, h1, h2, rfl⟩ | ⟨h1, rfl⟩
 ·have HK : Hid (k < t.length ∧ t.getD k false = true ∧ ∀ j, j < k → t.getD j false = false) := ⟨hk, h1, h2⟩
  clear hk h1 h2
  go_wp2
  go_ret2
  exact ⟨Or.inl ⟨k, HK.out.1, HK.out.2.1, HK.out.2.2, rfl⟩, HB5.out⟩
 ·have HK := hide h1
  clear h1
  go_wp2
  go_ret2
  exact ⟨Or.inr ⟨HK.out, rfl⟩, HB5.out⟩
end Go.Proofs.YtjaedfjfcghgcabGreatDoor
namespace Go.Proofs.YtjaedfjfcghgcabGreatDoor
open Go.RowKit Go.Extern.Stop Go.Stop Go.Extern
set_option maxRecDepth 100000
theorem rlValueOfP (t : Addr) (w : World) : (ReflectliteValue.unpack (.iface 137 (.pointer (some t)))).run Tryz.prog w
    = .ok (.agg #[.pointer (some ⟨12, 137, none⟩), .pointer (some ⟨w.heap.size, 0, none⟩), .int .u64 150]) (w.alloc (.cells #[.pointer (some t)] 137)) := by kernel_rfl
theorem rlTypeP (a : Addr) (w : World) : (ReflectliteValue.methodAny (ReflectliteValue.valueError "reflectlite.Value.Type" 0) (fun t _ _ _ => ReflectliteType.toType t) #[.agg #[.pointer (some ⟨12, 137, none⟩), .pointer (some a), .int .u64 150]]).run Tryz.prog w
    = .ok (.iface 207 (.agg #[.pointer (some ⟨12, 137, none⟩)])) w := by kernel_rfl
theorem rlMethodKind (h : Value) (w : World) : (Go.method 421 207 (.agg #[h]) "Kind").run Tryz.prog w = .ok (241, h) w := by kernel_rfl
theorem rlKindP (w : World) : ((ReflectliteType.abiMethod fun t => (fun a : Nat => Value.int IntKind.u8 (a : Int)) <$> Rtype.kind t) #[.pointer (some ⟨12, 137, none⟩)]).run Tryz.prog w = .ok (.int .u8 22) w := by kernel_rfl
theorem rlKindE (w : World) : ((ReflectliteType.abiMethod fun t => (fun a : Nat => Value.int IntKind.u8 (a : Int)) <$> Rtype.kind t) #[.pointer (some ⟨12, 75, none⟩)]).run Tryz.prog w = .ok (.int .u8 2) w := by kernel_rfl
theorem rlPartsP (a : Addr) (w : World) : (ReflectliteValue.parts (.agg #[.pointer (some ⟨12, 137, none⟩), .pointer (some a), .int .u64 150])).run Tryz.prog w = .ok (some (137, a, 150)) w := by kernel_rfl
theorem rlIsNilP (a p : Addr) (W : World) (ha : W.cell? a = some (.pointer (some p))) :
    (ReflectliteValue.method (ReflectliteValue.valueError "reflectlite.Value.IsNil" 0) ReflectliteValue.isNil #[.agg #[.pointer (some ⟨12, 137, none⟩), .pointer (some a), .int .u64 150]]).run Tryz.prog W = .ok (.bool false) W := by
 change (ReflectliteValue.parts (.agg #[.pointer (some ⟨12, 137, none⟩), .pointer (some a), .int .u64 150]) >>= _).run _ _ = _
 simp only [Sem.run_bind, rlPartsP, Result.andThen]
 simp [ReflectliteValue.isNil, loadVar, isAgg, underlying, Tryz.underlying137, ha, Result.andThen]
theorem rlMethodElem (h : Value) (w : World) : (Go.method 421 207 (.agg #[h]) "Elem").run Tryz.prog w = .ok (252, .agg #[h]) w := by kernel_rfl
theorem rlMethodImplements (h : Value) (w : World) : (Go.method 421 207 (.agg #[h]) "Implements").run Tryz.prog w = .ok (253, .agg #[h]) w := by kernel_rfl
theorem rlMethodAssignableTo (h : Value) (w : World) : (Go.method 421 207 (.agg #[h]) "AssignableTo").run Tryz.prog w = .ok (250, .agg #[h]) w := by kernel_rfl
theorem rlElemP (w : World) : (ReflectliteType.method ReflectliteType.elem #[.agg #[.pointer (some ⟨12, 137, none⟩)]]).run Tryz.prog w = .ok (.iface 207 (.agg #[.pointer (some ⟨12, 75, none⟩)])) w := by kernel_rfl
theorem rlImplementsE (w : World) : (ReflectliteType.relation "Implements" ReflectliteType.implements_ #[.agg #[.pointer (some ⟨12, 75, none⟩)], .iface 207 (.agg #[.pointer (some ⟨12, 29, none⟩)])]).run Tryz.prog w = .ok (.bool true) w := by kernel_rfl
theorem rlTypeOfE (v : Value) (w : World) : (ReflectliteType.typeOf #[.iface 75 v]).run Tryz.prog w = .ok (.iface 207 (.agg #[.pointer (some ⟨12, 75, none⟩)])) w := by kernel_rfl
theorem rlAssignableE (w : World) : (ReflectliteType.relation "AssignableTo" ReflectliteType.assignableTo #[.agg #[.pointer (some ⟨12, 75, none⟩)], .iface 207 (.agg #[.pointer (some ⟨12, 75, none⟩)])]).run Tryz.prog w = .ok (.bool true) w := by kernel_rfl
theorem rlValueOfE (n : Int) (w : World) : (ReflectliteValue.unpack (.iface 75 (.int .i64 n))).run Tryz.prog w
    = .ok (.agg #[.pointer (some ⟨12, 75, none⟩), .pointer (some ⟨w.heap.size, 0, none⟩), .int .u64 130]) (w.alloc (.cells #[.int .i64 n] 75)) := by kernel_rfl
theorem rlElemOfP (w : World) : (Rtype.elem? 137).run Tryz.prog w = .ok (some 75) w := by kernel_rfl
theorem rlMkE (p : Addr) (w : World) : (ReflectliteValue.mk 75 p ReflectliteValue.flagAddr).run Tryz.prog w = .ok (.agg #[.pointer (some ⟨12, 75, none⟩), .pointer (some p), .int .u64 386]) w := by kernel_rfl
theorem rlElemV (a p : Addr) (W : World) (ha : W.cell? a = some (.pointer (some p))) :
    (ReflectliteValue.method (ReflectliteValue.valueError "reflectlite.Value.Elem" 0) ReflectliteValue.elem #[.agg #[.pointer (some ⟨12, 137, none⟩), .pointer (some a), .int .u64 150]]).run Tryz.prog W
     = .ok (.agg #[.pointer (some ⟨12, 75, none⟩), .pointer (some p), .int .u64 386]) W := by
 change (ReflectliteValue.parts (.agg #[.pointer (some ⟨12, 137, none⟩), .pointer (some a), .int .u64 150]) >>= _).run _ _ = _
 simp only [Sem.run_bind, rlPartsP, Result.andThen]
 simp [ReflectliteValue.elem, loadVar, isAgg, underlying, Tryz.underlying137, ha, Result.andThen, rlElemOfP, rlMkE]
theorem rlPartsEa (a : Addr) (w : World) : (ReflectliteValue.parts (.agg #[.pointer (some ⟨12, 75, none⟩), .pointer (some a), .int .u64 386])).run Tryz.prog w = .ok (some (75, a, 386)) w := by kernel_rfl
theorem rlPartsE (a : Addr) (w : World) : (ReflectliteValue.parts (.agg #[.pointer (some ⟨12, 75, none⟩), .pointer (some a), .int .u64 130])).run Tryz.prog w = .ok (some (75, a, 130)) w := by kernel_rfl
theorem rlDirectE (w : World) : (Rtype.directlyAssignable 75 75).run Tryz.prog w = .ok true w := by kernel_rfl
theorem rlSetE (ta b : Addr) (n : Int) (old : Value) (W : World) (hb : W.cell? b = some (.int .i64 n)) (ht : W.cell? ta = some old) (hf : W.frozen? ta = false) :
    (ReflectliteValue.set #[.agg #[.pointer (some ⟨12, 75, none⟩), .pointer (some ta), .int .u64 386], .agg #[.pointer (some ⟨12, 75, none⟩), .pointer (some b), .int .u64 130]]).run Tryz.prog W
     = .ok (.tuple #[]) (W.setCell ta (.int .i64 n)) := by
 change (ReflectliteValue.parts (.agg #[.pointer (some ⟨12, 75, none⟩), .pointer (some ta), .int .u64 386]) >>= fun _ => ReflectliteValue.parts (.agg #[.pointer (some ⟨12, 75, none⟩), .pointer (some b), .int .u64 130]) >>= _).run _ _ = _
 simp only [Sem.run_bind, rlPartsEa, rlPartsE, Result.andThen]
 simp [ReflectliteValue.flagAddr, loadVar, isAgg, underlying, Tryz.underlying75, hb, Result.andThen, rlDirectE, storeVar, Value.cells, storeCells, Addr.add]
 rw [run_store Tryz.prog W ta _ _ (by rfl)]
 simp [ht, hf]
def Laid (w : World) : Prop := w.cell? ⟨3, 0, none⟩ = some (.iface 207 (.agg #[.pointer (some ⟨12, 29, none⟩)]))
theorem Laid.lt {w : World} (h : Laid w) : 3 < w.heap.size := by
 rcases Nat.lt_or_ge 3 w.heap.size with h' | h'
 ·exact h'
 ·simp [Laid, World.cell?, Array.getElem?_eq_none h'] at h
theorem Laid.below {w w' : World} (h : Laid w) (hb : Below w.heap.size w w') : Laid w' := by
 unfold Laid
 rw [hb.cell h.lt]
 exact h
def Acc (w0 w : World) : Prop := Laid w ∧ Below w0.heap.size w0 w
theorem Acc.step {w0 w w' : World} (h : Acc w0 w) (hb : Below w.heap.size w w') : Acc w0 w' := ⟨h.1.below hb, h.2.trans (hb.mono h.2.size)⟩
set_option maxRecDepth 100000 in
set_option maxHeartbeats 4000000 in
theorem as_hit (n : Int) (t : Addr) (old : Value) (w : World) (hg : w.cell? ⟨3, 0, none⟩ = some (.iface 207 (.agg #[.pointer (some ⟨12, 29, none⟩)]))) (ht0 : w.cell? t = some old) (hf0 : w.frozen? t = false) :
    Calls Tryz.prog 73 #[.iface 75 (.int .i64 n), .iface 137 (.pointer (some t))] w fun ev w' => ev = .returned (.bool true) ∧ ((((w.alloc (.cells #[.pointer (some t)] 137)).alloc (.cells #[.pointer (some ⟨12, 137, none⟩), .pointer (some ⟨w.heap.size, 0, none⟩), .int .u64 150] 175)).alloc (.cells #[.pointer (some ⟨12, 137, none⟩), .pointer (some ⟨w.heap.size, 0, none⟩), .int .u64 150] 175)).alloc (.cells #[.int .i64 n] 75)).setCell t (.int .i64 n) = w' := by
 have h6 := @run_callFunc_extern Tryz.prog 109 _ (fun args => ReflectliteValue.unpack (args.getD 0 (.tuple #[]))) Tryz.func109 (by kernel_rfl) (by kernel_rfl) (by kernel_rfl) (by kernel_rfl)
 have h7 := @run_callFunc_extern Tryz.prog 110 _ (ReflectliteValue.methodAny (ReflectliteValue.valueError "reflectlite.Value.Type" 0) (fun t _ _ _ => ReflectliteType.toType t)) Tryz.func110 (by kernel_rfl) (by kernel_rfl) (by kernel_rfl) (by kernel_rfl)
 have h8 := @run_callFunc_extern Tryz.prog 111 _ (ReflectliteValue.method (ReflectliteValue.valueError "reflectlite.Value.IsNil" 0) ReflectliteValue.isNil) Tryz.func111 (by kernel_rfl) (by kernel_rfl) (by kernel_rfl) (by kernel_rfl)
 have h27 := @run_callFunc_extern Tryz.prog 241 _ (ReflectliteType.abiMethod fun t => do pure (.int .u8 (← Rtype.kind t))) Tryz.func241 (by kernel_rfl) (by kernel_rfl) (by kernel_rfl) (by kernel_rfl)
 have h37 := @run_callFunc_extern Tryz.prog 252 _ (ReflectliteType.method ReflectliteType.elem) Tryz.func252 (by kernel_rfl) (by kernel_rfl) (by kernel_rfl) (by kernel_rfl)
 have h38 := @run_callFunc_extern Tryz.prog 253 _ (ReflectliteType.relation "Implements" ReflectliteType.implements_) Tryz.func253 (by kernel_rfl) (by kernel_rfl) (by kernel_rfl) (by kernel_rfl)
 have h10 := @run_callFunc_extern Tryz.prog 130 _ ReflectliteType.typeOf Tryz.func130 (by kernel_rfl) (by kernel_rfl) (by kernel_rfl) (by kernel_rfl)
 have h35 := @run_callFunc_extern Tryz.prog 250 _ (ReflectliteType.relation "AssignableTo" ReflectliteType.assignableTo) Tryz.func250 (by kernel_rfl) (by kernel_rfl) (by kernel_rfl) (by kernel_rfl)
 have h11 := @run_callFunc_extern Tryz.prog 144 _ (ReflectliteValue.method (ReflectliteValue.valueError "reflectlite.Value.Elem" 0) ReflectliteValue.elem) Tryz.func144 (by kernel_rfl) (by kernel_rfl) (by kernel_rfl) (by kernel_rfl)
 have h12 := @run_callFunc_extern Tryz.prog 145 _ ReflectliteValue.set Tryz.func145 (by kernel_rfl) (by kernel_rfl) (by kernel_rfl) (by kernel_rfl)
 have tO := rlTypeOfE
 have mA := rlMethodAssignableTo
 have a25 := rlAssignableE
 have v25 := rlValueOfE
 have f6 := rlValueOfP
 have f7 := rlTypeP
 have mK := rlMethodKind
 have mE := rlMethodElem
 have mI := rlMethodImplements
 have k27 := rlKindP
 have k25 := rlKindE
 have e27 := rlElemP
 have i25 := rlImplementsE
 have n8 := rlIsNilP ⟨w.heap.size, 0, none⟩ t ((w.alloc (.cells #[.pointer (some t)] 137)).alloc (.cells #[.pointer (some ⟨12, 137, none⟩), .pointer (some ⟨w.heap.size, 0, none⟩), .int .u64 150] 175)) (by simp)
 have hlt : 3 < w.heap.size := Laid.lt hg
 have hg2 : ((w.alloc (.cells #[.pointer (some t)] 137)).alloc (.cells #[.pointer (some ⟨12, 137, none⟩), .pointer (some ⟨w.heap.size, 0, none⟩), .int .u64 150] 175)).cell? ⟨3, 0, none⟩ = some (.iface 207 (.agg #[.pointer (some ⟨12, 29, none⟩)])) := by
  rw [World.cell?_alloc_lt _ _ ⟨3, 0, none⟩ (Nat.lt_of_lt_of_le hlt (by simp)), World.cell?_alloc_lt _ _ ⟨3, 0, none⟩ hlt]; exact hg
 have htl : t.block < w.heap.size := by
  rcases Nat.lt_or_ge t.block w.heap.size with h | h
  ·exact h
  ·simp [World.cell?, Array.getElem?_eq_none h] at ht0
 have el := rlElemV ⟨w.heap.size, 0, none⟩ t (((w.alloc (.cells #[.pointer (some t)] 137)).alloc (.cells #[.pointer (some ⟨12, 137, none⟩), .pointer (some ⟨w.heap.size, 0, none⟩), .int .u64 150] 175)).alloc (.cells #[.pointer (some ⟨12, 137, none⟩), .pointer (some ⟨w.heap.size, 0, none⟩), .int .u64 150] 175)) (by rw [World.cell?_alloc_lt _ _ ⟨w.heap.size, 0, none⟩ (by simp; omega)]; simp)
 have st := rlSetE t ⟨w.heap.size + 1 + 1 + 1, 0, none⟩ n old ((((w.alloc (.cells #[.pointer (some t)] 137)).alloc (.cells #[.pointer (some ⟨12, 137, none⟩), .pointer (some ⟨w.heap.size, 0, none⟩), .int .u64 150] 175)).alloc (.cells #[.pointer (some ⟨12, 137, none⟩), .pointer (some ⟨w.heap.size, 0, none⟩), .int .u64 150] 175)).alloc (.cells #[.int .i64 n] 75))
  (by rw [World.cell?_alloc_at _ _ _ _ (by simp)]; rfl)
  (by rw [World.cell?_alloc_lt _ _ t (by simp; omega), World.cell?_alloc_lt _ _ t (by simp; omega), World.cell?_alloc_lt _ _ t (by simp; omega), World.cell?_alloc_lt _ _ t htl]; exact ht0)
  (by rw [World.frozen?_alloc_old _ _ t (by simp; omega), World.frozen?_alloc_old _ _ t (by simp; omega), World.frozen?_alloc_old _ _ t (by simp; omega), World.frozen?_alloc_old _ _ t (Nat.ne_of_lt htl)]; exact hf0)
 go_enter Tryz.func73, Tryz.ntmps73
 go_wp2
 refine wp_loop_rounds 1 ?_
 rw [rounds_succ]
 go_wp2
 go_ret
 exact ⟨rfl, rfl⟩
end Go.Proofs.YtjaedfjfcghgcabGreatDoor
namespace Go.Proofs.YtjaedfjfcghgcabGreatDoor
open Go.ChangeShapes Go.WideShapes Go.ChangeAt Go.RowKit
end Go.Proofs.YtjaedfjfcghgcabGreatDoor