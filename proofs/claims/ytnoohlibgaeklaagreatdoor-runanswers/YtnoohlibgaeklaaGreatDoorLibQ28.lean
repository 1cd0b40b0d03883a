/-
  Facts and contracts that the statement leans on.
-/
import Derived.Test.YtnoohlibgaeklaaGreatDoorLibQ27
import Derived.Test.YtnoohlibgaeklaaGreatDoorLibQ11
import Derived.Test.YtnoohlibgaeklaaGreatDoorLibQ23
import Derived.Test.YtnoohlibgaeklaaGreatDoorLibQ10
import Derived.Laws.ResultCell
import Derived.Test.YtnoohlibgaeklaaGreatDoorLibQ9
import Derived.Test.YtnoohlibgaeklaaGreatDoorLibQ1
namespace Go.Proofs.YtnoohlibgaeklaaGreatDoor
open Go.ChangeShapes Go.WideShapes Go.ChangeAt Go.RowKit
set_option maxRecDepth 100000
set_option maxHeartbeats 16000000
attribute [local go_sem] Oper.semAt_some
theorem three_new (w : World) (o0 o1 o2 : Obj) :
    (((w.alloc o0).alloc o1).alloc o2).heap.size = w.heap.size + 3 ∧
    (((w.alloc o0).alloc o1).alloc o2).heap[w.heap.size]? = some o0 ∧
    (((w.alloc o0).alloc o1).alloc o2).heap[w.heap.size + 1]? = some o1 ∧
    (((w.alloc o0).alloc o1).alloc o2).heap[w.heap.size + 1 + 1]? = some o2 ∧
    Bw w (((w.alloc o0).alloc o1).alloc o2) := by
 have s1 : (w.alloc o0).heap.size = w.heap.size + 1 := World.size_alloc _ _
 have s2 : ((w.alloc o0).alloc o1).heap.size = w.heap.size + 1 + 1 := by rw [World.size_alloc, s1]
 refine ⟨by rw [World.size_alloc, s2], ?_, ?_, ?_, ?_⟩
 ·rw [Below.heap_alloc _ _ _ (by omega), Below.heap_alloc _ _ _ (by omega)]; exact World.alloc_heap_new _ _
 ·rw [Below.heap_alloc _ _ _ (by omega), ← s1]; exact World.alloc_heap_new _ _
 ·rw [← s2]; exact World.alloc_heap_new _ _
 ·exact (((Below.refl _ w).alloc (Nat.le_refl _) _).alloc (by omega) _).alloc (by omega) _
theorem wof_right (ao : Option Addr) (al acap : Nat) (co : Option Addr) (cl ccap : Nat) (n : Nat) (hn : n ≤ 6) (p : (Nat → Int) → Bool) (w : World)
    (hC : ∀ W, Bw w W → Calls Tryz.prog 78 #[.agg #[.slice ao al acap, .slice co cl ccap]] W (Bk W .nilIface))
    (hH : ∀ (M : Nat → Int) W, M ∈ everyC n → Bw w W → Calls Tryz.prog 81 #[.agg #[.slice ao al acap, .slice co cl ccap], .agg #[.int .i64 (M 0), .int .i64 (M 1), .int .i64 (M 2), .int .i64 (M 3), .int .i64 (M 4), .int .i64 (M 5), .int .i64 (M 6), .int .i64 (M 7)]] W (Bk W (.tuple #[.bool (p M), .nilIface]))) :
    Calls Tryz.prog 56 #[.agg #[.slice ao al acap, .slice co cl ccap], .int .i64 n] w (Bk w (.tuple #[.int .i64 (sumL p (everyC n)), .nilIface])) := by
 obtain ⟨A, hA⟩ := nm (everyC n)
 have HC := hide hC
 have HF : Hid (∀ (k : Nat) (M : Nat → Int) W, A[k]? = some M → Bw w W → Calls Tryz.prog 81 #[.agg #[.slice ao al acap, .slice co cl ccap], .agg #[.int .i64 (M 0), .int .i64 (M 1), .int .i64 (M 2), .int .i64 (M 3), .int .i64 (M 4), .int .i64 (M 5), .int .i64 (M 6), .int .i64 (M 7)]] W (Bk W (.tuple #[.bool (p M), .nilIface]))) := fun k M W hM hW => hH M W (by rw [hA] at hM; exact List.mem_of_getElem? hM) hW
 have HAl : Hid (∀ (k : Nat) (M : Nat → Int) W, A[k]? = some M → Calls Tryz.prog 82 #[.agg #[.int .i64 (M 0), .int .i64 (M 1), .int .i64 (M 2), .int .i64 (M 3), .int .i64 (M 4), .int .i64 (M 5), .int .i64 (M 6), .int .i64 (M 7)]] W (Bk W (.int .i64 (likeN M)))) := fun k M W hM => walike_any M (everyC_right hn (by rw [hA] at hM; exact List.mem_of_getElem? hM)) W
 have HS : Hid (∀ Bu W, W.cell? ⟨Bu, 0, none⟩ = some (.int .i64 n) → SeqR 2 Tryz.prog 118 #[.pointer (some ⟨Bu, 0, none⟩)] enc8 A W) := fun Bu W hB => by rw [hA]; exact iter_any n hn 2 (by omega) Bu W hB
 have HR : Hid (∀ (k : Nat) (M : Nat → Int), A[k]? = some M → 0 ≤ likeN M ∧ likeN M ≤ 262144 ∧ 0 ≤ sumL p (A.take k) ∧ sumL p (A.take k) ≤ 262144) := fun k M hM => by
  rw [hA] at hM ⊢
  have hmem := List.mem_of_getElem? hM
  have hp : ∀ N ∈ everyC n, 1 ≤ likeN N := fun N hN => like_pos hn hN
  have h1 := hp M hmem
  have h2 := sumL_has hp (p := fun _ => true) hmem rfl
  rw [(like_facts n hn).2] at h2
  have h3 := eight_le n hn
  have h4 := sumL_range (A := (everyC n).take k) (fun N hN => hp N (List.mem_of_mem_take hN)) p
  have h5 := sumL_part (A := everyC n) (fun N hN => Int.le_trans (by decide) (hp N hN)) (p := p) k
  have h6 := sumL_range hp p
  rw [(like_facts n hn).2] at h6
  omega
 rw [← hA]
 have HCk : Hid (∀ W, Calls Tryz.prog 79 #[.int .i64 n] W (Sk W .nilIface)) := fun W => wcheck_ok n hn W
 clear hA hn hC hH
 obtain ⟨hs1, b0, b1, b2, hB1⟩ := three_new w (.cells #[.slice ao al acap, .slice co cl ccap] 78) (.cells #[.int .i64 0] 3) (.cells #[.nilIface] 34)
 obtain ⟨w1, hw1⟩ := nm (((w.alloc (.cells #[.slice ao al acap, .slice co cl ccap] 78)).alloc (.cells #[.int .i64 0] 3)).alloc (.cells #[.nilIface] 34))
 rw [← hw1] at hs1 b0 b1 b2 hB1
 have HB1 := hide hB1
 have Hs1 := hide hs1
 have I0 : Hid (Blk w1 w.heap.size 78 #[.slice ao al acap, .slice co cl ccap]) := b0
 have I1 : Hid (Blk w1 (w.heap.size + 1) 3 #[.int .i64 0]) := b1
 have I2 : Hid (Blk w1 (w.heap.size + 1 + 1) 34 #[.nilIface]) := b2
 clear hs1 b0 b1 b2 hB1
 refine (callsIn_wide (n := 3)).1 ?_
 refine callsIn_of_wp_marks Tryz.func56 rfl trivial ?_ rfl
 simp only [Tryz.ntmps56, List.size_toArray, List.length_cons, List.length_nil, Nat.reduceAdd, Nat.reduceSub, Array.replicate_succ, Array.replicate_zero, List.push_toArray, List.append_toArray, List.nil_append, List.cons_append]
 gi_upto_region 1 with fail
 rw [← hw1]
 clear hw1
 have i0 : w1.cell? ⟨w.heap.size, 0, none⟩ = some (.slice ao al acap) := I0.out.cell 0
 have i1 : w1.cell? ⟨w.heap.size, 1, none⟩ = some (.slice co cl ccap) := I0.out.cell 1
 gi_wp2_with fail
 refine ⟨trivial, ?_⟩
 gi_at_call 78
 refine (callsIn_wide.2 (HC.out _ HB1.out)).mono ?_
 rintro e w2 ⟨rfl, hb2⟩
 have HB2 := bt HB1 hb2
 have J0 := hide (I0.out.below hb2)
 have J1 := hide (I1.out.below hb2)
 have J2 := hide (I2.out.below hb2)
 obtain ⟨G, hG⟩ := nm w2.heap.size
 have HG : Hid (w.heap.size + 3 ≤ G) := by unfold Hid; rw [hG, ← Hs1.out]; exact hb2.size
 clear hb2 i0 i1
 gi_wp2_with fail
 refine ⟨trivial, ?_⟩
 gi_at_call 79
 refine (callsIn_wide.2 (HCk.out _)).mono ?_
 rintro e w3 ⟨rfl, rfl⟩
 gi_wp2_with fail
 refine ⟨trivial, ?_⟩
 gi_at_call 80
 refine (callsIn_wide.2 (fitAll_any _ _)).mono ?_
 rintro e w4 ⟨rfl, rfl⟩
 gi_wp2_with fail
 obtain ⟨wl, hwl⟩ := nm ((w2.alloc (.cells #[.int .i64 0] 3)).alloc (.cells #[.int .i64 n] 3))
 have HB0 : Hid (Bw w wl) := by unfold Hid; rw [hwl]; exact (HB2.out.alloc HB2.out.size _).alloc (by rw [World.size_alloc]; exact Nat.le_succ_of_le HB2.out.size) _
 have Hsz : Hid (wl.heap.size = G + 2) := by unfold Hid; rw [hwl, hG, World.size_alloc, World.size_alloc]
 have H0 : Hid (Blk wl w.heap.size 78 #[.slice ao al acap, .slice co cl ccap]) := by unfold Hid; rw [hwl]; exact (J0.out.old _).old _
 have H1 : Hid (Blk wl (w.heap.size + 1) 3 #[.int .i64 0]) := by unfold Hid; rw [hwl]; exact (J1.out.old _).old _
 have H2 : Hid (Blk wl (w.heap.size + 1 + 1) 34 #[.nilIface]) := by unfold Hid; rw [hwl]; exact (J2.out.old _).old _
 have H3 : Hid (Blk wl G 3 #[.int .i64 0]) := by unfold Hid; rw [hwl, hG]; exact (Blk.new _ _ _).old _
 have H4 : Hid (Blk wl (G + 1) 3 #[.int .i64 n]) := by
  unfold Hid; rw [hwl, hG]
  have := Blk.new (w2.alloc (.cells #[.int .i64 0] 3)) 3 #[.int .i64 n]
  rw [World.size_alloc] at this
  exact this
 rw [← hwl, ← hG]
 clear hwl hG
 refine wpIn_range_own (by omega) (gf := 118) (lb := #[.pointer (some ⟨G + 1, 0, none⟩)]) rfl (enters_of Tryz.func118 (by kernel_rfl) rfl) (encs := enc8) (A := A)
  (fun W hW => HS.out _ W ((hW.cell (by rw [Hsz.out]; simp)).trans (H4.out.cell 0))) (fun _ => rfl)
  (fun k W => Bw w W ∧ Blk W w.heap.size 78 #[.slice ao al acap, .slice co cl ccap] ∧ Blk W (w.heap.size + 1) 3 #[.int .i64 0] ∧ Blk W (w.heap.size + 1 + 1) 34 #[.nilIface] ∧ Blk W G 3 #[.int .i64 (sumL p (A.take k))])
  (fun _ _ => False)
  (fun k X Y h hb => ⟨h.1.trans (hb.mono (by have := HG.out; rw [Hsz.out]; omega)), h.2.1.keep hb (by have := HG.out; rw [Hsz.out]; omega), h.2.2.1.keep hb (by have := HG.out; rw [Hsz.out]; omega), h.2.2.2.1.keep hb (by have := HG.out; rw [Hsz.out]; omega), h.2.2.2.2.keep hb (by rw [Hsz.out]; omega)⟩)
  (fun _ _ _ h _ => h) ⟨HB0.out, H0.out, H1.out, H2.out, H3.out⟩ ?round ?done ?stop
 case round =>
  intro ln k x W hx hl1 hl2 ⟨hB, c0, c1, c2, c3⟩
  have HX := hide hx
  have Hl1 : Hid (G + 2 ≤ ln) := by unfold Hid; rw [← Hsz.out]; exact hl1
  have Hl2 := hide hl2
  have HBk := hide hB
  have C0 : Hid (Blk W w.heap.size 78 #[.slice ao al acap, .slice co cl ccap]) := c0
  have C1 : Hid (Blk W (w.heap.size + 1) 3 #[.int .i64 0]) := c1
  have C2 : Hid (Blk W (w.heap.size + 1 + 1) 34 #[.nilIface]) := c2
  have C3 : Hid (Blk W G 3 #[.int .i64 (sumL p (A.take k))]) := c3
  clear hx hl1 hl2 hB c0 c1 c2 c3
  unfold enc8
  gi_wp2
  refine ⟨(Over.refl _ _).alloc _, fun o => ?_⟩
  obtain ⟨W2, hW2⟩ := nm ((W.alloc (.cells #[.int .i64 (x 0), .int .i64 (x 1), .int .i64 (x 2), .int .i64 (x 3), .int .i64 (x 4), .int .i64 (x 5), .int .i64 (x 6), .int .i64 (x 7)] 60)).putObj ln o)
  obtain ⟨Gx, hGx⟩ := nm W.heap.size
  have HB2 : Hid (Bw w W2) := by unfold Hid; rw [hW2]; exact (HBk.out.alloc HBk.out.size _).trans (below_putObj _ _ (by have := Hl1.out; have := HG.out; omega))
  have D0 : Hid (Blk W2 w.heap.size 78 #[.slice ao al acap, .slice co cl ccap]) := by unfold Hid; rw [hW2]; exact (C0.out.old _).putO _ (by have := Hl1.out; have := HG.out; omega)
  have D1 : Hid (Blk W2 (w.heap.size + 1) 3 #[.int .i64 0]) := by unfold Hid; rw [hW2]; exact (C1.out.old _).putO _ (by have := Hl1.out; have := HG.out; omega)
  have D2 : Hid (Blk W2 (w.heap.size + 1 + 1) 34 #[.nilIface]) := by unfold Hid; rw [hW2]; exact (C2.out.old _).putO _ (by have := Hl1.out; have := HG.out; omega)
  have D3 : Hid (Blk W2 G 3 #[.int .i64 (sumL p (A.take k))]) := by unfold Hid; rw [hW2]; exact (C3.out.old _).putO _ (by have := Hl1.out; omega)
  have D8 : Hid (Blk W2 Gx 60 (arr8 x)) := by unfold Hid; rw [hW2, hGx]; exact (Blk.new _ _ _).putO _ (by have := Hl2.out; omega)
  rw [← hW2, ← hGx]
  clear hW2 hGx
  have HFk := hide (HF.out k x W2 HX.out HB2.out)
  have HM : Hid (sumL p (A.take (k + 1)) = sumL p (A.take k) + (if p x = true then likeN x else 0)) := sumL_take HX.out
  have HAk : Hid (∀ W, Calls Tryz.prog 82 #[.agg #[.int .i64 (x 0), .int .i64 (x 1), .int .i64 (x 2), .int .i64 (x 3), .int .i64 (x 4), .int .i64 (x 5), .int .i64 (x 6), .int .i64 (x 7)]] W (Bk W (.int .i64 (likeN x)))) := fun W => HAl.out k x W HX.out
  obtain ⟨hr1, hr2, hr3, hr4⟩ := HR.out k x HX.out
  obtain ⟨q, hq⟩ := nm (p x)
  rw [← hq] at HFk HM
  clear hq
  obtain ⟨m, hm⟩ := nm (sumL p (A.take k))
  obtain ⟨L, hL⟩ := nm (likeN x)
  rw [← hm] at HM D3 hr3 hr4
  rw [← hL] at HM HAk hr1 hr2
  have Hr : Hid (0 ≤ L ∧ L ≤ 262144 ∧ 0 ≤ m ∧ m ≤ 262144) := ⟨hr1, hr2, hr3, hr4⟩
  clear hm hL hr1 hr2 hr3 hr4
  have e0 : W2.cell? ⟨w.heap.size, 0, none⟩ = some (.slice ao al acap) := D0.out.cell 0
  have e1 : W2.cell? ⟨w.heap.size, 1, none⟩ = some (.slice co cl ccap) := D0.out.cell 1
  obtain ⟨x0, x1, x2, x3, x4, x5, x6, x7⟩ := D8.out.cells8
  gi_wp2_with fail
  refine ⟨trivial, ?_⟩
  gi_at_call 81
  refine (CallsIn.inRound ln (callsIn_wide.2 HFk.out)).mono ?_
  rintro e W3 ⟨rfl, hb3⟩
  have HB3 := bt HB2 hb3
  have E0 := hide (D0.out.below hb3)
  have E1 := hide (D1.out.below hb3)
  have E2 := hide (D2.out.below hb3)
  have E3 := hide (D3.out.below hb3)
  have E8 := hide (D8.out.below hb3)
  have HO3 : Hid (Over wl.heap.size W2 W3) := Over.of_below hb3
  clear hb3 e0 e1 x0 x1 x2 x3 x4 x5 x6 x7
  cases q with
  | true =>
   have HM1 : Hid (sumL p (A.take (k + 1)) = m + L) := by unfold Hid; have h := HM.out; simpa using h
   clear HM
   have e3 : W3.cell? ⟨G, 0, none⟩ = some (.int .i64 m) := E3.out.cell 0
   have z3 : W3.frozen? ⟨G, 0, none⟩ = false := E3.out.frozen 0
   obtain ⟨x0, x1, x2, x3, x4, x5, x6, x7⟩ := E8.out.cells8
   obtain ⟨hr1, hr2, hr3, hr4⟩ := Hr.out
   have HA3 : Hid (∀ W, Bw W3 W → Calls Tryz.prog 82 #[.agg #[.int .i64 (x 0), .int .i64 (x 1), .int .i64 (x 2), .int .i64 (x 3), .int .i64 (x 4), .int .i64 (x 5), .int .i64 (x 6), .int .i64 (x 7)]] W fun e w' => e = .returned (.int .i64 L) ∧ Bw W3 w' ∧ w'.cell? ⟨G, 0, none⟩ = some (.int .i64 m) ∧ w'.frozen? ⟨G, 0, none⟩ = false) := fun W hW => (HAk.out W).mono fun e w' ⟨h1, h2⟩ => ⟨h1, hW.trans (h2.mono hW.size), (E3.out.below (hW.trans (h2.mono hW.size))).cell 0, (E3.out.below (hW.trans (h2.mono hW.size))).frozen 0⟩
   gi_upto_region 14 with fail
   gi_region_with (refine ⟨trivial, ?_⟩; gi_at_call 82; refine (CallsIn.inRound ln (callsIn_wide.2 (HA3.out _ (by first | exact Below.drew (Below.refl _ _) | exact Below.refl _ _)))).mono ?_; rintro e w8 ⟨rfl, hb8, g8, z8⟩)
   all_goals gi_wp2
   all_goals have hM := HM1.out
   all_goals have hg := HG.out
   all_goals refine ⟨(HO3.out.trans (Over.of_below hb8)).setCell (by rw [Hsz.out]; simp) _, (HB3.out.trans (hb8.mono HB3.out.size)).setCell (by simp; omega) _, (E0.out.below hb8).far (by omega) _ _, (E1.out.below hb8).far (by omega) _ _, (E2.out.below hb8).far (by omega) _ _, ?_⟩
   all_goals show Blk _ _ _ #[.int .i64 (sumL p (A.take (k + 1)))]
   all_goals rw [hM]
   all_goals have ew : IntKind.i64.wrap (m + L) = m + L := by rw [IntKind.wrap_i64]; omega
   all_goals rw [ew]
   all_goals exact (E3.out.below hb8).set 0 (.int .i64 (m + L))
  | false =>
   have HM1 : Hid (sumL p (A.take (k + 1)) = m) := by unfold Hid; have h := HM.out; simpa using h
   clear HM
   gi_wp2
   have hM := HM1.out
   exact ⟨HO3.out, HB3.out, E0.out, E1.out, E2.out, by rw [hM]; exact E3.out⟩
 case done =>
  intro D W hD ⟨hB, c0, c1, c2, c3⟩ hK
  have HD : Hid (G + 2 ≤ D) := by unfold Hid; rw [← Hsz.out]; exact hD
  have HK := hide hK
  have HBk := hide hB
  rw [List.take_length] at c3
  obtain ⟨S, hS⟩ := nm (sumL p A)
  rw [← hS] at c3
  have HE := hide hS
  clear hS
  have C1 : Hid (Blk W (w.heap.size + 1) 3 #[.int .i64 0]) := c1
  have C2 : Hid (Blk W (w.heap.size + 1 + 1) 34 #[.nilIface]) := c2
  have C3 : Hid (Blk W G 3 #[.int .i64 S]) := c3
  clear hD hB c0 c1 c2 c3 hK
  have e1 : W.cell? ⟨w.heap.size + 1, 0, none⟩ = some (.int .i64 0) := C1.out.cell 0
  have z1 : W.frozen? ⟨w.heap.size + 1, 0, none⟩ = false := C1.out.frozen 0
  have e2 : W.cell? ⟨w.heap.size + 1 + 1, 0, none⟩ = some .nilIface := C2.out.cell 0
  have z2 : W.frozen? ⟨w.heap.size + 1 + 1, 0, none⟩ = false := C2.out.frozen 0
  have e3 : W.cell? ⟨G, 0, none⟩ = some (.int .i64 S) := C3.out.cell 0
  gi_wp2
  have hK' : ((W.setCell ⟨w.heap.size + 1, 0, none⟩ (.int .i64 S)).setCell ⟨w.heap.size + 1 + 1, 0, none⟩ .nilIface).heap[D]? = some (.deferred (some [])) := by
   have := HD.out
   have := HG.out
   rw [Below.heap_setCell _ _ _ _ (by simp; omega), Below.heap_setCell _ _ _ _ (by simp; omega)]; exact HK.out
  have r1 : Blk ((W.setCell ⟨w.heap.size + 1, 0, none⟩ (.int .i64 S)).setCell ⟨w.heap.size + 1 + 1, 0, none⟩ .nilIface) (w.heap.size + 1) 3 #[.int .i64 S] := (C1.out.set 0 _).far (by omega) _ _
  have r2 : Blk ((W.setCell ⟨w.heap.size + 1, 0, none⟩ (.int .i64 S)).setCell ⟨w.heap.size + 1 + 1, 0, none⟩ .nilIface) (w.heap.size + 1 + 1) 34 #[.nilIface] := (C2.out.far (by omega) _ _).set 0 _
  refine ⟨by simp, .inl ⟨_, _, rfl, run_takeDeferred hK', ?_⟩⟩
  have hd := HD.out
  have hg := HG.out
  have l1 := loadI (r1.putO (.deferred none) (l := D) (by omega))
  have l2 := loadE (r2.putO (.deferred none) (l := D) (by omega))
  refine ⟨.tuple #[.int .i64 S, .nilIface], ?_, by rw [HE.out], ?_⟩
  ·rw [results_two rfl]
   simp [asAddr, Result.andThen, l1, l2]
  ·exact ((HBk.out.setCell (by simp) _).setCell (by simp; omega) _).trans (below_putObj _ _ (by omega))
 case stop => exact fun _ _ _ _ _ h => h.elim
theorem wof_form (ao : Option Addr) (al acap : Nat) (co : Option Addr) (cl ccap : Nat) (u F : Int) (w : World)
    (hC : ∀ W, Bw w W → Calls Tryz.prog 78 #[.agg #[.slice ao al acap, .slice co cl ccap]] W (Bk W (.iface 91 (.int .i64 F)))) :
    Calls Tryz.prog 56 #[.agg #[.slice ao al acap, .slice co cl ccap], .int .i64 u] w (Bk w (.tuple #[.int .i64 0, .iface 91 (.int .i64 F)])) := by
 have HC := hide hC
 clear hC
 obtain ⟨hs1, b0, b1, b2, hB1⟩ := three_new w (.cells #[.slice ao al acap, .slice co cl ccap] 78) (.cells #[.int .i64 0] 3) (.cells #[.nilIface] 34)
 obtain ⟨w1, hw1⟩ := nm (((w.alloc (.cells #[.slice ao al acap, .slice co cl ccap] 78)).alloc (.cells #[.int .i64 0] 3)).alloc (.cells #[.nilIface] 34))
 rw [← hw1] at hs1 b0 b1 b2 hB1
 have HB1 := hide hB1
 have I0 : Hid (Blk w1 w.heap.size 78 #[.slice ao al acap, .slice co cl ccap]) := b0
 have I1 : Hid (Blk w1 (w.heap.size + 1) 3 #[.int .i64 0]) := b1
 have I2 : Hid (Blk w1 (w.heap.size + 1 + 1) 34 #[.nilIface]) := b2
 clear hs1 b0 b1 b2 hB1
 go_enter Tryz.func56, Tryz.ntmps56
 go_upto_region 1 with fail
 rw [← hw1]
 clear hw1
 have i0 : w1.cell? ⟨w.heap.size, 0, none⟩ = some (.slice ao al acap) := I0.out.cell 0
 have i1 : w1.cell? ⟨w.heap.size, 1, none⟩ = some (.slice co cl ccap) := I0.out.cell 1
 go_wp2_with fail
 go_at_call 78
 refine (HC.out _ HB1.out).mono ?_
 rintro e w2 ⟨rfl, hb2⟩
 have HB2 := bt HB1 hb2
 have J1 := hide (I1.out.below hb2)
 have J2 := hide (I2.out.below hb2)
 clear hb2 i0 i1
 have e1 : w2.cell? ⟨w.heap.size + 1, 0, none⟩ = some (.int .i64 0) := J1.out.cell 0
 have z1 : w2.frozen? ⟨w.heap.size + 1, 0, none⟩ = false := J1.out.frozen 0
 have e2 : w2.cell? ⟨w.heap.size + 1 + 1, 0, none⟩ = some .nilIface := J2.out.cell 0
 have z2 : w2.frozen? ⟨w.heap.size + 1 + 1, 0, none⟩ = false := J2.out.frozen 0
 go_wp2
 have r1 : Blk ((w2.setCell ⟨w.heap.size + 1, 0, none⟩ (.int .i64 0)).setCell ⟨w.heap.size + 1 + 1, 0, none⟩ (.iface 91 (.int .i64 F))) (w.heap.size + 1) 3 #[.int .i64 0] := (J1.out.set 0 _).far (by omega) _ _
 have r2 : Blk ((w2.setCell ⟨w.heap.size + 1, 0, none⟩ (.int .i64 0)).setCell ⟨w.heap.size + 1 + 1, 0, none⟩ (.iface 91 (.int .i64 F))) (w.heap.size + 1 + 1) 34 #[.iface 91 (.int .i64 F)] := (J2.out.far (by omega) _ _).set 0 _
 have l1 := loadI r1
 have l2 := loadE r2
 refine bodyPost_ret (v := .tuple #[.int .i64 0, .iface 91 (.int .i64 F)]) ?_ rfl ⟨rfl, ?_⟩
 ·rw [results_two rfl]
  simp [asAddr, Result.andThen, l1, l2]
 ·exact (HB2.out.setCell (by simp) _).setCell (by simp; omega) _
theorem wof_range (ao : Option Addr) (al acap : Nat) (co : Option Addr) (cl ccap : Nat) (u : Int) (hu : ¬ (0 ≤ u ∧ u ≤ 6)) (w : World)
    (hC : ∀ W, Bw w W → Calls Tryz.prog 78 #[.agg #[.slice ao al acap, .slice co cl ccap]] W (Bk W .nilIface)) :
    Calls Tryz.prog 56 #[.agg #[.slice ao al acap, .slice co cl ccap], .int .i64 u] w (Bk w (.tuple #[.int .i64 0, .iface 91 (.int .i64 1)])) := by
 have HC := hide hC
 have HCk : Hid (∀ W, Calls Tryz.prog 79 #[.int .i64 u] W (Sk W (.iface 91 (.int .i64 1)))) := fun W => wcheck_no u hu W
 clear hC hu
 obtain ⟨hs1, b0, b1, b2, hB1⟩ := three_new w (.cells #[.slice ao al acap, .slice co cl ccap] 78) (.cells #[.int .i64 0] 3) (.cells #[.nilIface] 34)
 obtain ⟨w1, hw1⟩ := nm (((w.alloc (.cells #[.slice ao al acap, .slice co cl ccap] 78)).alloc (.cells #[.int .i64 0] 3)).alloc (.cells #[.nilIface] 34))
 rw [← hw1] at hs1 b0 b1 b2 hB1
 have HB1 := hide hB1
 have I0 : Hid (Blk w1 w.heap.size 78 #[.slice ao al acap, .slice co cl ccap]) := b0
 have I1 : Hid (Blk w1 (w.heap.size + 1) 3 #[.int .i64 0]) := b1
 have I2 : Hid (Blk w1 (w.heap.size + 1 + 1) 34 #[.nilIface]) := b2
 clear hs1 b0 b1 b2 hB1
 go_enter Tryz.func56, Tryz.ntmps56
 go_upto_region 1 with fail
 rw [← hw1]
 clear hw1
 have i0 : w1.cell? ⟨w.heap.size, 0, none⟩ = some (.slice ao al acap) := I0.out.cell 0
 have i1 : w1.cell? ⟨w.heap.size, 1, none⟩ = some (.slice co cl ccap) := I0.out.cell 1
 go_wp2_with fail
 go_at_call 78
 refine (HC.out _ HB1.out).mono ?_
 rintro e w2 ⟨rfl, hb2⟩
 have HB2 := bt HB1 hb2
 have J1 := hide (I1.out.below hb2)
 have J2 := hide (I2.out.below hb2)
 clear hb2 i0 i1
 go_wp2_with fail
 go_at_call 79
 refine (HCk.out _).mono ?_
 rintro e w3 ⟨rfl, rfl⟩
 have e1 : w2.cell? ⟨w.heap.size + 1, 0, none⟩ = some (.int .i64 0) := J1.out.cell 0
 have z1 : w2.frozen? ⟨w.heap.size + 1, 0, none⟩ = false := J1.out.frozen 0
 have e2 : w2.cell? ⟨w.heap.size + 1 + 1, 0, none⟩ = some .nilIface := J2.out.cell 0
 have z2 : w2.frozen? ⟨w.heap.size + 1 + 1, 0, none⟩ = false := J2.out.frozen 0
 go_wp2
 have r1 : Blk ((w2.setCell ⟨w.heap.size + 1, 0, none⟩ (.int .i64 0)).setCell ⟨w.heap.size + 1 + 1, 0, none⟩ (.iface 91 (.int .i64 1))) (w.heap.size + 1) 3 #[.int .i64 0] := (J1.out.set 0 _).far (by omega) _ _
 have r2 : Blk ((w2.setCell ⟨w.heap.size + 1, 0, none⟩ (.int .i64 0)).setCell ⟨w.heap.size + 1 + 1, 0, none⟩ (.iface 91 (.int .i64 1))) (w.heap.size + 1 + 1) 34 #[.iface 91 (.int .i64 1)] := (J2.out.far (by omega) _ _).set 0 _
 have l1 := loadI r1
 have l2 := loadE r2
 refine bodyPost_ret (v := .tuple #[.int .i64 0, .iface 91 (.int .i64 1)]) ?_ rfl ⟨rfl, ?_⟩
 ·rw [results_two rfl]
  simp [asAddr, Result.andThen, l1, l2]
 ·exact (HB2.out.setCell (by simp) _).setCell (by simp; omega) _
theorem worldsOf_any (va vc : Value) (ats : List At) (c : List Int) (u : Int) (w : World) (hA : ReadsA w va ats) (hC : Reads w vc c) (hK : KindsLaid w) :
    Calls Tryz.prog 56 #[.agg #[va, vc], .int .i64 u] w (Bk w (.tuple #[.int .i64 (worldsN ats c u), errV (worldsFault ats c u)])) := by
 have hF := fun W hW => fcheck_any va vc ats c W (hA.below hW) (hC.below hW) (hK.below hW)
 have hH := fun (N : Nat → Int) W hW => wholds_any va vc ats c N W (hA.below hW) (hC.below hW) (hK.below hW)
 obtain ⟨ao, acap, rfl, _⟩ := hA.slice
 obtain ⟨co, ccap, rfl, _⟩ := hC.slice
 by_cases hf : formFault ats c = 0
 ·rw [hf] at hF
  by_cases hu : 0 ≤ u ∧ u ≤ 6
  ·obtain ⟨n, rfl⟩ := Int.eq_ofNat_of_zero_le hu.1
   have e0 : worldsFault ats c (n : Int) = 0 := by unfold worldsFault allFault; rw [if_pos hf, if_pos hu]
   have en : worldsN ats c (n : Int) = sumL (fun N => (madeN N 8).formIs ats c) (everyC n) := by unfold worldsN; rw [if_pos e0, Int.toNat_natCast]
   rw [e0, en]
   exact wof_right ao _ acap co _ ccap n (by omega) (fun N => (madeN N 8).formIs ats c) w hF fun M W hM hW => hH M W hW hf (everyC_right (by omega) hM)
  ·have e0 : worldsFault ats c u = 1 := by unfold worldsFault allFault; rw [if_pos hf, if_neg hu]
   have en : worldsN ats c u = 0 := by unfold worldsN; rw [if_neg (by rw [e0]; decide)]
   rw [e0, en]
   exact wof_range ao _ acap co _ ccap u hu w hF
 ·rw [errV_no hf] at hF
  have e0 : worldsFault ats c u = formFault ats c := by unfold worldsFault; rw [if_neg hf]
  have en : worldsN ats c u = 0 := by unfold worldsN; rw [if_neg (by rw [e0]; exact hf)]
  rw [e0, en, errV_no hf]
  exact wof_form ao _ acap co _ ccap u _ w hF
end Go.Proofs.YtnoohlibgaeklaaGreatDoor
namespace Go.Proofs.YtnoohlibgaeklaaGreatDoor
open Go.ChangeShapes Go.WideShapes Go.ChangeAt Go.RowKit
set_option maxRecDepth 100000
set_option maxHeartbeats 16000000
def arrP (p : Int × Int) : Array Value := #[.int .i64 p.1, .int .i64 p.2]
def putP (w : World) (R : Nat) (p : Int × Int) : World := (w.setCell ⟨R, 0, none⟩ (.int .i64 p.1)).setCell ⟨R, 1, none⟩ (.int .i64 p.2)
theorem putP_blk {w : World} {R : Nat} {T : TypeId} {q : Int × Int} (h : Blk w R T (arrP q)) (p : Int × Int) : Blk (putP w R p) R T (arrP p) := by
 have := (h.set 0 (.int .i64 p.1)).set 1 (.int .i64 p.2)
 have e : ((arrP q).setIfInBounds 0 (.int .i64 p.1)).setIfInBounds 1 (.int .i64 p.2) = arrP p := by simp [arrP]
 rw [e] at this
 exact this
theorem loadP {W : World} {R : Nat} {p : Int × Int} (h : Blk W R 117 (arrP p)) : (loadVar 117 ⟨R, 0, none⟩).run Tryz.prog W = .ok (.agg (arrP p)) W := by
 have hl := run_loadCells_list (P := Tryz.prog) W ⟨R, 0, none⟩ (arrP p).toList (fun j v hj => by
  have := h.cell j
  rw [← Array.getElem?_toList] at this
  rw [hj] at this
  have ha : (⟨R, 0, none⟩ : Addr).add j = ⟨R, j, none⟩ := by unfold Addr.add; split <;> simp_all
  rw [ha]; exact this)
 simp [loadVar, Tryz.isAgg117, Tryz.sizeOf117, Result.andThen, arrP] at hl ⊢
 simp [hl]
def spanFrom (ats : List At) (c t : List Int) (u : Int) (L : List Wd) : Int × Int := L.foldl (spanStep ats c t) (u + 1, -1)
theorem spanFrom_add (ats : List At) (c t : List Int) (u : Int) (L : List Wd) (D : Wd) : spanFrom ats c t u (L ++ [D]) = spanStep ats c t (spanFrom ats c t u L) D := by
 unfold spanFrom; rw [List.foldl_append]; rfl
theorem span_from {ats : List At} {c t : List Int} {u : Int} : ∀ L : List Wd, (∀ D ∈ L, pcN (D.val t) ≤ u) →
    (spanFrom ats c t u L = (u + 1, -1) ∧ spanOver ats c t L = (100, -1)) ∨ (spanFrom ats c t u L = spanOver ats c t L ∧ 0 ≤ (spanOver ats c t L).1 ∧ (spanOver ats c t L).1 ≤ (spanOver ats c t L).2 ∧ (spanOver ats c t L).2 ≤ 6) := by
 refine revInd ?_ ?_
 ·intro _; exact Or.inl ⟨rfl, rfl⟩
 ·intro L E ih hL
  have ih := ih fun D hD => hL D (List.mem_append_left _ hD)
  have hE := hL E (by simp)
  have hp := pcN_le (E.val t)
  rw [spanFrom_add, spanOver_add]
  rcases Bool.eq_false_or_eq_true (E.formIs ats c) with hf | hf
  ·right
   unfold spanStep
   rw [if_pos hf, if_pos hf]
   rcases ih with ⟨h1, h2⟩ | ⟨h1, h2, h3, h4⟩
   ·rw [h1, h2]
    have e1 : pcN (E.val t) < u + 1 := by omega
    have e2 : pcN (E.val t) < 100 := by omega
    have e3 : (-1 : Int) < pcN (E.val t) := by omega
    rw [if_pos e1, if_pos e2, if_pos e3]
    exact ⟨rfl, hp.1, Int.le_refl _, hp.2⟩
   ·rw [h1]
    refine ⟨rfl, ?_, ?_, ?_⟩
    ·dsimp only
     split <;> omega
    ·dsimp only
     split <;> split <;> omega
    ·dsimp only
     split <;> omega
  ·have es : ∀ p, spanStep ats c t p E = p := fun p => by unfold spanStep; rw [if_neg (by rw [hf]; decide)]
   rw [es, es]
   exact ih
theorem made_size {t : List Int} (ht : faultN t = 0) {N : Nat → Int} (h0 : countsFault N = 0) : pcN ((madeN N 8).val t) = sumIn (liesB t) N 8 := by
 obtain ⟨n, hn⟩ := one_term ht
 rw [size_fields (made_ok h0) hn]
 exact sumIn_same fun f hf => made_fc h0 hf
theorem made_few {t : List Int} (ht : faultN t = 0) {u : Nat} (hu : u ≤ 6) : ∀ D ∈ worldsL u, pcN (D.val t) ≤ u := by
 intro D hD
 unfold worldsL at hD
 obtain ⟨N, hN, rfl⟩ := List.mem_map.1 hD
 have h0 := everyC_right hu hN
 rw [made_size ht h0, ← (everyC_sum hN).2]
 exact (sumIn_le (counts_zero.1 h0).1).2
def spCheckN (ats : List At) (c t : List Int) (u : Int) : Int := if formFault ats c = 0 then (if faultN t = 0 then (if 0 ≤ u ∧ u ≤ 6 then 0 else 1) else faultN t) else formFault ats c
theorem spcheck_form (ao : Option Addr) (al acap : Nat) (co : Option Addr) (cl ccap : Nat) (vt : Value) (u m : Int) (w : World)
    (HF : Hid (∀ W, Bw w W → Calls Tryz.prog 78 #[.agg #[.slice ao al acap, .slice co cl ccap]] W (Bk W (.iface 91 (.int .i64 m))))) :
    Calls Tryz.prog 103 #[.agg #[.slice ao al acap, .slice co cl ccap], vt, .int .i64 u] w (Bk w (.iface 91 (.int .i64 m))) := by
 go_enter Tryz.func103, Tryz.ntmps103
 go_wp2_with fail
 go_at_call 78
 refine (HF.out _ (below_alloc1 _ _)).mono ?_
 rintro e w2 ⟨rfl, hb⟩
 have HB : Hid (Bw w w2) := (below_alloc1 w _).trans (hb.mono (by simp))
 clear hb
 go_wp2
 go_ret
 exact ⟨rfl, HB.out⟩
theorem spcheck_term (ao : Option Addr) (al acap : Nat) (co : Option Addr) (cl ccap : Nat) (vt : Value) (u m : Int) (w : World)
    (HF : Hid (∀ W, Bw w W → Calls Tryz.prog 78 #[.agg #[.slice ao al acap, .slice co cl ccap]] W (Bk W .nilIface)))
    (HT : Hid (∀ W, Bw w W → Calls Tryz.prog 102 #[vt] W (Sk W (.iface 91 (.int .i64 m))))) :
    Calls Tryz.prog 103 #[.agg #[.slice ao al acap, .slice co cl ccap], vt, .int .i64 u] w (Bk w (.iface 91 (.int .i64 m))) := by
 go_enter Tryz.func103, Tryz.ntmps103
 go_wp2_with fail
 go_at_call 78
 refine (HF.out _ (below_alloc1 _ _)).mono ?_
 rintro e w2 ⟨rfl, hb⟩
 have HB : Hid (Bw w w2) := (below_alloc1 w _).trans (hb.mono (by simp))
 clear hb
 go_wp2_with fail
 go_at_call 102
 refine (HT.out _ HB.out).mono ?_
 rintro e w3 ⟨rfl, rfl⟩
 go_wp2
 go_ret
 exact ⟨rfl, HB.out⟩
theorem spcheck_good (ao : Option Addr) (al acap : Nat) (co : Option Addr) (cl ccap : Nat) (vt E : Value) (u : Int) (w : World)
    (HF : Hid (∀ W, Bw w W → Calls Tryz.prog 78 #[.agg #[.slice ao al acap, .slice co cl ccap]] W (Bk W .nilIface)))
    (HT : Hid (∀ W, Bw w W → Calls Tryz.prog 102 #[vt] W (Sk W .nilIface)))
    (HS : Hid (∀ W, Calls Tryz.prog 32 #[.int .i64 u, .int .i64 0] W (Sk W E))) :
    Calls Tryz.prog 103 #[.agg #[.slice ao al acap, .slice co cl ccap], vt, .int .i64 u] w (Bk w E) := by
 go_enter Tryz.func103, Tryz.ntmps103
 go_wp2_with fail
 go_at_call 78
 refine (HF.out _ (below_alloc1 _ _)).mono ?_
 rintro e w2 ⟨rfl, hb⟩
 have HB : Hid (Bw w w2) := (below_alloc1 w _).trans (hb.mono (by simp))
 clear hb
 go_wp2_with fail
 go_at_call 102
 refine (HT.out _ HB.out).mono ?_
 rintro e w3 ⟨rfl, rfl⟩
 go_wp2_with fail
 go_at_call 32
 refine (HS.out _).mono ?_
 rintro e w3 ⟨rfl, rfl⟩
 go_wp2
 go_ret
 exact ⟨rfl, HB.out⟩
theorem spcheck_any (va vc vt : Value) (ats : List At) (c t : List Int) (u : Int) (w : World) (hA : ReadsA w va ats) (hC : Reads w vc c) (hT : Reads w vt t) (hK : KindsLaid w) :
    Calls Tryz.prog 103 #[.agg #[va, vc], vt, .int .i64 u] w (Bk w (errV (spCheckN ats c t u))) := by
 have hF := fun W (hW : Bw w W) => fcheck_any va vc ats c W (hA.below hW) (hC.below hW) (hK.below hW)
 have hTc := fun W (hW : Bw w W) => tcheck_any t vt W (hT.below hW)
 obtain ⟨ao, acap, rfl, _⟩ := hA.slice
 obtain ⟨co, ccap, rfl, _⟩ := hC.slice
 unfold spCheckN
 by_cases hf : formFault ats c = 0
 ·rw [if_pos hf]
  rw [hf] at hF
  by_cases ht : faultN t = 0
  ·rw [if_pos ht]
   rw [ht] at hTc
   by_cases hu : 0 ≤ u ∧ u ≤ 6
   ·rw [if_pos hu]
    exact spcheck_good ao _ acap co _ ccap vt _ u w hF hTc fun W => check_ok _ _ (ok_zero hu.1 hu.2) W
   ·rw [if_neg hu]
    exact spcheck_good ao _ acap co _ ccap vt _ u w hF hTc fun W => check_no _ _ (okB_not.2 fun h => hu ⟨h.1, h.2.1⟩) W
  ·rw [if_neg ht, errV_no ht]
   rw [errV_no ht] at hTc
   exact spcheck_term ao _ acap co _ ccap vt u _ w hF hTc
 ·rw [if_neg hf, errV_no hf]
  rw [errV_no hf] at hF
  exact spcheck_form ao _ acap co _ ccap vt u _ w hF
def countFault (t : List Int) (N : Nat → Int) : Int := if faultN t = 0 then countsFault N else faultN t
def countN (t : List Int) (N : Nat → Int) : Int := if countFault t N = 0 then sumIn (liesB t) N 8 else 0
theorem mask_bit (L : Nat → Bool) {k : Nat} (hk : k < 8) : bits .and .i64 (maskTo L 8 / 2 ^ k) 1 = oneB (L k) := by
 obtain ⟨m0, m1⟩ := maskTo_le L 8
 have : maskTo L 8 < 256 := m1
 rw [bit_at _ k m0 this hk, has_mask L (Nat.le_refl _) hk]
theorem count_any (t : List Int) (v : Value) (N : Nat → Int) (w : World) (h : Reads w v t) :
    Calls Tryz.prog 104 #[v, .agg #[.int .i64 (N 0), .int .i64 (N 1), .int .i64 (N 2), .int .i64 (N 3), .int .i64 (N 4), .int .i64 (N 5), .int .i64 (N 6), .int .i64 (N 7)]] w (Bk w (.tuple #[.int .i64 (countN t N), errV (countFault t N)])) := by
 obtain ⟨w1, hw1⟩ := nm (w.alloc (.cells #[.int .i64 (N 0), .int .i64 (N 1), .int .i64 (N 2), .int .i64 (N 3), .int .i64 (N 4), .int .i64 (N 5), .int .i64 (N 6), .int .i64 (N 7)] 60))
 have HW : Hid (Bw w w1) := by unfold Hid; rw [hw1]; exact below_alloc1 _ _
 have HK0 : Hid (Blk w1 w.heap.size 60 (arr8 N)) := by unfold Hid; rw [hw1]; exact Blk.new _ _ _
 have HMa : Hid (Calls Tryz.prog 147 #[v] w1 (Bk w1 (.tuple #[.int .i64 (maskN t), errV (faultN t)]))) := mask_any t v w1 (h.below HW.out)
 have HCa : Hid (∀ W, Calls Tryz.prog 148 #[.agg #[.int .i64 (N 0), .int .i64 (N 1), .int .i64 (N 2), .int .i64 (N 3), .int .i64 (N 4), .int .i64 (N 5), .int .i64 (N 6), .int .i64 (N 7)]] W (Bk W (errV (countsFault N)))) := fun W => fcounts_any N W
 clear h
 by_cases hf : faultN t = 0
 ·have e0 : countFault t N = countsFault N := by unfold countFault; rw [if_pos hf]
  have e1 : maskN t = maskTo (liesB t) 8 := by unfold maskN; rw [if_pos hf]
  have HM : Hid (Calls Tryz.prog 147 #[v] w1 (Bk w1 (.tuple #[.int .i64 (maskTo (liesB t) 8), .nilIface]))) := by
   have := HMa.out
   rw [hf, e1] at this
   exact this
  clear HMa
  by_cases hc : countsFault N = 0
  ·have e2 : countN t N = sumIn (liesB t) N 8 := by unfold countN; rw [e0, if_pos hc]
   have HC : Hid (∀ W, Calls Tryz.prog 148 #[.agg #[.int .i64 (N 0), .int .i64 (N 1), .int .i64 (N 2), .int .i64 (N 3), .int .i64 (N 4), .int .i64 (N 5), .int .i64 (N 6), .int .i64 (N 7)]] W (Bk W .nilIface)) := fun W => by
    have := HCa.out W
    rw [hc] at this
    exact this
   have e3 : errV (countFault t N) = .nilIface := by rw [e0, hc]; rfl
   rw [e2, e3]
   have HN : Hid (∀ k, k < 8 → 0 ≤ N k ∧ N k ≤ 6) := (counts_zero.1 hc).1
   clear HCa e0 e1 e2 e3 hf hc
   obtain ⟨L, hL⟩ := nm (liesB t)
   rw [← hL] at HM ⊢
   clear hL
   have HBt : Hid (∀ k, k < 8 → bits .and .i64 (maskTo L 8 / 2 ^ k) 1 = oneB (L k)) := fun k hk => mask_bit L hk
   have HML : Hid (0 ≤ maskTo L 8 ∧ maskTo L 8 < 256) := maskTo_le L 8
   obtain ⟨M, hM⟩ := nm (maskTo L 8)
   rw [← hM] at HM HBt HML
   clear hM
   obtain ⟨m0, m1⟩ := HML.out
   go_enter Tryz.func104, Tryz.ntmps104
   go_wp2_with fail
   rw [← hw1]
   clear hw1
   go_wp2_with fail
   go_at_call 147
   refine HM.out.mono ?_
   rintro e w2 ⟨rfl, hb⟩
   have HB2 := bt HW hb
   have HK2 := hide (HK0.out.below hb)
   clear hb
   obtain ⟨x0, x1, x2, x3, x4, x5, x6, x7⟩ := HK2.out.cells8
   go_wp2_with fail
   go_at_call 148
   refine (HC.out _).mono ?_
   rintro e w3 ⟨rfl, hb⟩
   have HB3 := bt HB2 hb
   have HK3 := hide (HK2.out.below hb)
   clear hb x0 x1 x2 x3 x4 x5 x6 x7
   go_wp2
   go_loop [9, 24] (fun s i => ∃ k : Nat, k ≤ 8 ∧ i = .int .i64 k ∧ s = .int .i64 (sumIn L N k)) (fun _ i => 8 - (intOf i).toNat)
   case atStart => exact ⟨0, Nat.zero_le _, rfl, rfl⟩
   case round =>
    obtain ⟨k, hk, rfl, rfl⟩ := hrel
    by_cases hlt : k < 8
    ·have y : w3.cell? ⟨w.heap.size, k, none⟩ = some (.int .i64 (N k)) := by rw [HK3.out.cell, arr8_get _ hlt]
     have p1 := sumIn_le (L := L) (N := N) (k := k) fun f hf => HN.out f (by omega)
     have p2 := sumN_le (N := N) (k := k) fun f hf => HN.out f (by omega)
     have p3 := HN.out k hlt
     have hb := HBt.out k hlt
     rcases (Bool.eq_false_or_eq_true (L k)).symm with l | l
     ·have HS : Hid (sumIn L N (k + 1) = sumIn L N k) := by unfold Hid; show sumIn L N k + _ = _; rw [l]; simp
      rw [l] at hb
      replace hb : bits .and .i64 (M / 2 ^ k) 1 = 0 := hb
      clear l
      go_wp2
      go_round
      case rel => exact ⟨k + 1, by omega, by go_num, by rw [HS.out]⟩
      case measure => simp [intOf]; omega
     ·have HS : Hid (sumIn L N (k + 1) = sumIn L N k + N k) := by unfold Hid; show sumIn L N k + _ = _; rw [l]; simp
      rw [l] at hb
      replace hb : bits .and .i64 (M / 2 ^ k) 1 = 1 := hb
      clear l
      go_wp2
      go_round
      case rel => exact ⟨k + 1, by omega, by go_num, by rw [HS.out]⟩
      case measure => simp [intOf]; omega
    ·obtain rfl : k = 8 := by omega
     go_wp2
     go_ret2
     exact ⟨rfl, HB3.out⟩
  ·have e2 : countN t N = 0 := by unfold countN; rw [e0, if_neg hc]
   have e3 : errV (countFault t N) = .iface 91 (.int .i64 (countsFault N)) := by rw [e0]; unfold errV; rw [if_neg hc]
   have HC : Hid (∀ W, Calls Tryz.prog 148 #[.agg #[.int .i64 (N 0), .int .i64 (N 1), .int .i64 (N 2), .int .i64 (N 3), .int .i64 (N 4), .int .i64 (N 5), .int .i64 (N 6), .int .i64 (N 7)]] W (Bk W (.iface 91 (.int .i64 (countsFault N))))) := fun W => by
    have := HCa.out W
    unfold errV at this
    rw [if_neg hc] at this
    exact this
   rw [e2, e3]
   clear HCa e0 e1 e2 e3 hf hc
   obtain ⟨M, hM⟩ := nm (maskTo (liesB t) 8)
   rw [← hM] at HM
   clear hM
   obtain ⟨F, hF⟩ := nm (countsFault N)
   rw [← hF] at HC ⊢
   clear hF
   go_enter Tryz.func104, Tryz.ntmps104
   go_wp2_with fail
   rw [← hw1]
   clear hw1
   go_wp2_with fail
   go_at_call 147
   refine HM.out.mono ?_
   rintro e w2 ⟨rfl, hb⟩
   have HB2 := bt HW hb
   have HK2 := hide (HK0.out.below hb)
   clear hb
   obtain ⟨x0, x1, x2, x3, x4, x5, x6, x7⟩ := HK2.out.cells8
   go_wp2_with fail
   go_at_call 148
   refine (HC.out _).mono ?_
   rintro e w3 ⟨rfl, hb⟩
   have HB3 := bt HB2 hb
   clear hb x0 x1 x2 x3 x4 x5 x6 x7
   go_wp2
   go_ret2
   exact ⟨rfl, HB3.out⟩
 ·have e0 : countFault t N = faultN t := by unfold countFault; rw [if_neg hf]
  have e1 : maskN t = 0 := by unfold maskN; rw [if_neg hf]
  have e2 : countN t N = 0 := by unfold countN; rw [e0, if_neg hf]
  have e3 : errV (faultN t) = .iface 91 (.int .i64 (faultN t)) := by unfold errV; rw [if_neg hf]
  have HM : Hid (Calls Tryz.prog 147 #[v] w1 (Bk w1 (.tuple #[.int .i64 0, .iface 91 (.int .i64 (faultN t))]))) := by
   have := HMa.out
   rw [e1, e3] at this
   exact this
  rw [e2, e0, e3]
  clear HMa HCa e0 e1 e2 e3 hf
  obtain ⟨F, hF⟩ := nm (faultN t)
  rw [← hF] at HM ⊢
  clear hF
  go_enter Tryz.func104, Tryz.ntmps104
  go_wp2_with fail
  rw [← hw1]
  clear hw1
  go_wp2_with fail
  go_at_call 147
  refine HM.out.mono ?_
  rintro e w2 ⟨rfl, hb⟩
  have HB2 := bt HW hb
  clear hb
  go_wp2
  go_ret2
  exact ⟨rfl, HB2.out⟩
end Go.Proofs.YtnoohlibgaeklaaGreatDoor
