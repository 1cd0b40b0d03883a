/-
  Proved: what worlds.Of returns, of any formula and any number of things; what was in memory is as it was (a contract that the statements lean on).
  Proved: the row's condition on atom.kinds gives the walk its table, and the heap that the program's own initialisers leave meets the condition. (What the tied statement's frame leans on.)
-/
import Derived.Test.YteknlcachfhfkahDoorLibTU20
import Derived.Test.YteknlcachfhfkahDoorLibTU11
import Derived.Test.YteknlcachfhfkahDoorLibTU21
import Derived.Test.YteknlcachfhfkahDoorLibTU15
import Derived.LaidMore
import Derived.LaidHandle
import Derived.Stop.Joined
namespace Go.Proofs.YteknlcachfhfkahDoor
open Go.ChangeShapes Go.WideShapes Go.ChangeAt Go.RowKit
set_option maxRecDepth 100000
attribute [local go_sem] Oper.semAt_some

theorem three_new (w : World) (o0 o1 o2 : Obj) :
    (((w.alloc o0).alloc o1).alloc o2).heap.size = w.heap.size + 3 ∧
    (((w.alloc o0).alloc o1).alloc o2).heap[w.heap.size]? = some o0 ∧
    (((w.alloc o0).alloc o1).alloc o2).heap[w.heap.size + 1]? = some o1 ∧
    (((w.alloc o0).alloc o1).alloc o2).heap[w.heap.size + 1 + 1]? = some o2 ∧
    Below w.heap.size w (((w.alloc o0).alloc o1).alloc o2) := by
  have s1 : (w.alloc o0).heap.size = w.heap.size + 1 := World.size_alloc _ _
  have s2 : ((w.alloc o0).alloc o1).heap.size = w.heap.size + 1 + 1 := by rw [World.size_alloc, s1]
  refine ⟨by rw [World.size_alloc, s2], ?_, ?_, ?_, ?_⟩
  · rw [Below.heap_alloc _ _ _ (by omega), Below.heap_alloc _ _ _ (by omega)]; exact World.alloc_heap_new _ _
  · rw [Below.heap_alloc _ _ _ (by omega), ← s1]; exact World.alloc_heap_new _ _
  · rw [← s2]; exact World.alloc_heap_new _ _
  · exact (((Below.refl _ w).alloc (Nat.le_refl _) _).alloc (by omega) _).alloc (by omega) _

set_option maxHeartbeats 4000000 in
theorem wof_right (ao : Option Addr) (al acap : Nat) (co : Option Addr) (cl ccap : Nat) (n : Nat) (hn : n ≤ 6) (p : (Nat → Int) → Bool) (w : World)
    (hC : ∀ W, Below w.heap.size w W → Calls Tryd.prog 40 #[.agg #[.slice ao al acap, .slice co cl ccap]] W fun e w' => e = .returned .nilIface ∧ Below W.heap.size W w')
    (hH : ∀ (M : Nat → Int) W, M ∈ everyC n → Below w.heap.size w W → Calls Tryd.prog 33 #[.agg #[.slice ao al acap, .slice co cl ccap], .agg #[.int .i64 (M 0), .int .i64 (M 1), .int .i64 (M 2), .int .i64 (M 3), .int .i64 (M 4), .int .i64 (M 5), .int .i64 (M 6), .int .i64 (M 7)]] W fun e w' => e = .returned (.tuple #[.bool (p M), .nilIface]) ∧ Below W.heap.size W w') :
    Calls Tryd.prog 30 #[.agg #[.slice ao al acap, .slice co cl ccap], .int .i64 n] w fun e w' => e = .returned (.tuple #[.int .i64 (sumL p (everyC n)), .nilIface]) ∧ Below w.heap.size w w' := by
  obtain ⟨A, hA⟩ : ∃ A, A = everyC n := ⟨_, rfl⟩
  have HC : Hid (∀ W, Below w.heap.size w W → Calls Tryd.prog 40 #[.agg #[.slice ao al acap, .slice co cl ccap]] W fun e w' => e = .returned .nilIface ∧ Below W.heap.size W w') := hC
  have HF : Hid (∀ (k : Nat) (M : Nat → Int) W, A[k]? = some M → Below w.heap.size w W → Calls Tryd.prog 33 #[.agg #[.slice ao al acap, .slice co cl ccap], .agg #[.int .i64 (M 0), .int .i64 (M 1), .int .i64 (M 2), .int .i64 (M 3), .int .i64 (M 4), .int .i64 (M 5), .int .i64 (M 6), .int .i64 (M 7)]] W fun e w' => e = .returned (.tuple #[.bool (p M), .nilIface]) ∧ Below W.heap.size W w') := fun k M W hM hW => hH M W (by rw [hA] at hM; exact List.mem_of_getElem? hM) hW
  have HAl : Hid (∀ (k : Nat) (M : Nat → Int) W, A[k]? = some M → Calls Tryd.prog 55 #[.agg #[.int .i64 (M 0), .int .i64 (M 1), .int .i64 (M 2), .int .i64 (M 3), .int .i64 (M 4), .int .i64 (M 5), .int .i64 (M 6), .int .i64 (M 7)]] W fun e w' => e = .returned (.int .i64 (likeN M)) ∧ Below W.heap.size W w') := fun k M W hM => walike_any M (everyC_right hn (by rw [hA] at hM; exact List.mem_of_getElem? hM)) W
  have HS : Hid (∀ Bu W, W.cell? ⟨Bu, 0, none⟩ = some (.int .i64 n) → SeqG 2 Tryd.prog 58 #[.pointer (some ⟨Bu, 0, none⟩)] enc8 A W) := fun Bu W hB => by rw [hA]; exact iter_any n hn 2 (by omega) Bu W hB
  have HR : Hid (∀ (k : Nat) (M : Nat → Int), A[k]? = some M → 0 ≤ likeN M ∧ likeN M ≤ 262144 ∧ 0 ≤ sumL p (A.take k) ∧ sumL p (A.take k) ≤ 262144) := fun k M hM => by
    rw [hA] at hM ⊢
    have hmem := List.mem_of_getElem? hM
    have hp : ∀ N ∈ everyC n, 1 ≤ likeN N := fun N hN => like_pos hn hN
    have h1 := hp M hmem
    have h2 := sumL_has hp (p := fun _ => true) hmem rfl
    rw [(like_facts n hn).2] at h2
    have h3 := eight_le n hn
    have h4 := sumL_range (A := (everyC n).take k) (fun N hN => hp N (List.mem_of_mem_take hN)) p
    have h5 := sumL_part (A := everyC n) (fun N hN => Int.le_trans (by decide) (hp N hN)) (p := p) k
    have h6 := sumL_range hp p
    rw [(like_facts n hn).2] at h6
    omega
  rw [← hA]
  have HCk : Hid (∀ W, Calls Tryd.prog 54 #[.int .i64 n] W fun e w' => e = .returned .nilIface ∧ W = w') := fun W => wcheck_ok n hn W
  clear hA hn hC hH
  obtain ⟨hs1, b0, b1, b2, hB1⟩ := three_new w (.cells #[.slice ao al acap, .slice co cl ccap] 25) (.cells #[.int .i64 0] 3) (.cells #[.nilIface] 28)
  obtain ⟨w1, hw1⟩ : ∃ x, x = ((w.alloc (.cells #[.slice ao al acap, .slice co cl ccap] 25)).alloc (.cells #[.int .i64 0] 3)).alloc (.cells #[.nilIface] 28) := ⟨_, rfl⟩
  rw [← hw1] at hs1 b0 b1 b2 hB1
  have HB1 : Hid (Below w.heap.size w w1) := hB1
  have Hs1 : Hid (w1.heap.size = w.heap.size + 3) := hs1
  have I0 : Hid (Blk w1 w.heap.size 25 #[.slice ao al acap, .slice co cl ccap]) := b0
  have I1 : Hid (Blk w1 (w.heap.size + 1) 3 #[.int .i64 0]) := b1
  have I2 : Hid (Blk w1 (w.heap.size + 1 + 1) 28 #[.nilIface]) := b2
  clear hs1 b0 b1 b2 hB1
  refine (callsIn_wide (n := 3)).1 ?_
  refine callsIn_of_wp_marks Tryd.func30 rfl trivial ?_ rfl
  simp only [Tryd.ntmps30, List.size_toArray, List.length_cons, List.length_nil, Nat.reduceAdd, Nat.reduceSub, Array.replicate_succ, Array.replicate_zero, List.push_toArray, List.append_toArray, List.nil_append, List.cons_append]
  gi_upto_region 1 with fail
  rw [← hw1]
  clear hw1
  have i0 : w1.cell? ⟨w.heap.size, 0, none⟩ = some (.slice ao al acap) := I0.out.cell 0
  have i1 : w1.cell? ⟨w.heap.size, 1, none⟩ = some (.slice co cl ccap) := I0.out.cell 1
  gi_wp2_with fail
  refine ⟨trivial, ?_⟩
  gi_at_call 40
  refine (callsIn_wide.2 (HC.out _ HB1.out)).mono ?_
  rintro e w2 ⟨rfl, hb2⟩
  have HB2 : Hid (Below w.heap.size w w2) := HB1.out.trans (hb2.mono HB1.out.size)
  have J0 : Hid (Blk w2 w.heap.size 25 #[.slice ao al acap, .slice co cl ccap]) := I0.out.below hb2
  have J1 : Hid (Blk w2 (w.heap.size + 1) 3 #[.int .i64 0]) := I1.out.below hb2
  have J2 : Hid (Blk w2 (w.heap.size + 1 + 1) 28 #[.nilIface]) := I2.out.below hb2
  obtain ⟨G, hG⟩ : ∃ G, G = w2.heap.size := ⟨_, rfl⟩
  have HG : Hid (w.heap.size + 3 ≤ G) := by unfold Hid; rw [hG, ← Hs1.out]; exact hb2.size
  clear hb2 i0 i1
  gi_wp2_with fail
  refine ⟨trivial, ?_⟩
  gi_at_call 54
  refine (callsIn_wide.2 (HCk.out _)).mono ?_
  rintro e w3 ⟨rfl, rfl⟩
  gi_wp2_with fail
  refine ⟨trivial, ?_⟩
  gi_at_call 32
  refine (callsIn_wide.2 (fitAll_any _ _)).mono ?_
  rintro e w4 ⟨rfl, rfl⟩
  gi_wp2_with fail
  obtain ⟨wl, hwl⟩ : ∃ x, x = (w2.alloc (.cells #[.int .i64 0] 3)).alloc (.cells #[.int .i64 n] 3) := ⟨_, rfl⟩
  have HB0 : Hid (Below w.heap.size w wl) := by unfold Hid; rw [hwl]; exact (HB2.out.alloc HB2.out.size _).alloc (by rw [World.size_alloc]; exact Nat.le_succ_of_le HB2.out.size) _
  have Hsz : Hid (wl.heap.size = G + 2) := by unfold Hid; rw [hwl, hG, World.size_alloc, World.size_alloc]
  have H0 : Hid (Blk wl w.heap.size 25 #[.slice ao al acap, .slice co cl ccap]) := by unfold Hid; rw [hwl]; exact (J0.out.old _).old _
  have H1 : Hid (Blk wl (w.heap.size + 1) 3 #[.int .i64 0]) := by unfold Hid; rw [hwl]; exact (J1.out.old _).old _
  have H2 : Hid (Blk wl (w.heap.size + 1 + 1) 28 #[.nilIface]) := by unfold Hid; rw [hwl]; exact (J2.out.old _).old _
  have H3 : Hid (Blk wl G 3 #[.int .i64 0]) := by unfold Hid; rw [hwl, hG]; exact (Blk.new _ _ _).old _
  have H4 : Hid (Blk wl (G + 1) 3 #[.int .i64 n]) := by
    unfold Hid; rw [hwl, hG]
    have := Blk.new (w2.alloc (.cells #[.int .i64 0] 3)) 3 #[.int .i64 n]
    rw [World.size_alloc] at this
    exact this
  rw [← hwl, ← hG]
  clear hwl hG
  refine wpIn_range_own (by omega) (gf := 58) (lb := #[.pointer (some ⟨G + 1, 0, none⟩)]) rfl (enters_of Tryd.func58 (by kernel_rfl) rfl) (encs := enc8) (A := A)
    (fun W hW => HS.out _ W ((hW.cell (by rw [Hsz.out]; simp)).trans (H4.out.cell 0))) (fun _ => rfl)
    (fun k W => Below w.heap.size w W ∧ Blk W w.heap.size 25 #[.slice ao al acap, .slice co cl ccap] ∧ Blk W (w.heap.size + 1) 3 #[.int .i64 0] ∧ Blk W (w.heap.size + 1 + 1) 28 #[.nilIface] ∧ Blk W G 3 #[.int .i64 (sumL p (A.take k))])
    (fun _ _ => False)
    (fun k X Y h hb => ⟨h.1.trans (hb.mono (by have := HG.out; rw [Hsz.out]; omega)), h.2.1.keep hb (by have := HG.out; rw [Hsz.out]; omega), h.2.2.1.keep hb (by have := HG.out; rw [Hsz.out]; omega), h.2.2.2.1.keep hb (by have := HG.out; rw [Hsz.out]; omega), h.2.2.2.2.keep hb (by rw [Hsz.out]; omega)⟩)
    (fun _ _ _ h _ => h) ⟨HB0.out, H0.out, H1.out, H2.out, H3.out⟩ ?round ?done ?stop
  case round =>
    intro ln k x W hx hl1 hl2 ⟨hB, c0, c1, c2, c3⟩
    have HX : Hid (A[k]? = some x) := hx
    have Hl1 : Hid (G + 2 ≤ ln) := by unfold Hid; rw [← Hsz.out]; exact hl1
    have Hl2 : Hid (ln < W.heap.size) := hl2
    have HBk : Hid (Below w.heap.size w W) := hB
    have C0 : Hid (Blk W w.heap.size 25 #[.slice ao al acap, .slice co cl ccap]) := c0
    have C1 : Hid (Blk W (w.heap.size + 1) 3 #[.int .i64 0]) := c1
    have C2 : Hid (Blk W (w.heap.size + 1 + 1) 28 #[.nilIface]) := c2
    have C3 : Hid (Blk W G 3 #[.int .i64 (sumL p (A.take k))]) := c3
    clear hx hl1 hl2 hB c0 c1 c2 c3
    unfold enc8
    gi_wp2
    refine ⟨(Over.refl _ _).alloc _, fun o => ?_⟩
    obtain ⟨W2, hW2⟩ : ∃ X, X = (W.alloc (.cells #[.int .i64 (x 0), .int .i64 (x 1), .int .i64 (x 2), .int .i64 (x 3), .int .i64 (x 4), .int .i64 (x 5), .int .i64 (x 6), .int .i64 (x 7)] 63)).putObj ln o := ⟨_, rfl⟩
    obtain ⟨Gx, hGx⟩ : ∃ G, G = W.heap.size := ⟨_, rfl⟩
    have HB2 : Hid (Below w.heap.size w W2) := by unfold Hid; rw [hW2]; exact (HBk.out.alloc HBk.out.size _).trans (below_putObj _ _ (by have := Hl1.out; have := HG.out; omega))
    have D0 : Hid (Blk W2 w.heap.size 25 #[.slice ao al acap, .slice co cl ccap]) := by unfold Hid; rw [hW2]; exact (C0.out.old _).putO _ (by have := Hl1.out; have := HG.out; omega)
    have D1 : Hid (Blk W2 (w.heap.size + 1) 3 #[.int .i64 0]) := by unfold Hid; rw [hW2]; exact (C1.out.old _).putO _ (by have := Hl1.out; have := HG.out; omega)
    have D2 : Hid (Blk W2 (w.heap.size + 1 + 1) 28 #[.nilIface]) := by unfold Hid; rw [hW2]; exact (C2.out.old _).putO _ (by have := Hl1.out; have := HG.out; omega)
    have D3 : Hid (Blk W2 G 3 #[.int .i64 (sumL p (A.take k))]) := by unfold Hid; rw [hW2]; exact (C3.out.old _).putO _ (by have := Hl1.out; omega)
    have D8 : Hid (Blk W2 Gx 63 (arr8 x)) := by unfold Hid; rw [hW2, hGx]; exact (Blk.new _ _ _).putO _ (by have := Hl2.out; omega)
    rw [← hW2, ← hGx]
    clear hW2 hGx
    have HFk : Hid (Calls Tryd.prog 33 #[.agg #[.slice ao al acap, .slice co cl ccap], .agg #[.int .i64 (x 0), .int .i64 (x 1), .int .i64 (x 2), .int .i64 (x 3), .int .i64 (x 4), .int .i64 (x 5), .int .i64 (x 6), .int .i64 (x 7)]] W2 fun e w' => e = .returned (.tuple #[.bool (p x), .nilIface]) ∧ Below W2.heap.size W2 w') := HF.out k x W2 HX.out HB2.out
    have HM : Hid (sumL p (A.take (k + 1)) = sumL p (A.take k) + (if p x = true then likeN x else 0)) := sumL_take HX.out
    have HAk : Hid (∀ W, Calls Tryd.prog 55 #[.agg #[.int .i64 (x 0), .int .i64 (x 1), .int .i64 (x 2), .int .i64 (x 3), .int .i64 (x 4), .int .i64 (x 5), .int .i64 (x 6), .int .i64 (x 7)]] W fun e w' => e = .returned (.int .i64 (likeN x)) ∧ Below W.heap.size W w') := fun W => HAl.out k x W HX.out
    obtain ⟨hr1, hr2, hr3, hr4⟩ := HR.out k x HX.out
    obtain ⟨q, hq⟩ : ∃ q, q = p x := ⟨_, rfl⟩
    rw [← hq] at HFk HM
    clear hq
    obtain ⟨m, hm⟩ : ∃ m, m = sumL p (A.take k) := ⟨_, rfl⟩
    obtain ⟨L, hL⟩ : ∃ L, L = likeN x := ⟨_, rfl⟩
    rw [← hm] at HM D3 hr3 hr4
    rw [← hL] at HM HAk hr1 hr2
    have Hr : Hid (0 ≤ L ∧ L ≤ 262144 ∧ 0 ≤ m ∧ m ≤ 262144) := ⟨hr1, hr2, hr3, hr4⟩
    clear hm hL hr1 hr2 hr3 hr4
    have e0 : W2.cell? ⟨w.heap.size, 0, none⟩ = some (.slice ao al acap) := D0.out.cell 0
    have e1 : W2.cell? ⟨w.heap.size, 1, none⟩ = some (.slice co cl ccap) := D0.out.cell 1
    obtain ⟨x0, x1, x2, x3, x4, x5, x6, x7⟩ := D8.out.cells8
    gi_wp2_with fail
    refine ⟨trivial, ?_⟩
    gi_at_call 33
    refine (CallsIn.inRound ln (callsIn_wide.2 HFk.out)).mono ?_
    rintro e W3 ⟨rfl, hb3⟩
    have HB3 : Hid (Below w.heap.size w W3) := HB2.out.trans (hb3.mono HB2.out.size)
    have E0 : Hid (Blk W3 w.heap.size 25 #[.slice ao al acap, .slice co cl ccap]) := D0.out.below hb3
    have E1 : Hid (Blk W3 (w.heap.size + 1) 3 #[.int .i64 0]) := D1.out.below hb3
    have E2 : Hid (Blk W3 (w.heap.size + 1 + 1) 28 #[.nilIface]) := D2.out.below hb3
    have E3 : Hid (Blk W3 G 3 #[.int .i64 m]) := D3.out.below hb3
    have E8 : Hid (Blk W3 Gx 63 (arr8 x)) := D8.out.below hb3
    have HO3 : Hid (Over wl.heap.size W2 W3) := Over.of_below hb3
    clear hb3 e0 e1 x0 x1 x2 x3 x4 x5 x6 x7
    cases q with
    | true =>
      have HM1 : Hid (sumL p (A.take (k + 1)) = m + L) := by unfold Hid; have h := HM.out; simpa using h
      clear HM
      have e3 : W3.cell? ⟨G, 0, none⟩ = some (.int .i64 m) := E3.out.cell 0
      have z3 : W3.frozen? ⟨G, 0, none⟩ = false := E3.out.frozen 0
      obtain ⟨x0, x1, x2, x3, x4, x5, x6, x7⟩ := E8.out.cells8
      obtain ⟨hr1, hr2, hr3, hr4⟩ := Hr.out
      have HA3 : Hid (∀ W, Below W3.heap.size W3 W → Calls Tryd.prog 55 #[.agg #[.int .i64 (x 0), .int .i64 (x 1), .int .i64 (x 2), .int .i64 (x 3), .int .i64 (x 4), .int .i64 (x 5), .int .i64 (x 6), .int .i64 (x 7)]] W fun e w' => e = .returned (.int .i64 L) ∧ Below W3.heap.size W3 w' ∧ w'.cell? ⟨G, 0, none⟩ = some (.int .i64 m) ∧ w'.frozen? ⟨G, 0, none⟩ = false) := fun W hW => (HAk.out W).mono fun e w' ⟨h1, h2⟩ => ⟨h1, hW.trans (h2.mono hW.size), (E3.out.below (hW.trans (h2.mono hW.size))).cell 0, (E3.out.below (hW.trans (h2.mono hW.size))).frozen 0⟩
      gi_upto_region 14 with fail
      gi_region_with (refine ⟨trivial, ?_⟩; gi_at_call 55; refine (CallsIn.inRound ln (callsIn_wide.2 (HA3.out _ (by first | exact Below.drew (Below.refl _ _) | exact Below.refl _ _)))).mono ?_; rintro e w8 ⟨rfl, hb8, g8, z8⟩)
      all_goals gi_wp2
      all_goals have hM := HM1.out
      all_goals have hg := HG.out
      all_goals refine ⟨(HO3.out.trans (Over.of_below hb8)).setCell (by rw [Hsz.out]; simp) _, (HB3.out.trans (hb8.mono HB3.out.size)).setCell (by simp; omega) _, (E0.out.below hb8).far (by omega) _ _, (E1.out.below hb8).far (by omega) _ _, (E2.out.below hb8).far (by omega) _ _, ?_⟩
      all_goals show Blk _ _ _ #[.int .i64 (sumL p (A.take (k + 1)))]
      all_goals rw [hM]
      all_goals have ew : IntKind.i64.wrap (m + L) = m + L := by rw [IntKind.wrap_i64]; omega
      all_goals rw [ew]
      all_goals exact (E3.out.below hb8).set 0 (.int .i64 (m + L))
    | false =>
      have HM1 : Hid (sumL p (A.take (k + 1)) = m) := by unfold Hid; have h := HM.out; simpa using h
      clear HM
      gi_wp2
      have hM := HM1.out
      exact ⟨HO3.out, HB3.out, E0.out, E1.out, E2.out, by rw [hM]; exact E3.out⟩
  case done =>
    intro D W hD ⟨hB, c0, c1, c2, c3⟩ hK
    have HD : Hid (G + 2 ≤ D) := by unfold Hid; rw [← Hsz.out]; exact hD
    have HK : Hid (W.heap[D]? = some (.deferred (some []))) := hK
    have HBk : Hid (Below w.heap.size w W) := hB
    rw [List.take_length] at c3
    obtain ⟨S, hS⟩ : ∃ S, S = sumL p A := ⟨_, rfl⟩
    rw [← hS] at c3
    have HE : Hid (S = sumL p A) := hS
    clear hS
    have C1 : Hid (Blk W (w.heap.size + 1) 3 #[.int .i64 0]) := c1
    have C2 : Hid (Blk W (w.heap.size + 1 + 1) 28 #[.nilIface]) := c2
    have C3 : Hid (Blk W G 3 #[.int .i64 S]) := c3
    clear hD hB c0 c1 c2 c3 hK
    have e1 : W.cell? ⟨w.heap.size + 1, 0, none⟩ = some (.int .i64 0) := C1.out.cell 0
    have z1 : W.frozen? ⟨w.heap.size + 1, 0, none⟩ = false := C1.out.frozen 0
    have e2 : W.cell? ⟨w.heap.size + 1 + 1, 0, none⟩ = some .nilIface := C2.out.cell 0
    have z2 : W.frozen? ⟨w.heap.size + 1 + 1, 0, none⟩ = false := C2.out.frozen 0
    have e3 : W.cell? ⟨G, 0, none⟩ = some (.int .i64 S) := C3.out.cell 0
    gi_wp2
    have hK' : ((W.setCell ⟨w.heap.size + 1, 0, none⟩ (.int .i64 S)).setCell ⟨w.heap.size + 1 + 1, 0, none⟩ .nilIface).heap[D]? = some (.deferred (some [])) := by
      have := HD.out
      have := HG.out
      rw [Below.heap_setCell _ _ _ _ (by simp; omega), Below.heap_setCell _ _ _ _ (by simp; omega)]; exact HK.out
    have r1 : Blk ((W.setCell ⟨w.heap.size + 1, 0, none⟩ (.int .i64 S)).setCell ⟨w.heap.size + 1 + 1, 0, none⟩ .nilIface) (w.heap.size + 1) 3 #[.int .i64 S] := (C1.out.set 0 _).far (by omega) _ _
    have r2 : Blk ((W.setCell ⟨w.heap.size + 1, 0, none⟩ (.int .i64 S)).setCell ⟨w.heap.size + 1 + 1, 0, none⟩ .nilIface) (w.heap.size + 1 + 1) 28 #[.nilIface] := (C2.out.far (by omega) _ _).set 0 _
    refine ⟨by simp, .inl ⟨_, _, rfl, run_takeDeferred hK', ?_⟩⟩
    have hd := HD.out
    have hg := HG.out
    have l1 := loadI (r1.putO (.deferred none) (l := D) (by omega))
    have l2 := loadE (r2.putO (.deferred none) (l := D) (by omega))
    refine ⟨.tuple #[.int .i64 S, .nilIface], ?_, by rw [HE.out], ?_⟩
    · rw [results_two rfl]
      simp [asAddr, Result.andThen, l1, l2]
    · exact ((HBk.out.setCell (by simp) _).setCell (by simp; omega) _).trans (below_putObj _ _ (by omega))
  case stop => exact fun _ _ _ _ _ h => h.elim

set_option maxHeartbeats 4000000 in
theorem wof_form (ao : Option Addr) (al acap : Nat) (co : Option Addr) (cl ccap : Nat) (u F : Int) (w : World)
    (hC : ∀ W, Below w.heap.size w W → Calls Tryd.prog 40 #[.agg #[.slice ao al acap, .slice co cl ccap]] W fun e w' => e = .returned (.iface 67 (.int .i64 F)) ∧ Below W.heap.size W w') :
    Calls Tryd.prog 30 #[.agg #[.slice ao al acap, .slice co cl ccap], .int .i64 u] w fun e w' => e = .returned (.tuple #[.int .i64 0, .iface 67 (.int .i64 F)]) ∧ Below w.heap.size w w' := by
  have HC : Hid (∀ W, Below w.heap.size w W → Calls Tryd.prog 40 #[.agg #[.slice ao al acap, .slice co cl ccap]] W fun e w' => e = .returned (.iface 67 (.int .i64 F)) ∧ Below W.heap.size W w') := hC
  clear hC
  obtain ⟨hs1, b0, b1, b2, hB1⟩ := three_new w (.cells #[.slice ao al acap, .slice co cl ccap] 25) (.cells #[.int .i64 0] 3) (.cells #[.nilIface] 28)
  obtain ⟨w1, hw1⟩ : ∃ x, x = ((w.alloc (.cells #[.slice ao al acap, .slice co cl ccap] 25)).alloc (.cells #[.int .i64 0] 3)).alloc (.cells #[.nilIface] 28) := ⟨_, rfl⟩
  rw [← hw1] at hs1 b0 b1 b2 hB1
  have HB1 : Hid (Below w.heap.size w w1) := hB1
  have I0 : Hid (Blk w1 w.heap.size 25 #[.slice ao al acap, .slice co cl ccap]) := b0
  have I1 : Hid (Blk w1 (w.heap.size + 1) 3 #[.int .i64 0]) := b1
  have I2 : Hid (Blk w1 (w.heap.size + 1 + 1) 28 #[.nilIface]) := b2
  clear hs1 b0 b1 b2 hB1
  go_enter Tryd.func30, Tryd.ntmps30
  go_upto_region 1 with fail
  rw [← hw1]
  clear hw1
  have i0 : w1.cell? ⟨w.heap.size, 0, none⟩ = some (.slice ao al acap) := I0.out.cell 0
  have i1 : w1.cell? ⟨w.heap.size, 1, none⟩ = some (.slice co cl ccap) := I0.out.cell 1
  go_wp2_with fail
  go_at_call 40
  refine (HC.out _ HB1.out).mono ?_
  rintro e w2 ⟨rfl, hb2⟩
  have HB2 : Hid (Below w.heap.size w w2) := HB1.out.trans (hb2.mono HB1.out.size)
  have J1 : Hid (Blk w2 (w.heap.size + 1) 3 #[.int .i64 0]) := I1.out.below hb2
  have J2 : Hid (Blk w2 (w.heap.size + 1 + 1) 28 #[.nilIface]) := I2.out.below hb2
  clear hb2 i0 i1
  have e1 : w2.cell? ⟨w.heap.size + 1, 0, none⟩ = some (.int .i64 0) := J1.out.cell 0
  have z1 : w2.frozen? ⟨w.heap.size + 1, 0, none⟩ = false := J1.out.frozen 0
  have e2 : w2.cell? ⟨w.heap.size + 1 + 1, 0, none⟩ = some .nilIface := J2.out.cell 0
  have z2 : w2.frozen? ⟨w.heap.size + 1 + 1, 0, none⟩ = false := J2.out.frozen 0
  go_wp2
  have r1 : Blk ((w2.setCell ⟨w.heap.size + 1, 0, none⟩ (.int .i64 0)).setCell ⟨w.heap.size + 1 + 1, 0, none⟩ (.iface 67 (.int .i64 F))) (w.heap.size + 1) 3 #[.int .i64 0] := (J1.out.set 0 _).far (by omega) _ _
  have r2 : Blk ((w2.setCell ⟨w.heap.size + 1, 0, none⟩ (.int .i64 0)).setCell ⟨w.heap.size + 1 + 1, 0, none⟩ (.iface 67 (.int .i64 F))) (w.heap.size + 1 + 1) 28 #[.iface 67 (.int .i64 F)] := (J2.out.far (by omega) _ _).set 0 _
  have l1 := loadI r1
  have l2 := loadE r2
  refine bodyPost_ret (v := .tuple #[.int .i64 0, .iface 67 (.int .i64 F)]) ?_ rfl ⟨rfl, ?_⟩
  · rw [results_two rfl]
    simp [asAddr, Result.andThen, l1, l2]
  · exact (HB2.out.setCell (by simp) _).setCell (by simp; omega) _

set_option maxHeartbeats 4000000 in
theorem wof_range (ao : Option Addr) (al acap : Nat) (co : Option Addr) (cl ccap : Nat) (u : Int) (hu : ¬ (0 ≤ u ∧ u ≤ 6)) (w : World)
    (hC : ∀ W, Below w.heap.size w W → Calls Tryd.prog 40 #[.agg #[.slice ao al acap, .slice co cl ccap]] W fun e w' => e = .returned .nilIface ∧ Below W.heap.size W w') :
    Calls Tryd.prog 30 #[.agg #[.slice ao al acap, .slice co cl ccap], .int .i64 u] w fun e w' => e = .returned (.tuple #[.int .i64 0, .iface 67 (.int .i64 1)]) ∧ Below w.heap.size w w' := by
  have HC : Hid (∀ W, Below w.heap.size w W → Calls Tryd.prog 40 #[.agg #[.slice ao al acap, .slice co cl ccap]] W fun e w' => e = .returned .nilIface ∧ Below W.heap.size W w') := hC
  have HCk : Hid (∀ W, Calls Tryd.prog 54 #[.int .i64 u] W fun e w' => e = .returned (.iface 67 (.int .i64 1)) ∧ W = w') := fun W => wcheck_no u hu W
  clear hC hu
  obtain ⟨hs1, b0, b1, b2, hB1⟩ := three_new w (.cells #[.slice ao al acap, .slice co cl ccap] 25) (.cells #[.int .i64 0] 3) (.cells #[.nilIface] 28)
  obtain ⟨w1, hw1⟩ : ∃ x, x = ((w.alloc (.cells #[.slice ao al acap, .slice co cl ccap] 25)).alloc (.cells #[.int .i64 0] 3)).alloc (.cells #[.nilIface] 28) := ⟨_, rfl⟩
  rw [← hw1] at hs1 b0 b1 b2 hB1
  have HB1 : Hid (Below w.heap.size w w1) := hB1
  have I0 : Hid (Blk w1 w.heap.size 25 #[.slice ao al acap, .slice co cl ccap]) := b0
  have I1 : Hid (Blk w1 (w.heap.size + 1) 3 #[.int .i64 0]) := b1
  have I2 : Hid (Blk w1 (w.heap.size + 1 + 1) 28 #[.nilIface]) := b2
  clear hs1 b0 b1 b2 hB1
  go_enter Tryd.func30, Tryd.ntmps30
  go_upto_region 1 with fail
  rw [← hw1]
  clear hw1
  have i0 : w1.cell? ⟨w.heap.size, 0, none⟩ = some (.slice ao al acap) := I0.out.cell 0
  have i1 : w1.cell? ⟨w.heap.size, 1, none⟩ = some (.slice co cl ccap) := I0.out.cell 1
  go_wp2_with fail
  go_at_call 40
  refine (HC.out _ HB1.out).mono ?_
  rintro e w2 ⟨rfl, hb2⟩
  have HB2 : Hid (Below w.heap.size w w2) := HB1.out.trans (hb2.mono HB1.out.size)
  have J1 : Hid (Blk w2 (w.heap.size + 1) 3 #[.int .i64 0]) := I1.out.below hb2
  have J2 : Hid (Blk w2 (w.heap.size + 1 + 1) 28 #[.nilIface]) := I2.out.below hb2
  clear hb2 i0 i1
  go_wp2_with fail
  go_at_call 54
  refine (HCk.out _).mono ?_
  rintro e w3 ⟨rfl, rfl⟩
  have e1 : w2.cell? ⟨w.heap.size + 1, 0, none⟩ = some (.int .i64 0) := J1.out.cell 0
  have z1 : w2.frozen? ⟨w.heap.size + 1, 0, none⟩ = false := J1.out.frozen 0
  have e2 : w2.cell? ⟨w.heap.size + 1 + 1, 0, none⟩ = some .nilIface := J2.out.cell 0
  have z2 : w2.frozen? ⟨w.heap.size + 1 + 1, 0, none⟩ = false := J2.out.frozen 0
  go_wp2
  have r1 : Blk ((w2.setCell ⟨w.heap.size + 1, 0, none⟩ (.int .i64 0)).setCell ⟨w.heap.size + 1 + 1, 0, none⟩ (.iface 67 (.int .i64 1))) (w.heap.size + 1) 3 #[.int .i64 0] := (J1.out.set 0 _).far (by omega) _ _
  have r2 : Blk ((w2.setCell ⟨w.heap.size + 1, 0, none⟩ (.int .i64 0)).setCell ⟨w.heap.size + 1 + 1, 0, none⟩ (.iface 67 (.int .i64 1))) (w.heap.size + 1 + 1) 28 #[.iface 67 (.int .i64 1)] := (J2.out.far (by omega) _ _).set 0 _
  have l1 := loadI r1
  have l2 := loadE r2
  refine bodyPost_ret (v := .tuple #[.int .i64 0, .iface 67 (.int .i64 1)]) ?_ rfl ⟨rfl, ?_⟩
  · rw [results_two rfl]
    simp [asAddr, Result.andThen, l1, l2]
  · exact (HB2.out.setCell (by simp) _).setCell (by simp; omega) _

/-- in how many worlds it holds, whatever the formula and the number of things. -/
theorem worldsOf_any (va vc : Value) (ats : List At) (c : List Int) (u : Int) (w : World) (hA : ReadsA w va ats) (hC : Reads w vc c) (hK : KindsLaid w) :
    Calls Tryd.prog 30 #[.agg #[va, vc], .int .i64 u] w fun e w' => e = .returned (.tuple #[.int .i64 (worldsN ats c u), errV (worldsFault ats c u)]) ∧ Below w.heap.size w w' := by
  have hF := fun W hW => fcheck_any va vc ats c W (hA.below hW) (hC.below hW) (hK.below hW)
  have hH := fun (N : Nat → Int) W hW => wholds_any va vc ats c N W (hA.below hW) (hC.below hW) (hK.below hW)
  obtain ⟨ao, acap, rfl, _⟩ := hA.slice
  obtain ⟨co, ccap, rfl, _⟩ := hC.slice
  by_cases hf : formFault ats c = 0
  · rw [hf] at hF
    by_cases hu : 0 ≤ u ∧ u ≤ 6
    · obtain ⟨n, rfl⟩ := Int.eq_ofNat_of_zero_le hu.1
      have e0 : worldsFault ats c (n : Int) = 0 := by unfold worldsFault allFault; rw [if_pos hf, if_pos hu]
      have en : worldsN ats c (n : Int) = sumL (fun N => (madeN N 8).formIs ats c) (everyC n) := by unfold worldsN; rw [if_pos e0, Int.toNat_natCast]
      rw [e0, en]
      exact wof_right ao _ acap co _ ccap n (by omega) (fun N => (madeN N 8).formIs ats c) w hF fun M W hM hW => hH M W hW hf (everyC_right (by omega) hM)
    · have e0 : worldsFault ats c u = 1 := by unfold worldsFault allFault; rw [if_pos hf, if_neg hu]
      have en : worldsN ats c u = 0 := by unfold worldsN; rw [if_neg (by rw [e0]; decide)]
      rw [e0, en]
      exact wof_range ao _ acap co _ ccap u hu w hF
  · rw [errV_no hf] at hF
    have e0 : worldsFault ats c u = formFault ats c := by unfold worldsFault; rw [if_neg hf]
    have en : worldsN ats c u = 0 := by unfold worldsN; rw [if_neg (by rw [e0]; exact hf)]
    rw [e0, en, errV_no hf]
    exact wof_form ao _ acap co _ ccap u _ w hF
end Go.Proofs.YteknlcachfhfkahDoor

namespace Go.Proofs.YteknlcachfhfkahDoor
open Go.ChangeShapes Go.WideShapes Go.ChangeAt Go.RowKit
set_option maxRecDepth 100000

theorem ownN : ownKnob Tryd.prog.godebug = none := by kernel_rfl
def laidN : List (String × DataW Unit) := [("vennhouse/atom.kinds", Rows.laid_vennhouse_atom_kinds)]
theorem kinds_of_met {W : World} (h : laidMetH Tryd.prog laidN W) : KindsLaid W := by
  have h' : laidMet Tryd.prog laidN W := h
  exact kinds_of_head h'
theorem doorN_met (os : Os) (args : Array Value) : laidMetH Tryd.prog laidN ((World.doorLaid Tryd.prog 400 os).forCall (fun _ _ => 0) ⟨#[], args, []⟩).memory := by
  show laidMet Tryd.prog laidN _
  exact laidMet_of_run' 8 (by kernel_rfl) (by kernel_rfl)
end Go.Proofs.YteknlcachfhfkahDoor
