/-
  Proved: what span.Of and span.Exact return, of any formula, any row of signs and any number of things; what was in memory is as it was (contracts that the statements lean on).
  Proved: where the variable atom.kinds reads as the row lists it, its eighteen cells are those of the table of kinds. (What the tied statements' frames lean on.)
  Proved: where the variable errors.errorType reads as the row lists it, its one cell holds the handle of the type error; and the heap that the program's own initialisers leave meets the row's condition. (What the tied statements' frames lean on; after the guide's worked examples Toyas and Mapy.)
  Proved: the row's condition on errors.errorType and atom.kinds gives the walk the error's handle and the table of kinds, and the heap that the program's own initialisers leave meets the condition. (What the tied statements' frames lean on.)
-/
import Derived.Test.YtgkgbpbohgklhagDoorLibS16
import Derived.Test.YtgkgbpbohgklhagDoorLibS19
import Derived.Test.YtgkgbpbohgklhagDoorLibS20
import Derived.Test.YtgkgbpbohgklhagDoorRows
import Derived.Test.YtgkgbpbohgklhagDoorLibS10
import Derived.ProofKit
import Derived.OpenShut
import Derived.LaidLaws
import Derived.Stop.LaidErr
import Derived.Deep.Strs
import Derived.Test.YtgkgbpbohgklhagDoorLibS7
import Derived.LaidMore
import Derived.LaidHandle
import Derived.Stop.Joined
namespace Go.Proofs.YtgkgbpbohgklhagDoor
open Go.ChangeShapes Go.WideShapes Go.ChangeAt Go.RowKit
set_option maxRecDepth 100000
attribute [local go_sem] Oper.semAt_some

theorem four_new (w : World) (o0 o1 o2 o3 : Obj) :
    ((((w.alloc o0).alloc o1).alloc o2).alloc o3).heap.size = w.heap.size + 4 ∧
    ((((w.alloc o0).alloc o1).alloc o2).alloc o3).heap[w.heap.size]? = some o0 ∧
    ((((w.alloc o0).alloc o1).alloc o2).alloc o3).heap[w.heap.size + 1]? = some o1 ∧
    ((((w.alloc o0).alloc o1).alloc o2).alloc o3).heap[w.heap.size + 1 + 1]? = some o2 ∧
    ((((w.alloc o0).alloc o1).alloc o2).alloc o3).heap[w.heap.size + 1 + 1 + 1]? = some o3 ∧
    Below w.heap.size w ((((w.alloc o0).alloc o1).alloc o2).alloc o3) := by
  have s1 : (w.alloc o0).heap.size = w.heap.size + 1 := World.size_alloc _ _
  have s2 : ((w.alloc o0).alloc o1).heap.size = w.heap.size + 1 + 1 := by rw [World.size_alloc, s1]
  have s3 : (((w.alloc o0).alloc o1).alloc o2).heap.size = w.heap.size + 1 + 1 + 1 := by rw [World.size_alloc, s2]
  refine ⟨by rw [World.size_alloc, s3], ?_, ?_, ?_, ?_, ?_⟩
  · rw [Below.heap_alloc _ _ _ (by omega), Below.heap_alloc _ _ _ (by omega), Below.heap_alloc _ _ _ (by omega)]; exact World.alloc_heap_new _ _
  · rw [Below.heap_alloc _ _ _ (by omega), Below.heap_alloc _ _ _ (by omega), ← s1]; exact World.alloc_heap_new _ _
  · rw [Below.heap_alloc _ _ _ (by omega), ← s2]; exact World.alloc_heap_new _ _
  · rw [← s3]; exact World.alloc_heap_new _ _
  · exact ((((Below.refl _ w).alloc (Nat.le_refl _) _).alloc (by omega) _).alloc (by omega) _).alloc (by omega) _

set_option maxHeartbeats 4000000 in
theorem spof_right (ao : Option Addr) (al acap : Nat) (co : Option Addr) (cl ccap : Nat) (tq : Option Addr) (tl tcap : Nat) (n : Nat) (hn : n ≤ 6) (p : (Nat → Int) → Bool) (q : (Nat → Int) → Int) (P : Nat → Int × Int) (R : Value) (w : World)
    (hC : ∀ W, Below w.heap.size w W → Calls Tryd.prog 40 #[.agg #[.slice ao al acap, .slice co cl ccap], .slice tq tl tcap, .int .i64 n] W fun e w' => e = .returned .nilIface ∧ Below W.heap.size W w')
    (hH : ∀ (M : Nat → Int) W, M ∈ everyC n → Below w.heap.size w W → Calls Tryd.prog 42 #[.agg #[.slice ao al acap, .slice co cl ccap], .agg #[.int .i64 (M 0), .int .i64 (M 1), .int .i64 (M 2), .int .i64 (M 3), .int .i64 (M 4), .int .i64 (M 5), .int .i64 (M 6), .int .i64 (M 7)]] W fun e w' => e = .returned (.tuple #[.bool (p M), .nilIface]) ∧ Below W.heap.size W w')
    (hQ : ∀ (M : Nat → Int) W, M ∈ everyC n → Below w.heap.size w W → Calls Tryd.prog 43 #[.slice tq tl tcap, .agg #[.int .i64 (M 0), .int .i64 (M 1), .int .i64 (M 2), .int .i64 (M 3), .int .i64 (M 4), .int .i64 (M 5), .int .i64 (M 6), .int .i64 (M 7)]] W fun e w' => e = .returned (.tuple #[.int .i64 (q M), .nilIface]) ∧ Below W.heap.size W w')
    (h0 : P 0 = ((n : Int) + 1, -1)) (h1 : ∀ (k : Nat) (M : Nat → Int), (everyC n)[k]? = some M → P (k + 1) = if p M = true then (if q M < (P k).1 then q M else (P k).1, if (P k).2 < q M then q M else (P k).2) else P k)
    (hR : R = if (P (everyC n).length).2 < (P (everyC n).length).1 then .tuple #[.agg #[.int .i64 0, .int .i64 0], .iface 64 (.int .i64 5)] else .tuple #[.agg (arrP (P (everyC n).length)), .nilIface]) :
    Calls Tryd.prog 18 #[.agg #[.slice ao al acap, .slice co cl ccap], .slice tq tl tcap, .int .i64 n] w fun e w' => e = .returned R ∧ Below w.heap.size w w' := by
  obtain ⟨A, hA⟩ : ∃ A, A = everyC n := ⟨_, rfl⟩
  have HC : Hid (∀ W, Below w.heap.size w W → Calls Tryd.prog 40 #[.agg #[.slice ao al acap, .slice co cl ccap], .slice tq tl tcap, .int .i64 n] W fun e w' => e = .returned .nilIface ∧ Below W.heap.size W w') := hC
  have HF : Hid (∀ (k : Nat) (M : Nat → Int) W, A[k]? = some M → Below w.heap.size w W → Calls Tryd.prog 42 #[.agg #[.slice ao al acap, .slice co cl ccap], .agg #[.int .i64 (M 0), .int .i64 (M 1), .int .i64 (M 2), .int .i64 (M 3), .int .i64 (M 4), .int .i64 (M 5), .int .i64 (M 6), .int .i64 (M 7)]] W fun e w' => e = .returned (.tuple #[.bool (p M), .nilIface]) ∧ Below W.heap.size W w') := fun k M W hM hW => hH M W (by rw [hA] at hM; exact List.mem_of_getElem? hM) hW
  have HQ : Hid (∀ (k : Nat) (M : Nat → Int) W, A[k]? = some M → Below w.heap.size w W → Calls Tryd.prog 43 #[.slice tq tl tcap, .agg #[.int .i64 (M 0), .int .i64 (M 1), .int .i64 (M 2), .int .i64 (M 3), .int .i64 (M 4), .int .i64 (M 5), .int .i64 (M 6), .int .i64 (M 7)]] W fun e w' => e = .returned (.tuple #[.int .i64 (q M), .nilIface]) ∧ Below W.heap.size W w') := fun k M W hM hW => hQ M W (by rw [hA] at hM; exact List.mem_of_getElem? hM) hW
  have HS : Hid (∀ Bu W, W.cell? ⟨Bu, 0, none⟩ = some (.int .i64 n) → SeqG 2 Tryd.prog 68 #[.pointer (some ⟨Bu, 0, none⟩)] enc8 A W) := fun Bu W hB => by rw [hA]; exact iter_any n hn 2 (by omega) Bu W hB
  have HP0 : Hid (P 0 = ((n : Int) + 1, -1)) := h0
  rw [← hA] at h1 hR
  have HP1 : Hid (∀ (k : Nat) (M : Nat → Int), A[k]? = some M → P (k + 1) = if p M = true then (if q M < (P k).1 then q M else (P k).1, if (P k).2 < q M then q M else (P k).2) else P k) := h1
  have HR : Hid (R = if (P A.length).2 < (P A.length).1 then .tuple #[.agg #[.int .i64 0, .int .i64 0], .iface 64 (.int .i64 5)] else .tuple #[.agg (arrP (P A.length)), .nilIface]) := hR
  clear hA hC hH hQ h0 h1 hR
  obtain ⟨hs1, b0, b1, b2, b3, hB1⟩ := four_new w (.cells #[.slice ao al acap, .slice co cl ccap] 42) (.cells #[.slice tq tl tcap] 30) (.cells #[.int .i64 0, .int .i64 0] 48) (.cells #[.nilIface] 26)
  obtain ⟨w1, hw1⟩ : ∃ x, x = (((w.alloc (.cells #[.slice ao al acap, .slice co cl ccap] 42)).alloc (.cells #[.slice tq tl tcap] 30)).alloc (.cells #[.int .i64 0, .int .i64 0] 48)).alloc (.cells #[.nilIface] 26) := ⟨_, rfl⟩
  rw [← hw1] at hs1 b0 b1 b2 b3 hB1
  have HB1 : Hid (Below w.heap.size w w1) := hB1
  have Hs1 : Hid (w1.heap.size = w.heap.size + 4) := hs1
  have I0 : Hid (Blk w1 w.heap.size 42 #[.slice ao al acap, .slice co cl ccap]) := b0
  have I1 : Hid (Blk w1 (w.heap.size + 1) 30 #[.slice tq tl tcap]) := b1
  have I2 : Hid (Blk w1 (w.heap.size + 1 + 1) 48 (arrP (0, 0))) := b2
  have I3 : Hid (Blk w1 (w.heap.size + 1 + 1 + 1) 26 #[.nilIface]) := b3
  clear hs1 b0 b1 b2 b3 hB1
  refine (callsIn_wide (n := 3)).1 ?_
  refine callsIn_of_wp_marks Tryd.func18 rfl trivial ?_ rfl
  simp only [Tryd.ntmps18, List.size_toArray, List.length_cons, List.length_nil, Nat.reduceAdd, Nat.reduceSub, Array.replicate_succ, Array.replicate_zero, List.push_toArray, List.append_toArray, List.nil_append, List.cons_append]
  gi_upto_region 1 with fail
  rw [← hw1]
  clear hw1
  have i0 : w1.cell? ⟨w.heap.size, 0, none⟩ = some (.slice ao al acap) := I0.out.cell 0
  have i1 : w1.cell? ⟨w.heap.size, 1, none⟩ = some (.slice co cl ccap) := I0.out.cell 1
  have i2 : w1.cell? ⟨w.heap.size + 1, 0, none⟩ = some (.slice tq tl tcap) := I1.out.cell 0
  gi_wp2_with fail
  refine ⟨trivial, ?_⟩
  gi_at_call 40
  refine (callsIn_wide.2 (HC.out _ HB1.out)).mono ?_
  rintro e w2 ⟨rfl, hb2⟩
  have HB2 : Hid (Below w.heap.size w w2) := HB1.out.trans (hb2.mono HB1.out.size)
  have J0 : Hid (Blk w2 w.heap.size 42 #[.slice ao al acap, .slice co cl ccap]) := I0.out.below hb2
  have J1 : Hid (Blk w2 (w.heap.size + 1) 30 #[.slice tq tl tcap]) := I1.out.below hb2
  have J2 : Hid (Blk w2 (w.heap.size + 1 + 1) 48 (arrP (0, 0))) := I2.out.below hb2
  have J3 : Hid (Blk w2 (w.heap.size + 1 + 1 + 1) 26 #[.nilIface]) := I3.out.below hb2
  obtain ⟨G, hG⟩ : ∃ G, G = w2.heap.size := ⟨_, rfl⟩
  have HG : Hid (w.heap.size + 4 ≤ G) := by unfold Hid; rw [hG, ← Hs1.out]; exact hb2.size
  clear hb2 i0 i1 i2
  gi_wp2_with fail
  refine ⟨trivial, ?_⟩
  gi_at_call 41
  refine (callsIn_wide.2 (fitAll_any _ _)).mono ?_
  rintro e w4 ⟨rfl, rfl⟩
  gi_wp2_with fail
  obtain ⟨wl, hwl⟩ : ∃ x, x = (w2.alloc (.cells #[.int .i64 ((n : Int) + 1), .int .i64 (-1)] 48)).alloc (.cells #[.int .i64 n] 3) := ⟨_, rfl⟩
  have HB0 : Hid (Below w.heap.size w wl) := by unfold Hid; rw [hwl]; exact (HB2.out.alloc HB2.out.size _).alloc (by rw [World.size_alloc]; exact Nat.le_succ_of_le HB2.out.size) _
  have Hsz : Hid (wl.heap.size = G + 2) := by unfold Hid; rw [hwl, hG, World.size_alloc, World.size_alloc]
  have H0 : Hid (Blk wl w.heap.size 42 #[.slice ao al acap, .slice co cl ccap]) := by unfold Hid; rw [hwl]; exact (J0.out.old _).old _
  have H1 : Hid (Blk wl (w.heap.size + 1) 30 #[.slice tq tl tcap]) := by unfold Hid; rw [hwl]; exact (J1.out.old _).old _
  have H2 : Hid (Blk wl (w.heap.size + 1 + 1) 48 (arrP (0, 0))) := by unfold Hid; rw [hwl]; exact (J2.out.old _).old _
  have H3 : Hid (Blk wl (w.heap.size + 1 + 1 + 1) 26 #[.nilIface]) := by unfold Hid; rw [hwl]; exact (J3.out.old _).old _
  have H4 : Hid (Blk wl G 48 (arrP (P 0))) := by unfold Hid; rw [HP0.out, hwl, hG]; exact (Blk.new _ _ _).old _
  have H5 : Hid (Blk wl (G + 1) 3 #[.int .i64 n]) := by
    unfold Hid; rw [hwl, hG]
    have := Blk.new (w2.alloc (.cells #[.int .i64 ((n : Int) + 1), .int .i64 (-1)] 48)) 3 #[.int .i64 n]
    rw [World.size_alloc] at this
    exact this
  rw [← hwl, ← hG]
  clear hwl hG
  refine wpIn_range_own (by omega) (gf := 68) (lb := #[.pointer (some ⟨G + 1, 0, none⟩)]) rfl (enters_of Tryd.func68 (by kernel_rfl) rfl) (encs := enc8) (A := A)
    (fun W hW => HS.out _ W ((hW.cell (by rw [Hsz.out]; simp)).trans (H5.out.cell 0))) (fun _ => rfl)
    (fun k W => Below w.heap.size w W ∧ Blk W w.heap.size 42 #[.slice ao al acap, .slice co cl ccap] ∧ Blk W (w.heap.size + 1) 30 #[.slice tq tl tcap] ∧ Blk W (w.heap.size + 1 + 1) 48 (arrP (0, 0)) ∧ Blk W (w.heap.size + 1 + 1 + 1) 26 #[.nilIface] ∧ Blk W G 48 (arrP (P k)))
    (fun _ _ => False)
    (fun k X Y h hb => ⟨h.1.trans (hb.mono (by have := HG.out; rw [Hsz.out]; omega)), h.2.1.keep hb (by have := HG.out; rw [Hsz.out]; omega), h.2.2.1.keep hb (by have := HG.out; rw [Hsz.out]; omega), h.2.2.2.1.keep hb (by have := HG.out; rw [Hsz.out]; omega), h.2.2.2.2.1.keep hb (by have := HG.out; rw [Hsz.out]; omega), h.2.2.2.2.2.keep hb (by rw [Hsz.out]; omega)⟩)
    (fun _ _ _ h _ => h) ⟨HB0.out, H0.out, H1.out, H2.out, H3.out, H4.out⟩ ?round ?done ?stop
  case round =>
    intro ln k x W hx hl1 hl2 ⟨hB, c0, c1, c2, c3, c4⟩
    have HX : Hid (A[k]? = some x) := hx
    have Hl1 : Hid (G + 2 ≤ ln) := by unfold Hid; rw [← Hsz.out]; exact hl1
    have Hl2 : Hid (ln < W.heap.size) := hl2
    have HBk : Hid (Below w.heap.size w W) := hB
    have C0 : Hid (Blk W w.heap.size 42 #[.slice ao al acap, .slice co cl ccap]) := c0
    have C1 : Hid (Blk W (w.heap.size + 1) 30 #[.slice tq tl tcap]) := c1
    have C2 : Hid (Blk W (w.heap.size + 1 + 1) 48 (arrP (0, 0))) := c2
    have C3 : Hid (Blk W (w.heap.size + 1 + 1 + 1) 26 #[.nilIface]) := c3
    have C4 : Hid (Blk W G 48 (arrP (P k))) := c4
    clear hx hl1 hl2 hB c0 c1 c2 c3 c4
    unfold enc8
    gi_wp2
    refine ⟨(Over.refl _ _).alloc _, fun o => ?_⟩
    obtain ⟨W2, hW2⟩ : ∃ X, X = (W.alloc (.cells #[.int .i64 (x 0), .int .i64 (x 1), .int .i64 (x 2), .int .i64 (x 3), .int .i64 (x 4), .int .i64 (x 5), .int .i64 (x 6), .int .i64 (x 7)] 81)).putObj ln o := ⟨_, rfl⟩
    obtain ⟨Gx, hGx⟩ : ∃ G, G = W.heap.size := ⟨_, rfl⟩
    have HB2 : Hid (Below w.heap.size w W2) := by unfold Hid; rw [hW2]; exact (HBk.out.alloc HBk.out.size _).trans (below_putObj _ _ (by have := Hl1.out; have := HG.out; omega))
    have D0 : Hid (Blk W2 w.heap.size 42 #[.slice ao al acap, .slice co cl ccap]) := by unfold Hid; rw [hW2]; exact (C0.out.old _).putO _ (by have := Hl1.out; have := HG.out; omega)
    have D1 : Hid (Blk W2 (w.heap.size + 1) 30 #[.slice tq tl tcap]) := by unfold Hid; rw [hW2]; exact (C1.out.old _).putO _ (by have := Hl1.out; have := HG.out; omega)
    have D2 : Hid (Blk W2 (w.heap.size + 1 + 1) 48 (arrP (0, 0))) := by unfold Hid; rw [hW2]; exact (C2.out.old _).putO _ (by have := Hl1.out; have := HG.out; omega)
    have D3 : Hid (Blk W2 (w.heap.size + 1 + 1 + 1) 26 #[.nilIface]) := by unfold Hid; rw [hW2]; exact (C3.out.old _).putO _ (by have := Hl1.out; have := HG.out; omega)
    have D4 : Hid (Blk W2 G 48 (arrP (P k))) := by unfold Hid; rw [hW2]; exact (C4.out.old _).putO _ (by have := Hl1.out; omega)
    have D8 : Hid (Blk W2 Gx 81 (arr8 x)) := by unfold Hid; rw [hW2, hGx]; exact (Blk.new _ _ _).putO _ (by have := Hl2.out; omega)
    rw [← hW2, ← hGx]
    clear hW2 hGx
    have HFk : Hid (Calls Tryd.prog 42 #[.agg #[.slice ao al acap, .slice co cl ccap], .agg #[.int .i64 (x 0), .int .i64 (x 1), .int .i64 (x 2), .int .i64 (x 3), .int .i64 (x 4), .int .i64 (x 5), .int .i64 (x 6), .int .i64 (x 7)]] W2 fun e w' => e = .returned (.tuple #[.bool (p x), .nilIface]) ∧ Below W2.heap.size W2 w') := HF.out k x W2 HX.out HB2.out
    have HM : Hid (P (k + 1) = if p x = true then (if q x < (P k).1 then q x else (P k).1, if (P k).2 < q x then q x else (P k).2) else P k) := HP1.out k x HX.out
    have HQk : Hid (∀ W, Below w.heap.size w W → Calls Tryd.prog 43 #[.slice tq tl tcap, .agg #[.int .i64 (x 0), .int .i64 (x 1), .int .i64 (x 2), .int .i64 (x 3), .int .i64 (x 4), .int .i64 (x 5), .int .i64 (x 6), .int .i64 (x 7)]] W fun e w' => e = .returned (.tuple #[.int .i64 (q x), .nilIface]) ∧ Below W.heap.size W w') := fun W => HQ.out k x W HX.out
    obtain ⟨g, hg⟩ : ∃ g, g = p x := ⟨_, rfl⟩
    obtain ⟨m, hm⟩ : ∃ m, m = q x := ⟨_, rfl⟩
    obtain ⟨⟨lo, hi⟩, hp⟩ : ∃ r, r = P k := ⟨_, rfl⟩
    rw [← hg] at HFk HM
    rw [← hm] at HM HQk
    rw [← hp] at HM D4
    clear hg hm hp
    have e0 : W2.cell? ⟨w.heap.size, 0, none⟩ = some (.slice ao al acap) := D0.out.cell 0
    have e1 : W2.cell? ⟨w.heap.size, 1, none⟩ = some (.slice co cl ccap) := D0.out.cell 1
    obtain ⟨x0, x1, x2, x3, x4, x5, x6, x7⟩ := D8.out.cells8
    gi_wp2_with fail
    refine ⟨trivial, ?_⟩
    gi_at_call 42
    refine (CallsIn.inRound ln (callsIn_wide.2 HFk.out)).mono ?_
    rintro e W3 ⟨rfl, hb3⟩
    have HB3 : Hid (Below w.heap.size w W3) := HB2.out.trans (hb3.mono HB2.out.size)
    have E0 : Hid (Blk W3 w.heap.size 42 #[.slice ao al acap, .slice co cl ccap]) := D0.out.below hb3
    have E1 : Hid (Blk W3 (w.heap.size + 1) 30 #[.slice tq tl tcap]) := D1.out.below hb3
    have E2 : Hid (Blk W3 (w.heap.size + 1 + 1) 48 (arrP (0, 0))) := D2.out.below hb3
    have E3 : Hid (Blk W3 (w.heap.size + 1 + 1 + 1) 26 #[.nilIface]) := D3.out.below hb3
    have E4 : Hid (Blk W3 G 48 (arrP (lo, hi))) := D4.out.below hb3
    have E8 : Hid (Blk W3 Gx 81 (arr8 x)) := D8.out.below hb3
    have HO3 : Hid (Over wl.heap.size W2 W3) := Over.of_below hb3
    clear hb3 e0 e1 x0 x1 x2 x3 x4 x5 x6 x7
    cases g with
    | true =>
      have HM1 : Hid (P (k + 1) = (if m < lo then m else lo, if hi < m then m else hi)) := by unfold Hid; have h := HM.out; rw [if_pos rfl] at h; exact h
      clear HM
      have e3 : W3.cell? ⟨w.heap.size + 1, 0, none⟩ = some (.slice tq tl tcap) := E1.out.cell 0
      obtain ⟨x0, x1, x2, x3, x4, x5, x6, x7⟩ := E8.out.cells8
      gi_wp2_with fail
      refine ⟨trivial, ?_⟩
      gi_at_call 43
      refine (CallsIn.inRound ln (callsIn_wide.2 (HQk.out _ HB3.out))).mono ?_
      rintro e W4 ⟨rfl, hb4⟩
      have HB4 : Hid (Below w.heap.size w W4) := HB3.out.trans (hb4.mono HB3.out.size)
      have F0 : Hid (Blk W4 w.heap.size 42 #[.slice ao al acap, .slice co cl ccap]) := E0.out.below hb4
      have F1 : Hid (Blk W4 (w.heap.size + 1) 30 #[.slice tq tl tcap]) := E1.out.below hb4
      have F2 : Hid (Blk W4 (w.heap.size + 1 + 1) 48 (arrP (0, 0))) := E2.out.below hb4
      have F3 : Hid (Blk W4 (w.heap.size + 1 + 1 + 1) 26 #[.nilIface]) := E3.out.below hb4
      have F4 : Hid (Blk W4 G 48 (arrP (lo, hi))) := E4.out.below hb4
      have HO4 : Hid (Over wl.heap.size W2 W4) := HO3.out.trans (Over.of_below hb4)
      clear hb4 e3 x0 x1 x2 x3 x4 x5 x6 x7
      have s0 : W4.cell? ⟨G, 0, none⟩ = some (.int .i64 lo) := F4.out.cell 0
      have s1 : W4.cell? ⟨G, 1, none⟩ = some (.int .i64 hi) := F4.out.cell 1
      have z0 : W4.frozen? ⟨G, 0, none⟩ = false := F4.out.frozen 0
      have z1 : W4.frozen? ⟨G, 1, none⟩ = false := F4.out.frozen 1
      gi_wp2
      all_goals have hM := HM1.out
      all_goals have hg := HG.out
      all_goals refine ⟨(HO4.out.setCell (by rw [Hsz.out]; simp) _).setCell (by rw [Hsz.out]; simp) _, (HB4.out.setCell (by simp; omega) _).setCell (by simp; omega) _, (F0.out.far (by omega) _ _).far (by omega) _ _, (F1.out.far (by omega) _ _).far (by omega) _ _, (F2.out.far (by omega) _ _).far (by omega) _ _, (F3.out.far (by omega) _ _).far (by omega) _ _, ?_⟩
      all_goals show Blk _ _ _ (arrP (P (k + 1)))
      all_goals rw [hM]
      all_goals first
        | (rw [if_pos (c := m < lo) (by omega), if_pos (c := hi < m) (by omega)]; exact putP_blk F4.out (m, m))
        | (rw [if_pos (c := m < lo) (by omega), if_neg (c := hi < m) (by omega)]; exact putP_blk F4.out (m, hi))
        | (rw [if_neg (c := m < lo) (by omega), if_pos (c := hi < m) (by omega)]; exact putP_blk F4.out (lo, m))
        | (rw [if_neg (c := m < lo) (by omega), if_neg (c := hi < m) (by omega)]; exact putP_blk F4.out (lo, hi))
    | false =>
      have HM1 : Hid (P (k + 1) = (lo, hi)) := by unfold Hid; have h := HM.out; rw [if_neg (by decide)] at h; exact h
      clear HM
      gi_wp2
      have hM := HM1.out
      exact ⟨HO3.out, HB3.out, E0.out, E1.out, E2.out, E3.out, by rw [hM]; exact E4.out⟩
  case done =>
    intro D W hD ⟨hB, c0, c1, c2, c3, c4⟩ hK
    have HD : Hid (G + 2 ≤ D) := by unfold Hid; rw [← Hsz.out]; exact hD
    have HK : Hid (W.heap[D]? = some (.deferred (some []))) := hK
    have HBk : Hid (Below w.heap.size w W) := hB
    obtain ⟨⟨lo, hi⟩, hS⟩ : ∃ S, S = P A.length := ⟨_, rfl⟩
    rw [← hS] at c4 HR
    clear hS
    have C2 : Hid (Blk W (w.heap.size + 1 + 1) 48 (arrP (0, 0))) := c2
    have C3 : Hid (Blk W (w.heap.size + 1 + 1 + 1) 26 #[.nilIface]) := c3
    have C4 : Hid (Blk W G 48 (arrP (lo, hi))) := c4
    clear hD hB c0 c1 c2 c3 c4 hK
    have e1 : W.cell? ⟨w.heap.size + 1 + 1, 0, none⟩ = some (.int .i64 0) := C2.out.cell 0
    have e2 : W.cell? ⟨w.heap.size + 1 + 1, 1, none⟩ = some (.int .i64 0) := C2.out.cell 1
    have z1 : W.frozen? ⟨w.heap.size + 1 + 1, 0, none⟩ = false := C2.out.frozen 0
    have z2 : W.frozen? ⟨w.heap.size + 1 + 1, 1, none⟩ = false := C2.out.frozen 1
    have e3 : W.cell? ⟨w.heap.size + 1 + 1 + 1, 0, none⟩ = some .nilIface := C3.out.cell 0
    have z3 : W.frozen? ⟨w.heap.size + 1 + 1 + 1, 0, none⟩ = false := C3.out.frozen 0
    have e4 : W.cell? ⟨G, 0, none⟩ = some (.int .i64 lo) := C4.out.cell 0
    have e5 : W.cell? ⟨G, 1, none⟩ = some (.int .i64 hi) := C4.out.cell 1
    by_cases hlt : hi < lo
    · have HE : Hid (R = .tuple #[.agg #[.int .i64 0, .int .i64 0], .iface 64 (.int .i64 5)]) := by have h := HR.out; rw [if_pos (show (lo, hi).2 < (lo, hi).1 from hlt)] at h; exact h
      clear HR
      gi_wp2
      have hK' : (((W.setCell ⟨w.heap.size + 1 + 1, 0, none⟩ (.int .i64 0)).setCell ⟨w.heap.size + 1 + 1, 1, none⟩ (.int .i64 0)).setCell ⟨w.heap.size + 1 + 1 + 1, 0, none⟩ (.iface 64 (.int .i64 5))).heap[D]? = some (.deferred (some [])) := by
        have := HD.out
        have := HG.out
        rw [Below.heap_setCell _ _ _ _ (by simp; omega), Below.heap_setCell _ _ _ _ (by simp; omega), Below.heap_setCell _ _ _ _ (by simp; omega)]; exact HK.out
      have r1 : Blk (((W.setCell ⟨w.heap.size + 1 + 1, 0, none⟩ (.int .i64 0)).setCell ⟨w.heap.size + 1 + 1, 1, none⟩ (.int .i64 0)).setCell ⟨w.heap.size + 1 + 1 + 1, 0, none⟩ (.iface 64 (.int .i64 5))) (w.heap.size + 1 + 1) 48 (arrP (0, 0)) := (putP_blk C2.out (0, 0)).far (by omega) _ _
      have r2 : Blk (((W.setCell ⟨w.heap.size + 1 + 1, 0, none⟩ (.int .i64 0)).setCell ⟨w.heap.size + 1 + 1, 1, none⟩ (.int .i64 0)).setCell ⟨w.heap.size + 1 + 1 + 1, 0, none⟩ (.iface 64 (.int .i64 5))) (w.heap.size + 1 + 1 + 1) 26 #[.iface 64 (.int .i64 5)] := ((C3.out.far (by omega) _ _).far (by omega) _ _).set 0 _
      refine ⟨by simp, .inl ⟨_, _, rfl, run_takeDeferred hK', ?_⟩⟩
      have hd := HD.out
      have hg := HG.out
      have l1 := loadP (r1.putO (.deferred none) (l := D) (by omega))
      have l2 := loadE (r2.putO (.deferred none) (l := D) (by omega))
      refine ⟨.tuple #[.agg (arrP (0, 0)), .iface 64 (.int .i64 5)], ?_, by rw [HE.out]; rfl, ?_⟩
      · rw [results_two rfl]
        simp [asAddr, Result.andThen, l1, l2]
      · exact (((HBk.out.setCell (by simp; omega) _).setCell (by simp; omega) _).setCell (by simp; omega) _).trans (below_putObj _ _ (by omega))
    · have HE : Hid (R = .tuple #[.agg (arrP (lo, hi)), .nilIface]) := by have h := HR.out; rw [if_neg (show ¬ (lo, hi).2 < (lo, hi).1 from hlt)] at h; exact h
      clear HR
      gi_wp2
      have hK' : (((W.setCell ⟨w.heap.size + 1 + 1, 0, none⟩ (.int .i64 lo)).setCell ⟨w.heap.size + 1 + 1, 1, none⟩ (.int .i64 hi)).setCell ⟨w.heap.size + 1 + 1 + 1, 0, none⟩ .nilIface).heap[D]? = some (.deferred (some [])) := by
        have := HD.out
        have := HG.out
        rw [Below.heap_setCell _ _ _ _ (by simp; omega), Below.heap_setCell _ _ _ _ (by simp; omega), Below.heap_setCell _ _ _ _ (by simp; omega)]; exact HK.out
      have r1 : Blk (((W.setCell ⟨w.heap.size + 1 + 1, 0, none⟩ (.int .i64 lo)).setCell ⟨w.heap.size + 1 + 1, 1, none⟩ (.int .i64 hi)).setCell ⟨w.heap.size + 1 + 1 + 1, 0, none⟩ .nilIface) (w.heap.size + 1 + 1) 48 (arrP (lo, hi)) := (putP_blk C2.out (lo, hi)).far (by omega) _ _
      have r2 : Blk (((W.setCell ⟨w.heap.size + 1 + 1, 0, none⟩ (.int .i64 lo)).setCell ⟨w.heap.size + 1 + 1, 1, none⟩ (.int .i64 hi)).setCell ⟨w.heap.size + 1 + 1 + 1, 0, none⟩ .nilIface) (w.heap.size + 1 + 1 + 1) 26 #[.nilIface] := ((C3.out.far (by omega) _ _).far (by omega) _ _).set 0 _
      refine ⟨by simp, .inl ⟨_, _, rfl, run_takeDeferred hK', ?_⟩⟩
      have hd := HD.out
      have hg := HG.out
      have l1 := loadP (r1.putO (.deferred none) (l := D) (by omega))
      have l2 := loadE (r2.putO (.deferred none) (l := D) (by omega))
      refine ⟨.tuple #[.agg (arrP (lo, hi)), .nilIface], ?_, by rw [HE.out], ?_⟩
      · rw [results_two rfl]
        simp [asAddr, Result.andThen, l1, l2]
      · exact (((HBk.out.setCell (by simp; omega) _).setCell (by simp; omega) _).setCell (by simp; omega) _).trans (below_putObj _ _ (by omega))
  case stop => exact fun _ _ _ _ _ h => h.elim

set_option maxHeartbeats 4000000 in
theorem spof_wrong (ao : Option Addr) (al acap : Nat) (co : Option Addr) (cl ccap : Nat) (tq : Option Addr) (tl tcap : Nat) (u F : Int) (w : World)
    (hC : ∀ W, Below w.heap.size w W → Calls Tryd.prog 40 #[.agg #[.slice ao al acap, .slice co cl ccap], .slice tq tl tcap, .int .i64 u] W fun e w' => e = .returned (.iface 64 (.int .i64 F)) ∧ Below W.heap.size W w') :
    Calls Tryd.prog 18 #[.agg #[.slice ao al acap, .slice co cl ccap], .slice tq tl tcap, .int .i64 u] w fun e w' => e = .returned (.tuple #[.agg (arrP (0, 0)), .iface 64 (.int .i64 F)]) ∧ Below w.heap.size w w' := by
  have HC : Hid (∀ W, Below w.heap.size w W → Calls Tryd.prog 40 #[.agg #[.slice ao al acap, .slice co cl ccap], .slice tq tl tcap, .int .i64 u] W fun e w' => e = .returned (.iface 64 (.int .i64 F)) ∧ Below W.heap.size W w') := hC
  clear hC
  obtain ⟨hs1, b0, b1, b2, b3, hB1⟩ := four_new w (.cells #[.slice ao al acap, .slice co cl ccap] 42) (.cells #[.slice tq tl tcap] 30) (.cells #[.int .i64 0, .int .i64 0] 48) (.cells #[.nilIface] 26)
  obtain ⟨w1, hw1⟩ : ∃ x, x = (((w.alloc (.cells #[.slice ao al acap, .slice co cl ccap] 42)).alloc (.cells #[.slice tq tl tcap] 30)).alloc (.cells #[.int .i64 0, .int .i64 0] 48)).alloc (.cells #[.nilIface] 26) := ⟨_, rfl⟩
  rw [← hw1] at hs1 b0 b1 b2 b3 hB1
  have HB1 : Hid (Below w.heap.size w w1) := hB1
  have I0 : Hid (Blk w1 w.heap.size 42 #[.slice ao al acap, .slice co cl ccap]) := b0
  have I1 : Hid (Blk w1 (w.heap.size + 1) 30 #[.slice tq tl tcap]) := b1
  have I2 : Hid (Blk w1 (w.heap.size + 1 + 1) 48 (arrP (0, 0))) := b2
  have I3 : Hid (Blk w1 (w.heap.size + 1 + 1 + 1) 26 #[.nilIface]) := b3
  clear hs1 b0 b1 b2 b3 hB1
  go_enter Tryd.func18, Tryd.ntmps18
  go_upto_region 1 with fail
  rw [← hw1]
  clear hw1
  have i0 : w1.cell? ⟨w.heap.size, 0, none⟩ = some (.slice ao al acap) := I0.out.cell 0
  have i1 : w1.cell? ⟨w.heap.size, 1, none⟩ = some (.slice co cl ccap) := I0.out.cell 1
  have i2 : w1.cell? ⟨w.heap.size + 1, 0, none⟩ = some (.slice tq tl tcap) := I1.out.cell 0
  go_wp2_with fail
  go_at_call 40
  refine (HC.out _ HB1.out).mono ?_
  rintro e w2 ⟨rfl, hb2⟩
  have HB2 : Hid (Below w.heap.size w w2) := HB1.out.trans (hb2.mono HB1.out.size)
  have C2 : Hid (Blk w2 (w.heap.size + 1 + 1) 48 (arrP (0, 0))) := I2.out.below hb2
  have C3 : Hid (Blk w2 (w.heap.size + 1 + 1 + 1) 26 #[.nilIface]) := I3.out.below hb2
  clear hb2 i0 i1 i2
  have e1 : w2.cell? ⟨w.heap.size + 1 + 1, 0, none⟩ = some (.int .i64 0) := C2.out.cell 0
  have e2 : w2.cell? ⟨w.heap.size + 1 + 1, 1, none⟩ = some (.int .i64 0) := C2.out.cell 1
  have z1 : w2.frozen? ⟨w.heap.size + 1 + 1, 0, none⟩ = false := C2.out.frozen 0
  have z2 : w2.frozen? ⟨w.heap.size + 1 + 1, 1, none⟩ = false := C2.out.frozen 1
  have e3 : w2.cell? ⟨w.heap.size + 1 + 1 + 1, 0, none⟩ = some .nilIface := C3.out.cell 0
  have z3 : w2.frozen? ⟨w.heap.size + 1 + 1 + 1, 0, none⟩ = false := C3.out.frozen 0
  go_wp2
  have r1 : Blk (((w2.setCell ⟨w.heap.size + 1 + 1, 0, none⟩ (.int .i64 0)).setCell ⟨w.heap.size + 1 + 1, 1, none⟩ (.int .i64 0)).setCell ⟨w.heap.size + 1 + 1 + 1, 0, none⟩ (.iface 64 (.int .i64 F))) (w.heap.size + 1 + 1) 48 (arrP (0, 0)) := (putP_blk C2.out (0, 0)).far (by omega) _ _
  have r2 : Blk (((w2.setCell ⟨w.heap.size + 1 + 1, 0, none⟩ (.int .i64 0)).setCell ⟨w.heap.size + 1 + 1, 1, none⟩ (.int .i64 0)).setCell ⟨w.heap.size + 1 + 1 + 1, 0, none⟩ (.iface 64 (.int .i64 F))) (w.heap.size + 1 + 1 + 1) 26 #[.iface 64 (.int .i64 F)] := ((C3.out.far (by omega) _ _).far (by omega) _ _).set 0 _
  have l1 := loadP r1
  have l2 := loadE r2
  refine bodyPost_ret (v := .tuple #[.agg (arrP (0, 0)), .iface 64 (.int .i64 F)]) ?_ rfl ⟨rfl, ?_⟩
  · rw [results_two rfl]
    simp [asAddr, Result.andThen, l1, l2]
  · exact ((HB2.out.setCell (by simp; omega) _).setCell (by simp; omega) _).setCell (by simp; omega) _

/-- between how many, whatever the formula, the term and the number of things. -/
theorem spanOf_any (va vc vt : Value) (ats : List At) (c t : List Int) (u : Int) (w : World) (hA : ReadsA w va ats) (hC : Reads w vc c) (hT : Reads w vt t) (hK : KindsLaid w) :
    Calls Tryd.prog 18 #[.agg #[va, vc], vt, .int .i64 u] w fun e w' => e = .returned (.tuple #[.agg (arrP (spanLo ats c t u, spanHi ats c t u)), errV (spanFault ats c t u)]) ∧ Below w.heap.size w w' := by
  have hCk := fun W (hW : Below w.heap.size w W) => spcheck_any va vc vt ats c t u W (hA.below hW) (hC.below hW) (hT.below hW) (hK.below hW)
  have hH := fun (N : Nat → Int) W (hW : Below w.heap.size w W) => wholds_any va vc ats c N W (hA.below hW) (hC.below hW) (hK.below hW)
  have hQ := fun (N : Nat → Int) W (hW : Below w.heap.size w W) => count_any t vt N W (hT.below hW)
  obtain ⟨ao, acap, rfl, _⟩ := hA.slice
  obtain ⟨co, ccap, rfl, _⟩ := hC.slice
  obtain ⟨tq, tcap, rfl, _⟩ := hT.slice
  by_cases h0 : spCheckN ats c t u = 0
  · rw [h0] at hCk
    have hgood : formFault ats c = 0 ∧ faultN t = 0 ∧ (0 ≤ u ∧ u ≤ 6) := by
      unfold spCheckN at h0
      by_cases h1 : formFault ats c = 0
      · rw [if_pos h1] at h0
        by_cases h2 : faultN t = 0
        · rw [if_pos h2] at h0
          by_cases h3 : 0 ≤ u ∧ u ≤ 6
          · exact ⟨h1, h2, h3⟩
          · rw [if_neg h3] at h0; exact absurd h0 (by decide)
        · rw [if_neg h2] at h0; exact absurd h0 h2
      · rw [if_neg h1] at h0; exact absurd h0 h1
    obtain ⟨h1, h2, h3⟩ := hgood
    obtain ⟨n, rfl⟩ := Int.eq_ofNat_of_zero_le h3.1
    have hn : n ≤ 6 := by omega
    refine spof_right ao _ acap co _ ccap tq _ tcap n hn (fun N => (madeN N 8).formIs ats c) (fun N => sumIn (liesB t) N 8) (fun k => spanFrom ats c t n ((worldsL n).take k)) _ w hCk (fun M W hM hW => hH M W hW h1 (everyC_right hn hM)) (fun M W hM hW => ?_) rfl (fun k M hM => ?_) ?_
    · have h := hQ M W hW
      have e0 : countFault t M = 0 := by unfold countFault; rw [if_pos h2]; exact everyC_right hn hM
      have e1 : countN t M = sumIn (liesB t) M 8 := by unfold countN; rw [if_pos e0]
      rw [e0, e1] at h
      exact h
    · have hk : (worldsL n)[k]? = some (madeN M 8) := by unfold worldsL; rw [List.getElem?_map, hM]; rfl
      show spanFrom ats c t n ((worldsL n).take (k + 1)) = _
      rw [List.take_add_one, hk]
      show spanFrom ats c t n ((worldsL n).take k ++ [madeN M 8]) = _
      rw [spanFrom_add]
      unfold spanStep
      rw [made_size h2 (everyC_right hn (List.mem_of_getElem? hM))]
    · have el : (worldsL n).take (everyC n).length = worldsL n := by rw [← worldsL_length, List.take_length]
      show _ = if (spanFrom ats c t n ((worldsL n).take (everyC n).length)).2 < (spanFrom ats c t n ((worldsL n).take (everyC n).length)).1 then _ else Value.tuple #[.agg (arrP (spanFrom ats c t n ((worldsL n).take (everyC n).length))), .nilIface]
      rw [el]
      rcases span_from (ats := ats) (c := c) (t := t) (u := (n : Int)) (worldsL n) (made_few h2 hn) with ⟨g1, g2⟩ | ⟨g1, g2, g3, g4⟩
      · rw [g1, if_pos (by show (-1 : Int) < (n : Int) + 1; omega)]
        have e0 : spanFault ats c t (n : Int) = 5 := by
          unfold spanFault; rw [if_pos h1, if_pos h2, if_pos h3, if_pos]
          rw [Int.toNat_natCast]; unfold spanP; rw [g2]; decide
        have e1 : spanLo ats c t (n : Int) = 0 := by unfold spanLo; rw [if_neg (by rw [e0]; decide)]
        have e2 : spanHi ats c t (n : Int) = 0 := by unfold spanHi; rw [if_neg (by rw [e0]; decide)]
        rw [e0, e1, e2]; rfl
      · rw [g1, if_neg (by omega)]
        have e0 : spanFault ats c t (n : Int) = 0 := by
          unfold spanFault; rw [if_pos h1, if_pos h2, if_pos h3, if_neg]
          rw [Int.toNat_natCast]; unfold spanP; omega
        have e1 : spanLo ats c t (n : Int) = (spanOver ats c t (worldsL n)).1 := by unfold spanLo; rw [if_pos e0, Int.toNat_natCast]; rfl
        have e2 : spanHi ats c t (n : Int) = (spanOver ats c t (worldsL n)).2 := by unfold spanHi; rw [if_pos e0, Int.toNat_natCast]; rfl
        rw [e0, e1, e2]; rfl
  · rw [errV_no h0] at hCk
    have e0 : spanFault ats c t u = spCheckN ats c t u := by
      unfold spCheckN at h0 ⊢
      unfold spanFault
      by_cases h1 : formFault ats c = 0
      · rw [if_pos h1] at h0 ⊢
        rw [if_pos h1]
        by_cases h2 : faultN t = 0
        · rw [if_pos h2] at h0 ⊢
          rw [if_pos h2]
          by_cases h3 : 0 ≤ u ∧ u ≤ 6
          · rw [if_pos h3] at h0; exact absurd rfl h0
          · rw [if_neg h3, if_neg h3]
        · rw [if_neg h2, if_neg h2]
      · rw [if_neg h1, if_neg h1]
    have e1 : spanLo ats c t u = 0 := by unfold spanLo; rw [if_neg (by rw [e0]; exact h0)]
    have e2 : spanHi ats c t u = 0 := by unfold spanHi; rw [if_neg (by rw [e0]; exact h0)]
    rw [e0, e1, e2, errV_no h0]
    exact spof_wrong ao _ acap co _ ccap tq _ tcap u _ w hCk

theorem spex_in (ao : Option Addr) (al acap : Nat) (co : Option Addr) (cl ccap : Nat) (vt : Value) (u lo hi E k m : Int) (w : World)
    (HO : Hid (∀ W, Below w.heap.size w W → Calls Tryd.prog 18 #[.agg #[.slice ao al acap, .slice co cl ccap], vt, .int .i64 u] W fun e w' => e = .returned (.tuple #[.agg #[.int .i64 lo, .int .i64 hi], errV E]) ∧ Below W.heap.size W w'))
    (HE : Hid (m = if E = 0 then (if lo = hi then 0 else 8) else E)) (HK : Hid (k = if m = 0 then lo else 0)) :
    Calls Tryd.prog 19 #[.agg #[.slice ao al acap, .slice co cl ccap], vt, .int .i64 u] w fun e w' => e = .returned (.tuple #[.int .i64 k, errV m]) ∧ Below w.heap.size w w' := by
  by_cases h0 : E = 0
  · subst h0
    have HO' : Hid (∀ W, Below w.heap.size w W → Calls Tryd.prog 18 #[.agg #[.slice ao al acap, .slice co cl ccap], vt, .int .i64 u] W fun e w' => e = .returned (.tuple #[.agg #[.int .i64 lo, .int .i64 hi], .nilIface]) ∧ Below W.heap.size W w') := HO.out
    clear HO
    by_cases hq : lo = hi
    · subst hq
      obtain rfl : m = 0 := by have := HE.out; rwa [if_pos rfl, if_pos rfl] at this
      obtain rfl : k = lo := by have := HK.out; rwa [if_pos rfl] at this
      clear HE HK
      show Calls _ _ _ _ fun e w' => e = .returned (.tuple #[.int .i64 k, .nilIface]) ∧ _
      go_enter Tryd.func19, Tryd.ntmps19
      go_wp2_with fail
      go_at_call 18
      refine (HO'.out _ (below_alloc1 _ _)).mono ?_
      rintro e w2 ⟨rfl, hb⟩
      have HB : Hid (Below w.heap.size w w2) := (below_alloc1 w _).trans (hb.mono (by simp))
      clear hb
      go_wp2
      go_ret2
      exact ⟨rfl, HB.out.alloc HB.out.size _⟩
    · obtain rfl : m = 8 := by have := HE.out; rwa [if_pos rfl, if_neg hq] at this
      obtain rfl : k = 0 := by have := HK.out; rwa [if_neg (by decide)] at this
      clear HE HK
      show Calls _ _ _ _ fun e w' => e = .returned (.tuple #[.int .i64 0, .iface 64 (.int .i64 8)]) ∧ _
      go_enter Tryd.func19, Tryd.ntmps19
      go_wp2_with fail
      go_at_call 18
      refine (HO'.out _ (below_alloc1 _ _)).mono ?_
      rintro e w2 ⟨rfl, hb⟩
      have HB : Hid (Below w.heap.size w w2) := (below_alloc1 w _).trans (hb.mono (by simp))
      clear hb
      go_wp2
      go_ret2
      exact ⟨rfl, HB.out.alloc HB.out.size _⟩
  · obtain rfl : m = E := by have := HE.out; rwa [if_neg h0] at this
    obtain rfl : k = 0 := by have := HK.out; rwa [if_neg h0] at this
    clear HE HK
    rw [errV_no h0] at HO ⊢
    clear h0
    go_enter Tryd.func19, Tryd.ntmps19
    go_wp2_with fail
    go_at_call 18
    refine (HO.out _ (below_alloc1 _ _)).mono ?_
    rintro e w2 ⟨rfl, hb⟩
    have HB : Hid (Below w.heap.size w w2) := (below_alloc1 w _).trans (hb.mono (by simp))
    clear hb
    go_wp2
    go_ret2
    exact ⟨rfl, HB.out.alloc HB.out.size _⟩
/-- how many it has in all of them. -/
theorem exact_any (va vc vt : Value) (ats : List At) (c t : List Int) (u : Int) (w : World) (hA : ReadsA w va ats) (hC : Reads w vc c) (hT : Reads w vt t) (hK : KindsLaid w) :
    Calls Tryd.prog 19 #[.agg #[va, vc], vt, .int .i64 u] w fun e w' => e = .returned (.tuple #[.int .i64 (exactN ats c t u), errV (exactFault ats c t u)]) ∧ Below w.heap.size w w' := by
  have hO := fun W (hW : Below w.heap.size w W) => spanOf_any va vc vt ats c t u W (hA.below hW) (hC.below hW) (hT.below hW) (hK.below hW)
  obtain ⟨ao, acap, rfl, _⟩ := hA.slice
  obtain ⟨co, ccap, rfl, _⟩ := hC.slice
  exact spex_in ao _ acap co _ ccap vt u _ _ (spanFault ats c t u) _ _ w hO rfl rfl
end Go.Proofs.YtgkgbpbohgklhagDoor

namespace Go.Proofs.YtgkgbpbohgklhagDoor
open Go.ChangeShapes Go.WideShapes Go.ChangeAt Go.RowKit Go.Deep
set_option maxRecDepth 100000

theorem kdG : Tryd.prog.globalNamed "vennhouse/atom.kinds" = some 0 := by kernel_rfl
theorem kdT : (Tryd.prog.globals[0]?).map (·.type) = some 99 := by kernel_rfl
theorem kdC : Tryd.prog.cellsOf 98 = 3 := by kernel_rfl
theorem kdA : Tryd.prog.cellsOf 99 = 18 := by kernel_rfl
theorem kdS : Tryd.prog.cellsOf 9 = 1 := by kernel_rfl
theorem kdB : Tryd.prog.cellsOf 4 = 1 := by kernel_rfl

theorem kind_of_trod {w : World} {cs : List Value} {fuel : Nat} {text : List UInt8} {b1 b2 : Bool} {y : DataW Unit × List MemPlace} (hy : y.1 = .agg [.lit (.string text), .lit (.bool b1), .lit (.bool b2)])
    (h : DataW.trod (fun _ => ()) Tryd.prog w 0 (fun _ => true) false fuel 98 cs = some y) : cs = [.string ⟨text.toArray⟩, .bool b1, .bool b2] := by
  obtain ⟨y0, y1, y2, n, e, hl, t0, t1, t2⟩ := trod_struct3 Tryd.underlying98 h
  rw [kdC] at hl
  obtain ⟨c0, c1, c2, rfl⟩ : ∃ c0 c1 c2, cs = [c0, c1, c2] := by
    match cs, hl with
    | [a, b, c], _ => exact ⟨a, b, c, rfl⟩
  · simp only [kdS, kdB] at t0 t1 t2
    obtain ⟨s, e0, f0, _⟩ := DataW.trod_string Tryd.underlying9 t0
    obtain ⟨x1, e1, f1⟩ := DataW.trod_bool Tryd.underlying4 t1
    obtain ⟨x2, e2, f2⟩ := DataW.trod_bool Tryd.underlying4 t2
    simp at e0 e1 e2
    subst e0 e1 e2
    subst f0 f1 f2
    subst e
    simp at hy
    obtain ⟨rfl, rfl, rfl⟩ := hy
    rfl

theorem kinds_of_head {r : List (String × DataW Unit)} {W : World} (h : laidMet Tryd.prog (("vennhouse/atom.kinds", Rows.laid_vennhouse_atom_kinds) :: r) W) : KindsLaid W := by
  obtain ⟨ps, ⟨g0, t0, cs0, f0, p0, q0, hg0, ht0, hv0, hd0, _, e0⟩, _, hrows⟩ := h
  obtain rfl := Option.some.inj (kdG.symm.trans hg0)
  obtain rfl := Option.some.inj (kdT.symm.trans ht0)
  obtain ⟨xs, m, _, hx, hlen, hxl, hi⟩ := DataW.trod_array Tryd.underlying99 hd0
  simp only [kdC] at hi
  rw [kdA] at hlen
  have hx1 : Rows.laid_vennhouse_atom_kinds = .agg (xs.map (·.1)) := congrArg Prod.fst hx
  obtain ⟨a0, a1, a2, a3, a4, a5, rfl⟩ : ∃ a0 a1 a2 a3 a4 a5, xs = [a0, a1, a2, a3, a4, a5] := by
    match xs, hxl with
    | [a, b, c, d, e, f], _ => exact ⟨a, b, c, d, e, f, rfl⟩
  · unfold Rows.laid_vennhouse_atom_kinds at hx1
    simp only [List.map, DataW.agg.injEq, List.cons.injEq, and_true] at hx1
    obtain ⟨g0, g1, g2, g3, g4, g5⟩ := hx1
    have k0 := kind_of_trod g0.symm (hi 0 (by decide))
    have k1 := kind_of_trod g1.symm (hi 1 (by decide))
    have k2 := kind_of_trod g2.symm (hi 2 (by decide))
    have k3 := kind_of_trod g3.symm (hi 3 (by decide))
    have k4 := kind_of_trod g4.symm (hi 4 (by decide))
    have k5 := kind_of_trod g5.symm (hi 5 (by decide))
    have hl : cs0.toList = kindCells := by
      have e : cs0.toList = (cs0.toList.drop (0 * 3)).take 3 ++ ((cs0.toList.drop (1 * 3)).take 3 ++ ((cs0.toList.drop (2 * 3)).take 3 ++ ((cs0.toList.drop (3 * 3)).take 3 ++ ((cs0.toList.drop (4 * 3)).take 3 ++ ((cs0.toList.drop (5 * 3)).take 3))))) := by
        match cs0.toList, hlen with
        | [_, _, _, _, _, _, _, _, _, _, _, _, _, _, _, _, _, _], _ => rfl
      rw [e, k0, k1, k2, k3, k4, k5]
      rfl
    intro j hj
    have hc := World.var?_cell kdG hv0 j
    rw [hc]
    have : cs0[j]? = cs0.toList[j]? := by simp
    rw [this, hl]
    have hj' : j < kindCells.length := hj
    simp [List.getElem?_eq_getElem hj']
end Go.Proofs.YtgkgbpbohgklhagDoor

namespace Go.Proofs.YtgkgbpbohgklhagDoor
open Go.ChangeShapes Go.WideShapes Go.ChangeAt Go.RowKit

theorem ownK : ownKnob Tryd.prog.godebug = none := by kernel_rfl
theorem etG : Tryd.prog.globalNamed "errors.errorType" = some 1 := by kernel_rfl
theorem rtT : (Tryd.prog.cutTypes.find? (·.1 == "internal/reflectlite.rtype")).map (·.2) = some 136 := by kernel_rfl
theorem oneRow : ((List.range 183).filter fun t => Tryd.prog.rowNamed t [101, 114, 114, 111, 114]) = [26] := by kernel_rfl
theorem sizeT : Tryd.prog.types.size = 183 := by kernel_rfl
theorem handleE : typeHandle Tryd.prog 26 = .pointer (some ⟨2, 26, none⟩) := by kernel_rfl

def laidE : List (String × DataW Unit) := [("errors.errorType", Rows.laid_errors_errorType)]

/-- what the condition gives a walk: the variable's one cell. -/
theorem laid_of_met {W : World} (h : laidMetH Tryd.prog laidE W) : Laid W := by
  have h' : laidMet Tryd.prog [] W ∧ handlesMet Tryd.prog laidE W := h
  obtain ⟨name, u, ty, e1, e2, e3, e4, e5⟩ := h'.2 _ (List.mem_singleton.2 rfl)
  have en : name = [101, 114, 114, 111, 114] := (Option.some.inj e1).symm
  subst en
  obtain rfl := Option.some.inj (rtT.symm.trans e2)
  have hm : ty ∈ (List.range 183).filter fun t => Tryd.prog.rowNamed t [101, 114, 114, 111, 114] := List.mem_filter.2 ⟨List.mem_range.2 (by rw [← sizeT]; exact e3), e4⟩
  rw [oneRow] at hm
  obtain rfl := List.mem_singleton.1 hm
  rw [handleE] at e5
  simpa [Laid] using World.var?_cell etG e5 0

/-- the heap that the door's own run leaves meets the condition. -/
theorem door_met (os : Os) (args : Array Value) : laidMetH Tryd.prog laidE ((World.doorLaid Tryd.prog 400 os).forCall (fun _ _ => 0) ⟨#[], args, []⟩).memory :=
  laidMetH_of_parts3 (fuel := 8) (laidMet_of_run' 8 (by kernel_rfl) (by kernel_rfl)) (by kernel_rfl) (by kernel_rfl)
end Go.Proofs.YtgkgbpbohgklhagDoor

namespace Go.Proofs.YtgkgbpbohgklhagDoor
open Go.ChangeShapes Go.WideShapes Go.ChangeAt Go.RowKit
set_option maxRecDepth 100000

def laidT : List (String × DataW Unit) := [("errors.errorType", Rows.laid_errors_errorType), ("vennhouse/atom.kinds", Rows.laid_vennhouse_atom_kinds)]
theorem form_of_met {W : World} (h : laidMetH Tryd.prog laidT W) : Laid W ∧ KindsLaid W := by
  have h' : laidMet Tryd.prog [("vennhouse/atom.kinds", Rows.laid_vennhouse_atom_kinds)] W ∧ handlesMet Tryd.prog laidE W := h
  refine ⟨?_, kinds_of_head h'.1⟩
  obtain ⟨name, u, ty, e1, e2, e3, e4, e5⟩ := h'.2 _ (List.mem_singleton.2 rfl)
  have en : name = [101, 114, 114, 111, 114] := (Option.some.inj e1).symm
  subst en
  obtain rfl := Option.some.inj (rtT.symm.trans e2)
  have hm : ty ∈ (List.range 183).filter fun t => Tryd.prog.rowNamed t [101, 114, 114, 111, 114] := List.mem_filter.2 ⟨List.mem_range.2 (by rw [← sizeT]; exact e3), e4⟩
  rw [oneRow] at hm
  obtain rfl := List.mem_singleton.1 hm
  rw [handleE] at e5
  simpa [Laid] using World.var?_cell etG e5 0
theorem doorT_met (os : Os) (args : Array Value) : laidMetH Tryd.prog laidT ((World.doorLaid Tryd.prog 400 os).forCall (fun _ _ => 0) ⟨#[], args, []⟩).memory :=
  laidMetH_of_parts3 (fuel := 8) (laidMet_of_run' 8 (by kernel_rfl) (by kernel_rfl)) (by kernel_rfl) (by kernel_rfl)
end Go.Proofs.YtgkgbpbohgklhagDoor
