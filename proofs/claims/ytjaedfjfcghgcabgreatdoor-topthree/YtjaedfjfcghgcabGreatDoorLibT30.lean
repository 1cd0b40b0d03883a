/-
  Proved: what worlds.Holds returns, of a right formula and right counts; what was in memory is as it was (a contract that the statements lean on).
  Proved: what worlds.Alike returns, of any world; what was in memory is as it was (contracts that the statements lean on).
  Proved: what worlds.Of returns, of any formula and any number of things; what was in memory is as it was (a contract that the statements lean on).
  Proved: what ask.check, ask.allHold and the answer of what was seen return; what was in memory is as it was (contracts that the statements of chapter 18 lean on).
-/
import Derived.Test.YtjaedfjfcghgcabGreatDoorLibT17
import Derived.Test.YtjaedfjfcghgcabGreatDoorLibT27
import Derived.Deep.Cut
import Derived.Test.YtjaedfjfcghgcabGreatDoorLibT29
import Derived.Test.YtjaedfjfcghgcabGreatDoorLibT24
import Derived.Test.YtjaedfjfcghgcabGreatDoorLibT16
import Derived.Test.YtjaedfjfcghgcabGreatDoorLibT9
import Derived.Test.YtjaedfjfcghgcabGreatDoorLibT26
namespace Go.Proofs.YtjaedfjfcghgcabGreatDoor
open Go.ChangeShapes Go.WideShapes Go.ChangeAt Go.RowKit
set_option maxRecDepth 100000

set_option maxHeartbeats 4000000 in
theorem wholds_in (ao : Option Addr) (al acap : Nat) (co : Option Addr) (cl ccap : Nat) (N : Nat → Int) (D : Wd) (q : Bool) (w : World)
    (hW : ∀ W, Calls Tryz.prog 72 #[.agg #[.int .i64 (N 0), .int .i64 (N 1), .int .i64 (N 2), .int .i64 (N 3), .int .i64 (N 4), .int .i64 (N 5), .int .i64 (N 6), .int .i64 (N 7)]] W fun e w' => e = .returned (.tuple #[.agg #[.int .i64 D.u, .int .i64 D.a, .int .i64 D.b, .int .i64 D.c], .nilIface]) ∧ Below W.heap.size W w')
    (hH : ∀ W, Below w.heap.size w W → Calls Tryz.prog 76 #[.agg #[.slice ao al acap, .slice co cl ccap], .agg #[.int .i64 D.u, .int .i64 D.a, .int .i64 D.b, .int .i64 D.c]] W fun e w' => e = .returned (.tuple #[.bool q, .nilIface]) ∧ Below W.heap.size W w') :
    Calls Tryz.prog 29 #[.agg #[.slice ao al acap, .slice co cl ccap], .agg #[.int .i64 (N 0), .int .i64 (N 1), .int .i64 (N 2), .int .i64 (N 3), .int .i64 (N 4), .int .i64 (N 5), .int .i64 (N 6), .int .i64 (N 7)]] w fun e w' => e = .returned (.tuple #[.bool q, .nilIface]) ∧ Below w.heap.size w w' := by
  have HWo : Hid (∀ W, Calls Tryz.prog 72 #[.agg #[.int .i64 (N 0), .int .i64 (N 1), .int .i64 (N 2), .int .i64 (N 3), .int .i64 (N 4), .int .i64 (N 5), .int .i64 (N 6), .int .i64 (N 7)]] W fun e w' => e = .returned (.tuple #[.agg #[.int .i64 D.u, .int .i64 D.a, .int .i64 D.b, .int .i64 D.c], .nilIface]) ∧ Below W.heap.size W w') := hW
  have HH : Hid (∀ W, Below w.heap.size w W → Calls Tryz.prog 76 #[.agg #[.slice ao al acap, .slice co cl ccap], .agg #[.int .i64 D.u, .int .i64 D.a, .int .i64 D.b, .int .i64 D.c]] W fun e w' => e = .returned (.tuple #[.bool q, .nilIface]) ∧ Below W.heap.size W w') := hH
  clear hW hH
  obtain ⟨w1, hw1⟩ : ∃ w1, w1 = (w.alloc (.cells #[.slice ao al acap, .slice co cl ccap] 25)).alloc (.cells #[.int .i64 (N 0), .int .i64 (N 1), .int .i64 (N 2), .int .i64 (N 3), .int .i64 (N 4), .int .i64 (N 5), .int .i64 (N 6), .int .i64 (N 7)] 44) := ⟨_, rfl⟩
  have HB1 : Hid (Below w.heap.size w w1) := by unfold Hid; rw [hw1]; exact (below_alloc1 _ _).alloc (by simp) _
  have HF1 : Hid (Blk w1 w.heap.size 25 #[.slice ao al acap, .slice co cl ccap]) := by unfold Hid; rw [hw1]; exact (Blk.new _ _ _).old _
  have HN1 : Hid (Blk w1 (w.heap.size + 1) 44 (arr8 N)) := by
    unfold Hid; rw [hw1]
    have := Blk.new (w.alloc (.cells #[.slice ao al acap, .slice co cl ccap] 25)) 44 (arr8 N)
    simp only [World.size_alloc] at this
    exact this
  go_enter Tryz.func29, Tryz.ntmps29
  go_upto_region 1 with fail
  rw [← hw1]
  clear hw1
  obtain ⟨x0, x1, x2, x3, x4, x5, x6, x7⟩ := HN1.out.cells8
  go_wp2_with fail
  go_at_call 72
  refine (HWo.out _).mono ?_
  rintro e w3 ⟨rfl, hb3⟩
  have HB3 : Hid (Below w.heap.size w w3) := HB1.out.trans (hb3.mono HB1.out.size)
  have HF3 : Hid (Blk w3 w.heap.size 25 #[.slice ao al acap, .slice co cl ccap]) := HF1.out.below hb3
  clear hb3 x0 x1 x2 x3 x4 x5 x6 x7
  obtain ⟨w4, hw4⟩ : ∃ x, x = w3.alloc (.cells #[.int .i64 D.u, .int .i64 D.a, .int .i64 D.b, .int .i64 D.c] 34) := ⟨_, rfl⟩
  obtain ⟨G, hG⟩ : ∃ G, G = w3.heap.size := ⟨_, rfl⟩
  have HB4 : Hid (Below w.heap.size w w4) := by unfold Hid; rw [hw4]; exact HB3.out.alloc HB3.out.size _
  have HF4 : Hid (Blk w4 w.heap.size 25 #[.slice ao al acap, .slice co cl ccap]) := by unfold Hid; rw [hw4]; exact HF3.out.old _
  have HG4 : Hid (Blk w4 G 34 #[.int .i64 D.u, .int .i64 D.a, .int .i64 D.b, .int .i64 D.c]) := by unfold Hid; rw [hw4, hG]; exact Blk.new _ _ _
  go_upto_region 2 with fail
  rw [← hw4, ← hG]
  clear hw4 hG
  have y0 : w4.cell? ⟨w.heap.size, 0, none⟩ = some (.slice ao al acap) := HF4.out.cell 0
  have y1 : w4.cell? ⟨w.heap.size, 1, none⟩ = some (.slice co cl ccap) := HF4.out.cell 1
  have z0 : w4.cell? ⟨G, 0, none⟩ = some (.int .i64 D.u) := HG4.out.cell 0
  have z1 : w4.cell? ⟨G, 1, none⟩ = some (.int .i64 D.a) := HG4.out.cell 1
  have z2 : w4.cell? ⟨G, 2, none⟩ = some (.int .i64 D.b) := HG4.out.cell 2
  have z3 : w4.cell? ⟨G, 3, none⟩ = some (.int .i64 D.c) := HG4.out.cell 3
  go_wp2_with fail
  go_at_call 76
  refine (HH.out _ HB4.out).mono ?_
  rintro e w5 ⟨rfl, hb5⟩
  have HB5 : Hid (Below w.heap.size w w5) := HB4.out.trans (hb5.mono HB4.out.size)
  go_wp2
  go_ret2
  exact ⟨rfl, HB5.out⟩
/-- whether a right formula holds where so many things lie in each field. -/
theorem wholds_any (va vc : Value) (ats : List At) (c : List Int) (N : Nat → Int) (w : World) (hA : ReadsA w va ats) (hC : Reads w vc c) (hK : KindsLaid w) (hf : formFault ats c = 0) (h0 : countsFault N = 0) :
    Calls Tryz.prog 29 #[.agg #[va, vc], .agg #[.int .i64 (N 0), .int .i64 (N 1), .int .i64 (N 2), .int .i64 (N 3), .int .i64 (N 4), .int .i64 (N 5), .int .i64 (N 6), .int .i64 (N 7)]] w fun e w' => e = .returned (.tuple #[.bool ((madeN N 8).formIs ats c), .nilIface]) ∧ Below w.heap.size w w' := by
  have hH := fun (D : Wd) W hW => fholds_any va vc ats c D.u D.a D.b D.c W (hA.below hW) (hC.below hW) (hK.below hW)
  obtain ⟨ao, acap, rfl, _⟩ := hA.slice
  obtain ⟨co, ccap, rfl, _⟩ := hC.slice
  refine wholds_in ao _ acap co _ ccap N (madeN N 8) _ w (fun W => ?_) fun W hW => ?_
  · have h := fworld_any N W
    have e : madeW N = madeN N 8 := by unfold madeW; rw [if_pos h0]
    rw [h0, e] at h
    exact h
  · have h := hH (madeN N 8) W hW
    have eD : ∀ D : Wd, Wd.mk D.u D.a D.b D.c = D := fun _ => rfl
    have e : (madeN N 8).formFault ats c = 0 := wdForm_zero.2 ⟨hf, made_ok h0⟩
    rw [eD, e] at h
    exact h
end Go.Proofs.YtjaedfjfcghgcabGreatDoor


namespace Go.Proofs.YtjaedfjfcghgcabGreatDoor
open Go.ChangeShapes Go.WideShapes Go.ChangeAt Go.RowKit
set_option maxRecDepth 100000


end Go.Proofs.YtjaedfjfcghgcabGreatDoor


namespace Go.Proofs.YtjaedfjfcghgcabGreatDoor
open Go.ChangeShapes Go.WideShapes Go.ChangeAt Go.RowKit
set_option maxRecDepth 100000
attribute [local go_sem] Oper.semAt_some

theorem three_new (w : World) (o0 o1 o2 : Obj) :
    (((w.alloc o0).alloc o1).alloc o2).heap.size = w.heap.size + 3 ∧
    (((w.alloc o0).alloc o1).alloc o2).heap[w.heap.size]? = some o0 ∧
    (((w.alloc o0).alloc o1).alloc o2).heap[w.heap.size + 1]? = some o1 ∧
    (((w.alloc o0).alloc o1).alloc o2).heap[w.heap.size + 1 + 1]? = some o2 ∧
    Below w.heap.size w (((w.alloc o0).alloc o1).alloc o2) := by
  have s1 : (w.alloc o0).heap.size = w.heap.size + 1 := World.size_alloc _ _
  have s2 : ((w.alloc o0).alloc o1).heap.size = w.heap.size + 1 + 1 := by rw [World.size_alloc, s1]
  refine ⟨by rw [World.size_alloc, s2], ?_, ?_, ?_, ?_⟩
  · rw [Below.heap_alloc _ _ _ (by omega), Below.heap_alloc _ _ _ (by omega)]; exact World.alloc_heap_new _ _
  · rw [Below.heap_alloc _ _ _ (by omega), ← s1]; exact World.alloc_heap_new _ _
  · rw [← s2]; exact World.alloc_heap_new _ _
  · exact (((Below.refl _ w).alloc (Nat.le_refl _) _).alloc (by omega) _).alloc (by omega) _

set_option maxHeartbeats 4000000 in
theorem wof_right (ao : Option Addr) (al acap : Nat) (co : Option Addr) (cl ccap : Nat) (n : Nat) (hn : n ≤ 6) (p : (Nat → Int) → Bool) (w : World)
    (hC : ∀ W, Below w.heap.size w W → Calls Tryz.prog 14 #[.agg #[.slice ao al acap, .slice co cl ccap]] W fun e w' => e = .returned .nilIface ∧ Below W.heap.size W w')
    (hH : ∀ (M : Nat → Int) W, M ∈ everyC n → Below w.heap.size w W → Calls Tryz.prog 29 #[.agg #[.slice ao al acap, .slice co cl ccap], .agg #[.int .i64 (M 0), .int .i64 (M 1), .int .i64 (M 2), .int .i64 (M 3), .int .i64 (M 4), .int .i64 (M 5), .int .i64 (M 6), .int .i64 (M 7)]] W fun e w' => e = .returned (.tuple #[.bool (p M), .nilIface]) ∧ Below W.heap.size W w') :
    Calls Tryz.prog 8 #[.agg #[.slice ao al acap, .slice co cl ccap], .int .i64 n] w fun e w' => e = .returned (.tuple #[.int .i64 (sumL p (everyC n)), .nilIface]) ∧ Below w.heap.size w w' := by
  obtain ⟨A, hA⟩ : ∃ A, A = everyC n := ⟨_, rfl⟩
  have HC : Hid (∀ W, Below w.heap.size w W → Calls Tryz.prog 14 #[.agg #[.slice ao al acap, .slice co cl ccap]] W fun e w' => e = .returned .nilIface ∧ Below W.heap.size W w') := hC
  have HF : Hid (∀ (k : Nat) (M : Nat → Int) W, A[k]? = some M → Below w.heap.size w W → Calls Tryz.prog 29 #[.agg #[.slice ao al acap, .slice co cl ccap], .agg #[.int .i64 (M 0), .int .i64 (M 1), .int .i64 (M 2), .int .i64 (M 3), .int .i64 (M 4), .int .i64 (M 5), .int .i64 (M 6), .int .i64 (M 7)]] W fun e w' => e = .returned (.tuple #[.bool (p M), .nilIface]) ∧ Below W.heap.size W w') := fun k M W hM hW => hH M W (by rw [hA] at hM; exact List.mem_of_getElem? hM) hW
  have HAl : Hid (∀ (k : Nat) (M : Nat → Int) W, A[k]? = some M → Calls Tryz.prog 30 #[.agg #[.int .i64 (M 0), .int .i64 (M 1), .int .i64 (M 2), .int .i64 (M 3), .int .i64 (M 4), .int .i64 (M 5), .int .i64 (M 6), .int .i64 (M 7)]] W fun e w' => e = .returned (.int .i64 (likeN M)) ∧ Below W.heap.size W w') := fun k M W hM => walike_any M (everyC_right hn (by rw [hA] at hM; exact List.mem_of_getElem? hM)) W
  have HS : Hid (∀ Bu W, W.cell? ⟨Bu, 0, none⟩ = some (.int .i64 n) → SeqG 2 Tryz.prog 74 #[.pointer (some ⟨Bu, 0, none⟩)] enc8 A W) := fun Bu W hB => by rw [hA]; exact iter_any n hn 2 (by omega) Bu W hB
  have HR : Hid (∀ (k : Nat) (M : Nat → Int), A[k]? = some M → 0 ≤ likeN M ∧ likeN M ≤ 262144 ∧ 0 ≤ sumL p (A.take k) ∧ sumL p (A.take k) ≤ 262144) := fun k M hM => by
    rw [hA] at hM ⊢
    have hmem := List.mem_of_getElem? hM
    have hp : ∀ N ∈ everyC n, 1 ≤ likeN N := fun N hN => like_pos hn hN
    have h1 := hp M hmem
    have h2 := sumL_has hp (p := fun _ => true) hmem rfl
    rw [(like_facts n hn).2] at h2
    have h3 := eight_le n hn
    have h4 := sumL_range (A := (everyC n).take k) (fun N hN => hp N (List.mem_of_mem_take hN)) p
    have h5 := sumL_part (A := everyC n) (fun N hN => Int.le_trans (by decide) (hp N hN)) (p := p) k
    have h6 := sumL_range hp p
    rw [(like_facts n hn).2] at h6
    omega
  rw [← hA]
  have HCk : Hid (∀ W, Calls Tryz.prog 27 #[.int .i64 n] W fun e w' => e = .returned .nilIface ∧ W = w') := fun W => wcheck_ok n hn W
  clear hA hn hC hH
  obtain ⟨hs1, b0, b1, b2, hB1⟩ := three_new w (.cells #[.slice ao al acap, .slice co cl ccap] 25) (.cells #[.int .i64 0] 3) (.cells #[.nilIface] 29)
  obtain ⟨w1, hw1⟩ : ∃ x, x = ((w.alloc (.cells #[.slice ao al acap, .slice co cl ccap] 25)).alloc (.cells #[.int .i64 0] 3)).alloc (.cells #[.nilIface] 29) := ⟨_, rfl⟩
  rw [← hw1] at hs1 b0 b1 b2 hB1
  have HB1 : Hid (Below w.heap.size w w1) := hB1
  have Hs1 : Hid (w1.heap.size = w.heap.size + 3) := hs1
  have I0 : Hid (Blk w1 w.heap.size 25 #[.slice ao al acap, .slice co cl ccap]) := b0
  have I1 : Hid (Blk w1 (w.heap.size + 1) 3 #[.int .i64 0]) := b1
  have I2 : Hid (Blk w1 (w.heap.size + 1 + 1) 29 #[.nilIface]) := b2
  clear hs1 b0 b1 b2 hB1
  refine (callsIn_wide (n := 3)).1 ?_
  refine callsIn_of_wp_marks Tryz.func8 rfl trivial ?_ rfl
  simp only [Tryz.ntmps8, List.size_toArray, List.length_cons, List.length_nil, Nat.reduceAdd, Nat.reduceSub, Array.replicate_succ, Array.replicate_zero, List.push_toArray, List.append_toArray, List.nil_append, List.cons_append]
  gi_upto_region 1 with fail
  rw [← hw1]
  clear hw1
  have i0 : w1.cell? ⟨w.heap.size, 0, none⟩ = some (.slice ao al acap) := I0.out.cell 0
  have i1 : w1.cell? ⟨w.heap.size, 1, none⟩ = some (.slice co cl ccap) := I0.out.cell 1
  gi_wp2_with fail
  refine ⟨trivial, ?_⟩
  gi_at_call 14
  refine (callsIn_wide.2 (HC.out _ HB1.out)).mono ?_
  rintro e w2 ⟨rfl, hb2⟩
  have HB2 : Hid (Below w.heap.size w w2) := HB1.out.trans (hb2.mono HB1.out.size)
  have J0 : Hid (Blk w2 w.heap.size 25 #[.slice ao al acap, .slice co cl ccap]) := I0.out.below hb2
  have J1 : Hid (Blk w2 (w.heap.size + 1) 3 #[.int .i64 0]) := I1.out.below hb2
  have J2 : Hid (Blk w2 (w.heap.size + 1 + 1) 29 #[.nilIface]) := I2.out.below hb2
  obtain ⟨G, hG⟩ : ∃ G, G = w2.heap.size := ⟨_, rfl⟩
  have HG : Hid (w.heap.size + 3 ≤ G) := by unfold Hid; rw [hG, ← Hs1.out]; exact hb2.size
  clear hb2 i0 i1
  gi_wp2_with fail
  refine ⟨trivial, ?_⟩
  gi_at_call 27
  refine (callsIn_wide.2 (HCk.out _)).mono ?_
  rintro e w3 ⟨rfl, rfl⟩
  gi_wp2_with fail
  refine ⟨trivial, ?_⟩
  gi_at_call 28
  refine (callsIn_wide.2 (fitAll_any _ _)).mono ?_
  rintro e w4 ⟨rfl, rfl⟩
  gi_wp2_with fail
  obtain ⟨wl, hwl⟩ : ∃ x, x = (w2.alloc (.cells #[.int .i64 0] 3)).alloc (.cells #[.int .i64 n] 3) := ⟨_, rfl⟩
  have HB0 : Hid (Below w.heap.size w wl) := by unfold Hid; rw [hwl]; exact (HB2.out.alloc HB2.out.size _).alloc (by rw [World.size_alloc]; exact Nat.le_succ_of_le HB2.out.size) _
  have Hsz : Hid (wl.heap.size = G + 2) := by unfold Hid; rw [hwl, hG, World.size_alloc, World.size_alloc]
  have H0 : Hid (Blk wl w.heap.size 25 #[.slice ao al acap, .slice co cl ccap]) := by unfold Hid; rw [hwl]; exact (J0.out.old _).old _
  have H1 : Hid (Blk wl (w.heap.size + 1) 3 #[.int .i64 0]) := by unfold Hid; rw [hwl]; exact (J1.out.old _).old _
  have H2 : Hid (Blk wl (w.heap.size + 1 + 1) 29 #[.nilIface]) := by unfold Hid; rw [hwl]; exact (J2.out.old _).old _
  have H3 : Hid (Blk wl G 3 #[.int .i64 0]) := by unfold Hid; rw [hwl, hG]; exact (Blk.new _ _ _).old _
  have H4 : Hid (Blk wl (G + 1) 3 #[.int .i64 n]) := by
    unfold Hid; rw [hwl, hG]
    have := Blk.new (w2.alloc (.cells #[.int .i64 0] 3)) 3 #[.int .i64 n]
    rw [World.size_alloc] at this
    exact this
  rw [← hwl, ← hG]
  clear hwl hG
  refine wpIn_range_own (by omega) (gf := 74) (lb := #[.pointer (some ⟨G + 1, 0, none⟩)]) rfl (enters_of Tryz.func74 (by kernel_rfl) rfl) (encs := enc8) (A := A)
    (fun W hW => HS.out _ W ((hW.cell (by rw [Hsz.out]; simp)).trans (H4.out.cell 0))) (fun _ => rfl)
    (fun k W => Below w.heap.size w W ∧ Blk W w.heap.size 25 #[.slice ao al acap, .slice co cl ccap] ∧ Blk W (w.heap.size + 1) 3 #[.int .i64 0] ∧ Blk W (w.heap.size + 1 + 1) 29 #[.nilIface] ∧ Blk W G 3 #[.int .i64 (sumL p (A.take k))])
    (fun _ _ => False)
    (fun k X Y h hb => ⟨h.1.trans (hb.mono (by have := HG.out; rw [Hsz.out]; omega)), h.2.1.keep hb (by have := HG.out; rw [Hsz.out]; omega), h.2.2.1.keep hb (by have := HG.out; rw [Hsz.out]; omega), h.2.2.2.1.keep hb (by have := HG.out; rw [Hsz.out]; omega), h.2.2.2.2.keep hb (by rw [Hsz.out]; omega)⟩)
    (fun _ _ _ h _ => h) ⟨HB0.out, H0.out, H1.out, H2.out, H3.out⟩ ?round ?done ?stop
  case round =>
    intro ln k x W hx hl1 hl2 ⟨hB, c0, c1, c2, c3⟩
    have HX : Hid (A[k]? = some x) := hx
    have Hl1 : Hid (G + 2 ≤ ln) := by unfold Hid; rw [← Hsz.out]; exact hl1
    have Hl2 : Hid (ln < W.heap.size) := hl2
    have HBk : Hid (Below w.heap.size w W) := hB
    have C0 : Hid (Blk W w.heap.size 25 #[.slice ao al acap, .slice co cl ccap]) := c0
    have C1 : Hid (Blk W (w.heap.size + 1) 3 #[.int .i64 0]) := c1
    have C2 : Hid (Blk W (w.heap.size + 1 + 1) 29 #[.nilIface]) := c2
    have C3 : Hid (Blk W G 3 #[.int .i64 (sumL p (A.take k))]) := c3
    clear hx hl1 hl2 hB c0 c1 c2 c3
    unfold enc8
    gi_wp2
    refine ⟨(Over.refl _ _).alloc _, fun o => ?_⟩
    obtain ⟨W2, hW2⟩ : ∃ X, X = (W.alloc (.cells #[.int .i64 (x 0), .int .i64 (x 1), .int .i64 (x 2), .int .i64 (x 3), .int .i64 (x 4), .int .i64 (x 5), .int .i64 (x 6), .int .i64 (x 7)] 44)).putObj ln o := ⟨_, rfl⟩
    obtain ⟨Gx, hGx⟩ : ∃ G, G = W.heap.size := ⟨_, rfl⟩
    have HB2 : Hid (Below w.heap.size w W2) := by unfold Hid; rw [hW2]; exact (HBk.out.alloc HBk.out.size _).trans (below_putObj _ _ (by have := Hl1.out; have := HG.out; omega))
    have D0 : Hid (Blk W2 w.heap.size 25 #[.slice ao al acap, .slice co cl ccap]) := by unfold Hid; rw [hW2]; exact (C0.out.old _).putO _ (by have := Hl1.out; have := HG.out; omega)
    have D1 : Hid (Blk W2 (w.heap.size + 1) 3 #[.int .i64 0]) := by unfold Hid; rw [hW2]; exact (C1.out.old _).putO _ (by have := Hl1.out; have := HG.out; omega)
    have D2 : Hid (Blk W2 (w.heap.size + 1 + 1) 29 #[.nilIface]) := by unfold Hid; rw [hW2]; exact (C2.out.old _).putO _ (by have := Hl1.out; have := HG.out; omega)
    have D3 : Hid (Blk W2 G 3 #[.int .i64 (sumL p (A.take k))]) := by unfold Hid; rw [hW2]; exact (C3.out.old _).putO _ (by have := Hl1.out; omega)
    have D8 : Hid (Blk W2 Gx 44 (arr8 x)) := by unfold Hid; rw [hW2, hGx]; exact (Blk.new _ _ _).putO _ (by have := Hl2.out; omega)
    rw [← hW2, ← hGx]
    clear hW2 hGx
    have HFk : Hid (Calls Tryz.prog 29 #[.agg #[.slice ao al acap, .slice co cl ccap], .agg #[.int .i64 (x 0), .int .i64 (x 1), .int .i64 (x 2), .int .i64 (x 3), .int .i64 (x 4), .int .i64 (x 5), .int .i64 (x 6), .int .i64 (x 7)]] W2 fun e w' => e = .returned (.tuple #[.bool (p x), .nilIface]) ∧ Below W2.heap.size W2 w') := HF.out k x W2 HX.out HB2.out
    have HM : Hid (sumL p (A.take (k + 1)) = sumL p (A.take k) + (if p x = true then likeN x else 0)) := sumL_take HX.out
    have HAk : Hid (∀ W, Calls Tryz.prog 30 #[.agg #[.int .i64 (x 0), .int .i64 (x 1), .int .i64 (x 2), .int .i64 (x 3), .int .i64 (x 4), .int .i64 (x 5), .int .i64 (x 6), .int .i64 (x 7)]] W fun e w' => e = .returned (.int .i64 (likeN x)) ∧ Below W.heap.size W w') := fun W => HAl.out k x W HX.out
    obtain ⟨hr1, hr2, hr3, hr4⟩ := HR.out k x HX.out
    obtain ⟨q, hq⟩ : ∃ q, q = p x := ⟨_, rfl⟩
    rw [← hq] at HFk HM
    clear hq
    obtain ⟨m, hm⟩ : ∃ m, m = sumL p (A.take k) := ⟨_, rfl⟩
    obtain ⟨L, hL⟩ : ∃ L, L = likeN x := ⟨_, rfl⟩
    rw [← hm] at HM D3 hr3 hr4
    rw [← hL] at HM HAk hr1 hr2
    have Hr : Hid (0 ≤ L ∧ L ≤ 262144 ∧ 0 ≤ m ∧ m ≤ 262144) := ⟨hr1, hr2, hr3, hr4⟩
    clear hm hL hr1 hr2 hr3 hr4
    have e0 : W2.cell? ⟨w.heap.size, 0, none⟩ = some (.slice ao al acap) := D0.out.cell 0
    have e1 : W2.cell? ⟨w.heap.size, 1, none⟩ = some (.slice co cl ccap) := D0.out.cell 1
    obtain ⟨x0, x1, x2, x3, x4, x5, x6, x7⟩ := D8.out.cells8
    gi_wp2_with fail
    refine ⟨trivial, ?_⟩
    gi_at_call 29
    refine (CallsIn.inRound ln (callsIn_wide.2 HFk.out)).mono ?_
    rintro e W3 ⟨rfl, hb3⟩
    have HB3 : Hid (Below w.heap.size w W3) := HB2.out.trans (hb3.mono HB2.out.size)
    have E0 : Hid (Blk W3 w.heap.size 25 #[.slice ao al acap, .slice co cl ccap]) := D0.out.below hb3
    have E1 : Hid (Blk W3 (w.heap.size + 1) 3 #[.int .i64 0]) := D1.out.below hb3
    have E2 : Hid (Blk W3 (w.heap.size + 1 + 1) 29 #[.nilIface]) := D2.out.below hb3
    have E3 : Hid (Blk W3 G 3 #[.int .i64 m]) := D3.out.below hb3
    have E8 : Hid (Blk W3 Gx 44 (arr8 x)) := D8.out.below hb3
    have HO3 : Hid (Over wl.heap.size W2 W3) := Over.of_below hb3
    clear hb3 e0 e1 x0 x1 x2 x3 x4 x5 x6 x7
    cases q with
    | true =>
      have HM1 : Hid (sumL p (A.take (k + 1)) = m + L) := by unfold Hid; have h := HM.out; simpa using h
      clear HM
      have e3 : W3.cell? ⟨G, 0, none⟩ = some (.int .i64 m) := E3.out.cell 0
      have z3 : W3.frozen? ⟨G, 0, none⟩ = false := E3.out.frozen 0
      obtain ⟨x0, x1, x2, x3, x4, x5, x6, x7⟩ := E8.out.cells8
      obtain ⟨hr1, hr2, hr3, hr4⟩ := Hr.out
      have HA3 : Hid (∀ W, Below W3.heap.size W3 W → Calls Tryz.prog 30 #[.agg #[.int .i64 (x 0), .int .i64 (x 1), .int .i64 (x 2), .int .i64 (x 3), .int .i64 (x 4), .int .i64 (x 5), .int .i64 (x 6), .int .i64 (x 7)]] W fun e w' => e = .returned (.int .i64 L) ∧ Below W3.heap.size W3 w' ∧ w'.cell? ⟨G, 0, none⟩ = some (.int .i64 m) ∧ w'.frozen? ⟨G, 0, none⟩ = false) := fun W hW => (HAk.out W).mono fun e w' ⟨h1, h2⟩ => ⟨h1, hW.trans (h2.mono hW.size), (E3.out.below (hW.trans (h2.mono hW.size))).cell 0, (E3.out.below (hW.trans (h2.mono hW.size))).frozen 0⟩
      gi_upto_region 14 with fail
      gi_region_with (refine ⟨trivial, ?_⟩; gi_at_call 30; refine (CallsIn.inRound ln (callsIn_wide.2 (HA3.out _ (by first | exact Below.drew (Below.refl _ _) | exact Below.refl _ _)))).mono ?_; rintro e w8 ⟨rfl, hb8, g8, z8⟩)
      all_goals gi_wp2
      all_goals have hM := HM1.out
      all_goals have hg := HG.out
      all_goals refine ⟨(HO3.out.trans (Over.of_below hb8)).setCell (by rw [Hsz.out]; simp) _, (HB3.out.trans (hb8.mono HB3.out.size)).setCell (by simp; omega) _, (E0.out.below hb8).far (by omega) _ _, (E1.out.below hb8).far (by omega) _ _, (E2.out.below hb8).far (by omega) _ _, ?_⟩
      all_goals show Blk _ _ _ #[.int .i64 (sumL p (A.take (k + 1)))]
      all_goals rw [hM]
      all_goals have ew : IntKind.i64.wrap (m + L) = m + L := by rw [IntKind.wrap_i64]; omega
      all_goals rw [ew]
      all_goals exact (E3.out.below hb8).set 0 (.int .i64 (m + L))
    | false =>
      have HM1 : Hid (sumL p (A.take (k + 1)) = m) := by unfold Hid; have h := HM.out; simpa using h
      clear HM
      gi_wp2
      have hM := HM1.out
      exact ⟨HO3.out, HB3.out, E0.out, E1.out, E2.out, by rw [hM]; exact E3.out⟩
  case done =>
    intro D W hD ⟨hB, c0, c1, c2, c3⟩ hK
    have HD : Hid (G + 2 ≤ D) := by unfold Hid; rw [← Hsz.out]; exact hD
    have HK : Hid (W.heap[D]? = some (.deferred (some []))) := hK
    have HBk : Hid (Below w.heap.size w W) := hB
    rw [List.take_length] at c3
    obtain ⟨S, hS⟩ : ∃ S, S = sumL p A := ⟨_, rfl⟩
    rw [← hS] at c3
    have HE : Hid (S = sumL p A) := hS
    clear hS
    have C1 : Hid (Blk W (w.heap.size + 1) 3 #[.int .i64 0]) := c1
    have C2 : Hid (Blk W (w.heap.size + 1 + 1) 29 #[.nilIface]) := c2
    have C3 : Hid (Blk W G 3 #[.int .i64 S]) := c3
    clear hD hB c0 c1 c2 c3 hK
    have e1 : W.cell? ⟨w.heap.size + 1, 0, none⟩ = some (.int .i64 0) := C1.out.cell 0
    have z1 : W.frozen? ⟨w.heap.size + 1, 0, none⟩ = false := C1.out.frozen 0
    have e2 : W.cell? ⟨w.heap.size + 1 + 1, 0, none⟩ = some .nilIface := C2.out.cell 0
    have z2 : W.frozen? ⟨w.heap.size + 1 + 1, 0, none⟩ = false := C2.out.frozen 0
    have e3 : W.cell? ⟨G, 0, none⟩ = some (.int .i64 S) := C3.out.cell 0
    gi_wp2
    have hK' : ((W.setCell ⟨w.heap.size + 1, 0, none⟩ (.int .i64 S)).setCell ⟨w.heap.size + 1 + 1, 0, none⟩ .nilIface).heap[D]? = some (.deferred (some [])) := by
      have := HD.out
      have := HG.out
      rw [Below.heap_setCell _ _ _ _ (by simp; omega), Below.heap_setCell _ _ _ _ (by simp; omega)]; exact HK.out
    have r1 : Blk ((W.setCell ⟨w.heap.size + 1, 0, none⟩ (.int .i64 S)).setCell ⟨w.heap.size + 1 + 1, 0, none⟩ .nilIface) (w.heap.size + 1) 3 #[.int .i64 S] := (C1.out.set 0 _).far (by omega) _ _
    have r2 : Blk ((W.setCell ⟨w.heap.size + 1, 0, none⟩ (.int .i64 S)).setCell ⟨w.heap.size + 1 + 1, 0, none⟩ .nilIface) (w.heap.size + 1 + 1) 29 #[.nilIface] := (C2.out.far (by omega) _ _).set 0 _
    refine ⟨by simp, .inl ⟨_, _, rfl, run_takeDeferred hK', ?_⟩⟩
    have hd := HD.out
    have hg := HG.out
    have l1 := loadI (r1.putO (.deferred none) (l := D) (by omega))
    have l2 := loadE (r2.putO (.deferred none) (l := D) (by omega))
    refine ⟨.tuple #[.int .i64 S, .nilIface], ?_, by rw [HE.out], ?_⟩
    · rw [results_two rfl]
      simp [asAddr, Result.andThen, l1, l2]
    · exact ((HBk.out.setCell (by simp) _).setCell (by simp; omega) _).trans (below_putObj _ _ (by omega))
  case stop => exact fun _ _ _ _ _ h => h.elim

set_option maxHeartbeats 4000000 in
theorem wof_form (ao : Option Addr) (al acap : Nat) (co : Option Addr) (cl ccap : Nat) (u F : Int) (w : World)
    (hC : ∀ W, Below w.heap.size w W → Calls Tryz.prog 14 #[.agg #[.slice ao al acap, .slice co cl ccap]] W fun e w' => e = .returned (.iface 75 (.int .i64 F)) ∧ Below W.heap.size W w') :
    Calls Tryz.prog 8 #[.agg #[.slice ao al acap, .slice co cl ccap], .int .i64 u] w fun e w' => e = .returned (.tuple #[.int .i64 0, .iface 75 (.int .i64 F)]) ∧ Below w.heap.size w w' := by
  have HC : Hid (∀ W, Below w.heap.size w W → Calls Tryz.prog 14 #[.agg #[.slice ao al acap, .slice co cl ccap]] W fun e w' => e = .returned (.iface 75 (.int .i64 F)) ∧ Below W.heap.size W w') := hC
  clear hC
  obtain ⟨hs1, b0, b1, b2, hB1⟩ := three_new w (.cells #[.slice ao al acap, .slice co cl ccap] 25) (.cells #[.int .i64 0] 3) (.cells #[.nilIface] 29)
  obtain ⟨w1, hw1⟩ : ∃ x, x = ((w.alloc (.cells #[.slice ao al acap, .slice co cl ccap] 25)).alloc (.cells #[.int .i64 0] 3)).alloc (.cells #[.nilIface] 29) := ⟨_, rfl⟩
  rw [← hw1] at hs1 b0 b1 b2 hB1
  have HB1 : Hid (Below w.heap.size w w1) := hB1
  have I0 : Hid (Blk w1 w.heap.size 25 #[.slice ao al acap, .slice co cl ccap]) := b0
  have I1 : Hid (Blk w1 (w.heap.size + 1) 3 #[.int .i64 0]) := b1
  have I2 : Hid (Blk w1 (w.heap.size + 1 + 1) 29 #[.nilIface]) := b2
  clear hs1 b0 b1 b2 hB1
  go_enter Tryz.func8, Tryz.ntmps8
  go_upto_region 1 with fail
  rw [← hw1]
  clear hw1
  have i0 : w1.cell? ⟨w.heap.size, 0, none⟩ = some (.slice ao al acap) := I0.out.cell 0
  have i1 : w1.cell? ⟨w.heap.size, 1, none⟩ = some (.slice co cl ccap) := I0.out.cell 1
  go_wp2_with fail
  go_at_call 14
  refine (HC.out _ HB1.out).mono ?_
  rintro e w2 ⟨rfl, hb2⟩
  have HB2 : Hid (Below w.heap.size w w2) := HB1.out.trans (hb2.mono HB1.out.size)
  have J1 : Hid (Blk w2 (w.heap.size + 1) 3 #[.int .i64 0]) := I1.out.below hb2
  have J2 : Hid (Blk w2 (w.heap.size + 1 + 1) 29 #[.nilIface]) := I2.out.below hb2
  clear hb2 i0 i1
  have e1 : w2.cell? ⟨w.heap.size + 1, 0, none⟩ = some (.int .i64 0) := J1.out.cell 0
  have z1 : w2.frozen? ⟨w.heap.size + 1, 0, none⟩ = false := J1.out.frozen 0
  have e2 : w2.cell? ⟨w.heap.size + 1 + 1, 0, none⟩ = some .nilIface := J2.out.cell 0
  have z2 : w2.frozen? ⟨w.heap.size + 1 + 1, 0, none⟩ = false := J2.out.frozen 0
  go_wp2
  have r1 : Blk ((w2.setCell ⟨w.heap.size + 1, 0, none⟩ (.int .i64 0)).setCell ⟨w.heap.size + 1 + 1, 0, none⟩ (.iface 75 (.int .i64 F))) (w.heap.size + 1) 3 #[.int .i64 0] := (J1.out.set 0 _).far (by omega) _ _
  have r2 : Blk ((w2.setCell ⟨w.heap.size + 1, 0, none⟩ (.int .i64 0)).setCell ⟨w.heap.size + 1 + 1, 0, none⟩ (.iface 75 (.int .i64 F))) (w.heap.size + 1 + 1) 29 #[.iface 75 (.int .i64 F)] := (J2.out.far (by omega) _ _).set 0 _
  have l1 := loadI r1
  have l2 := loadE r2
  refine bodyPost_ret (v := .tuple #[.int .i64 0, .iface 75 (.int .i64 F)]) ?_ rfl ⟨rfl, ?_⟩
  · rw [results_two rfl]
    simp [asAddr, Result.andThen, l1, l2]
  · exact (HB2.out.setCell (by simp) _).setCell (by simp; omega) _

set_option maxHeartbeats 4000000 in
theorem wof_range (ao : Option Addr) (al acap : Nat) (co : Option Addr) (cl ccap : Nat) (u : Int) (hu : ¬ (0 ≤ u ∧ u ≤ 6)) (w : World)
    (hC : ∀ W, Below w.heap.size w W → Calls Tryz.prog 14 #[.agg #[.slice ao al acap, .slice co cl ccap]] W fun e w' => e = .returned .nilIface ∧ Below W.heap.size W w') :
    Calls Tryz.prog 8 #[.agg #[.slice ao al acap, .slice co cl ccap], .int .i64 u] w fun e w' => e = .returned (.tuple #[.int .i64 0, .iface 75 (.int .i64 1)]) ∧ Below w.heap.size w w' := by
  have HC : Hid (∀ W, Below w.heap.size w W → Calls Tryz.prog 14 #[.agg #[.slice ao al acap, .slice co cl ccap]] W fun e w' => e = .returned .nilIface ∧ Below W.heap.size W w') := hC
  have HCk : Hid (∀ W, Calls Tryz.prog 27 #[.int .i64 u] W fun e w' => e = .returned (.iface 75 (.int .i64 1)) ∧ W = w') := fun W => wcheck_no u hu W
  clear hC hu
  obtain ⟨hs1, b0, b1, b2, hB1⟩ := three_new w (.cells #[.slice ao al acap, .slice co cl ccap] 25) (.cells #[.int .i64 0] 3) (.cells #[.nilIface] 29)
  obtain ⟨w1, hw1⟩ : ∃ x, x = ((w.alloc (.cells #[.slice ao al acap, .slice co cl ccap] 25)).alloc (.cells #[.int .i64 0] 3)).alloc (.cells #[.nilIface] 29) := ⟨_, rfl⟩
  rw [← hw1] at hs1 b0 b1 b2 hB1
  have HB1 : Hid (Below w.heap.size w w1) := hB1
  have I0 : Hid (Blk w1 w.heap.size 25 #[.slice ao al acap, .slice co cl ccap]) := b0
  have I1 : Hid (Blk w1 (w.heap.size + 1) 3 #[.int .i64 0]) := b1
  have I2 : Hid (Blk w1 (w.heap.size + 1 + 1) 29 #[.nilIface]) := b2
  clear hs1 b0 b1 b2 hB1
  go_enter Tryz.func8, Tryz.ntmps8
  go_upto_region 1 with fail
  rw [← hw1]
  clear hw1
  have i0 : w1.cell? ⟨w.heap.size, 0, none⟩ = some (.slice ao al acap) := I0.out.cell 0
  have i1 : w1.cell? ⟨w.heap.size, 1, none⟩ = some (.slice co cl ccap) := I0.out.cell 1
  go_wp2_with fail
  go_at_call 14
  refine (HC.out _ HB1.out).mono ?_
  rintro e w2 ⟨rfl, hb2⟩
  have HB2 : Hid (Below w.heap.size w w2) := HB1.out.trans (hb2.mono HB1.out.size)
  have J1 : Hid (Blk w2 (w.heap.size + 1) 3 #[.int .i64 0]) := I1.out.below hb2
  have J2 : Hid (Blk w2 (w.heap.size + 1 + 1) 29 #[.nilIface]) := I2.out.below hb2
  clear hb2 i0 i1
  go_wp2_with fail
  go_at_call 27
  refine (HCk.out _).mono ?_
  rintro e w3 ⟨rfl, rfl⟩
  have e1 : w2.cell? ⟨w.heap.size + 1, 0, none⟩ = some (.int .i64 0) := J1.out.cell 0
  have z1 : w2.frozen? ⟨w.heap.size + 1, 0, none⟩ = false := J1.out.frozen 0
  have e2 : w2.cell? ⟨w.heap.size + 1 + 1, 0, none⟩ = some .nilIface := J2.out.cell 0
  have z2 : w2.frozen? ⟨w.heap.size + 1 + 1, 0, none⟩ = false := J2.out.frozen 0
  go_wp2
  have r1 : Blk ((w2.setCell ⟨w.heap.size + 1, 0, none⟩ (.int .i64 0)).setCell ⟨w.heap.size + 1 + 1, 0, none⟩ (.iface 75 (.int .i64 1))) (w.heap.size + 1) 3 #[.int .i64 0] := (J1.out.set 0 _).far (by omega) _ _
  have r2 : Blk ((w2.setCell ⟨w.heap.size + 1, 0, none⟩ (.int .i64 0)).setCell ⟨w.heap.size + 1 + 1, 0, none⟩ (.iface 75 (.int .i64 1))) (w.heap.size + 1 + 1) 29 #[.iface 75 (.int .i64 1)] := (J2.out.far (by omega) _ _).set 0 _
  have l1 := loadI r1
  have l2 := loadE r2
  refine bodyPost_ret (v := .tuple #[.int .i64 0, .iface 75 (.int .i64 1)]) ?_ rfl ⟨rfl, ?_⟩
  · rw [results_two rfl]
    simp [asAddr, Result.andThen, l1, l2]
  · exact (HB2.out.setCell (by simp) _).setCell (by simp; omega) _

/-- in how many worlds it holds, whatever the formula and the number of things. -/
theorem worldsOf_any (va vc : Value) (ats : List At) (c : List Int) (u : Int) (w : World) (hA : ReadsA w va ats) (hC : Reads w vc c) (hK : KindsLaid w) :
    Calls Tryz.prog 8 #[.agg #[va, vc], .int .i64 u] w fun e w' => e = .returned (.tuple #[.int .i64 (worldsN ats c u), errV (worldsFault ats c u)]) ∧ Below w.heap.size w w' := by
  have hF := fun W hW => fcheck_any va vc ats c W (hA.below hW) (hC.below hW) (hK.below hW)
  have hH := fun (N : Nat → Int) W hW => wholds_any va vc ats c N W (hA.below hW) (hC.below hW) (hK.below hW)
  obtain ⟨ao, acap, rfl, _⟩ := hA.slice
  obtain ⟨co, ccap, rfl, _⟩ := hC.slice
  by_cases hf : formFault ats c = 0
  · rw [hf] at hF
    by_cases hu : 0 ≤ u ∧ u ≤ 6
    · obtain ⟨n, rfl⟩ := Int.eq_ofNat_of_zero_le hu.1
      have e0 : worldsFault ats c (n : Int) = 0 := by unfold worldsFault allFault; rw [if_pos hf, if_pos hu]
      have en : worldsN ats c (n : Int) = sumL (fun N => (madeN N 8).formIs ats c) (everyC n) := by unfold worldsN; rw [if_pos e0, Int.toNat_natCast]
      rw [e0, en]
      exact wof_right ao _ acap co _ ccap n (by omega) (fun N => (madeN N 8).formIs ats c) w hF fun M W hM hW => hH M W hW hf (everyC_right (by omega) hM)
    · have e0 : worldsFault ats c u = 1 := by unfold worldsFault allFault; rw [if_pos hf, if_neg hu]
      have en : worldsN ats c u = 0 := by unfold worldsN; rw [if_neg (by rw [e0]; decide)]
      rw [e0, en]
      exact wof_range ao _ acap co _ ccap u hu w hF
  · rw [errV_no hf] at hF
    have e0 : worldsFault ats c u = formFault ats c := by unfold worldsFault; rw [if_neg hf]
    have en : worldsN ats c u = 0 := by unfold worldsN; rw [if_neg (by rw [e0]; exact hf)]
    rw [e0, en, errV_no hf]
    exact wof_form ao _ acap co _ ccap u _ w hF
end Go.Proofs.YtjaedfjfcghgcabGreatDoor


namespace Go.Proofs.YtjaedfjfcghgcabGreatDoor
open Go.ChangeShapes Go.WideShapes Go.ChangeAt Go.RowKit
set_option maxRecDepth 100000

def askCheckN (fs : List Fm) (ats : List At) (c : List Int) (u : Int) : Int := if formsFault fs u = 0 then formFault ats c else formsFault fs u
theorem askcheck_forms (lo : Option Addr) (ln lcap : Nat) (ao : Option Addr) (al acap : Nat) (co : Option Addr) (cl ccap : Nat) (u m : Int) (w : World)
    (HF : Hid (∀ W, Below w.heap.size w W → Calls Tryz.prog 77 #[.slice lo ln lcap, .int .i64 u] W fun e w' => e = .returned (.iface 75 (.int .i64 m)) ∧ Below W.heap.size W w')) :
    Calls Tryz.prog 63 #[.slice lo ln lcap, .agg #[.slice ao al acap, .slice co cl ccap], .int .i64 u] w fun e w' => e = .returned (.iface 75 (.int .i64 m)) ∧ Below w.heap.size w w' := by
  go_enter Tryz.func63, Tryz.ntmps63
  go_wp2_with fail
  go_at_call 77
  refine (HF.out _ (below_alloc1 _ _)).mono ?_
  rintro e w2 ⟨rfl, hb⟩
  have HB : Hid (Below w.heap.size w w2) := (below_alloc1 w _).trans (hb.mono (by simp))
  clear hb
  go_wp2
  go_ret
  exact ⟨rfl, HB.out⟩
theorem askcheck_good (lo : Option Addr) (ln lcap : Nat) (ao : Option Addr) (al acap : Nat) (co : Option Addr) (cl ccap : Nat) (u : Int) (E : Value) (w : World)
    (HF : Hid (∀ W, Below w.heap.size w W → Calls Tryz.prog 77 #[.slice lo ln lcap, .int .i64 u] W fun e w' => e = .returned .nilIface ∧ Below W.heap.size W w'))
    (HG : Hid (∀ W, Below w.heap.size w W → Calls Tryz.prog 14 #[.agg #[.slice ao al acap, .slice co cl ccap]] W fun e w' => e = .returned E ∧ Below W.heap.size W w')) :
    Calls Tryz.prog 63 #[.slice lo ln lcap, .agg #[.slice ao al acap, .slice co cl ccap], .int .i64 u] w fun e w' => e = .returned E ∧ Below w.heap.size w w' := by
  obtain ⟨w1, hw1⟩ : ∃ x, x = w.alloc (.cells #[.slice ao al acap, .slice co cl ccap] 25) := ⟨_, rfl⟩
  have HB1 : Hid (Below w.heap.size w w1) := by unfold Hid; rw [hw1]; exact below_alloc1 _ _
  have HQ : Hid (Blk w1 w.heap.size 25 #[.slice ao al acap, .slice co cl ccap]) := by unfold Hid; rw [hw1]; exact Blk.new _ _ _
  go_enter Tryz.func63, Tryz.ntmps63
  go_upto_region 1 with fail
  rw [← hw1]
  clear hw1
  go_wp2_with fail
  go_at_call 77
  refine (HF.out _ HB1.out).mono ?_
  rintro e w2 ⟨rfl, hb⟩
  have HB2 : Hid (Below w.heap.size w w2) := HB1.out.trans (hb.mono HB1.out.size)
  have y0 : w2.cell? ⟨w.heap.size, 0, none⟩ = some (.slice ao al acap) := (HQ.out.below hb).cell 0
  have y1 : w2.cell? ⟨w.heap.size, 1, none⟩ = some (.slice co cl ccap) := (HQ.out.below hb).cell 1
  clear hb
  go_wp2_with fail
  go_at_call 14
  refine (HG.out _ HB2.out).mono ?_
  rintro e w3 ⟨rfl, hb⟩
  have HB3 : Hid (Below w.heap.size w w3) := HB2.out.trans (hb.mono HB2.out.size)
  clear hb y0 y1
  go_wp2
  go_ret
  exact ⟨rfl, HB3.out⟩
/-- what is wrong with some formulas, with how many things there are, or with what is asked. -/
theorem askCheck_any (v va vc : Value) (fs : List Fm) (ats : List At) (c : List Int) (u : Int) (w : World) (hF : ReadsF w v fs) (hA : ReadsA w va ats) (hC : Reads w vc c) (hK : KindsLaid w) :
    Calls Tryz.prog 63 #[v, .agg #[va, vc], .int .i64 u] w fun e w' => e = .returned (errV (askCheckN fs ats c u)) ∧ Below w.heap.size w w' := by
  have hL := fun W (hW : Below w.heap.size w W) => coreCheck_any v fs u W (hF.below hW) (hK.below hW)
  have hG := fun W (hW : Below w.heap.size w W) => fcheck_any va vc ats c W (hA.below hW) (hC.below hW) (hK.below hW)
  obtain ⟨lo, lcap, rfl, _⟩ := hF.slice
  obtain ⟨ao, acap, rfl, _⟩ := hA.slice
  obtain ⟨co, ccap, rfl, _⟩ := hC.slice
  unfold askCheckN
  by_cases h : formsFault fs u = 0
  · rw [if_pos h]
    rw [h] at hL
    exact askcheck_good lo _ lcap ao _ acap co _ ccap u _ w hL hG
  · rw [if_neg h, errV_no h]
    rw [errV_no h] at hL
    exact askcheck_forms lo _ lcap ao _ acap co _ ccap u _ w hL

/-- the answer by what was seen: whether it holds in one, and whether it does not in one. -/
def seenN (h f : Bool) : Int := if h = true then (if f = true then 0 else 1) else (if f = true then -1 else 0)
def seenE (h f : Bool) : Int := if (h || f) = true then 0 else 6
theorem seenAnswer_any (h f : Bool) (w : World) : Calls Tryz.prog 65 #[.agg #[.bool h, .bool f]] w fun e w' => e = .returned (.tuple #[.int .i64 (seenN h f), errV (seenE h f)]) ∧ Below w.heap.size w w' := by
  cases h <;> cases f
  · show Calls _ _ _ _ fun e w' => e = .returned (.tuple #[.int .i64 0, .iface 75 (.int .i64 6)]) ∧ _
    go_enter Tryz.func65, Tryz.ntmps65
    go_wp2
    go_ret2
    exact ⟨rfl, below_alloc1 _ _⟩
  · show Calls _ _ _ _ fun e w' => e = .returned (.tuple #[.int .i64 (-1), .nilIface]) ∧ _
    go_enter Tryz.func65, Tryz.ntmps65
    go_wp2
    go_ret2
    exact ⟨rfl, below_alloc1 _ _⟩
  · show Calls _ _ _ _ fun e w' => e = .returned (.tuple #[.int .i64 1, .nilIface]) ∧ _
    go_enter Tryz.func65, Tryz.ntmps65
    go_wp2
    go_ret2
    exact ⟨rfl, below_alloc1 _ _⟩
  · show Calls _ _ _ _ fun e w' => e = .returned (.tuple #[.int .i64 0, .nilIface]) ∧ _
    go_enter Tryz.func65, Tryz.ntmps65
    go_wp2
    go_ret2
    exact ⟨rfl, below_alloc1 _ _⟩
theorem seen_is {p : Int × Int} (h : 0 ≤ p.1 ∧ 0 ≤ p.2) : seenN (decide (¬ p.1 = 0)) (decide (¬ p.2 = 0)) = (if p.1 + p.2 = 0 then 0 else answerN p) ∧ seenE (decide (¬ p.1 = 0)) (decide (¬ p.2 = 0)) = if p.1 + p.2 = 0 then 6 else 0 := by
  unfold seenN seenE answerN
  by_cases h1 : p.1 = 0 <;> by_cases h2 : p.2 = 0 <;> simp [h1, h2] <;> omega

set_option maxHeartbeats 8000000 in
theorem allHold_any (v : Value) (fs : List Fm) (hgood : ∀ f ∈ fs, f.fault = 0) (D : Wd) (hok : D.ok = true) (w : World) (hF : ReadsF w v fs) (hK : KindsLaid w) :
    Calls Tryz.prog 103 #[v, .agg #[.int .i64 D.u, .int .i64 D.a, .int .i64 D.b, .int .i64 D.c]] w fun e w' => e = .returned (.tuple #[.bool (D.so fs), .nilIface]) ∧ Below w.heap.size w w' := by
  obtain ⟨lo, lcap, rfl, hl63⟩ := hF.slice
  have HF : Hid (ReadsF w (.slice lo fs.length lcap) fs) := hF
  obtain ⟨L, hL⟩ : ∃ L : Nat → Bool, L = fun j => match fs[j]? with | some f => D.formIs f.ats f.c | none => false := ⟨_, rfl⟩
  have HHo : Hid (∀ (k : Nat) f va vc W, fs[k]? = some f → Below w.heap.size w W → ReadsA W va f.ats → Reads W vc f.c → Calls Tryz.prog 76 #[.agg #[va, vc], .agg #[.int .i64 D.u, .int .i64 D.a, .int .i64 D.b, .int .i64 D.c]] W fun e w' => e = .returned (.tuple #[.bool (L k), .nilIface]) ∧ Below W.heap.size W w') := fun k f va vc W hf hW hA hC => by
    have h := fholds_any va vc f.ats f.c D.u D.a D.b D.c W hA hC (hK.below hW)
    have e : (Wd.mk D.u D.a D.b D.c).formFault f.ats f.c = 0 := wdForm_zero.2 ⟨hgood f (List.mem_of_getElem? hf), hok⟩
    rw [e] at h
    have eL : L k = D.formIs f.ats f.c := by rw [hL]; show (match fs[k]? with | some f => D.formIs f.ats f.c | none => false) = _; rw [hf]
    rw [eL]
    exact h
  have HNo : Hid (∀ k, k < fs.length → L k = false → D.so fs = false) := fun k hk h => by
    rw [hL] at h
    simp only [List.getElem?_eq_getElem hk] at h
    unfold Wd.so
    rw [List.all_eq_false]
    exact ⟨_, List.getElem_mem hk, by rw [h]; decide⟩
  have HYes : Hid ((∀ j, j < fs.length → L j = true) → D.so fs = true) := fun h => by
    unfold Wd.so
    rw [List.all_eq_true]
    intro f hf
    obtain ⟨i, hi⟩ := List.mem_iff_getElem?.1 hf
    have := h i (List.getElem?_eq_some_iff.1 hi).1
    rw [hL] at this
    simp only [hi] at this
    exact this
  obtain ⟨S, hS⟩ : ∃ S, S = D.so fs := ⟨_, rfl⟩
  rw [← hS] at HNo HYes ⊢
  obtain ⟨n, hn⟩ : ∃ n, n = fs.length := ⟨_, rfl⟩
  rw [← hn] at HF hl63 HNo HYes ⊢
  have HN : Hid (n = fs.length) := hn
  obtain ⟨w1, hw1⟩ : ∃ w1, w1 = w.alloc (.cells #[.int .i64 D.u, .int .i64 D.a, .int .i64 D.b, .int .i64 D.c] 34) := ⟨_, rfl⟩
  have HB1 : Hid (Below w.heap.size w w1) := by unfold Hid; rw [hw1]; exact below_alloc1 _ _
  have HQ1 : Hid (Blk w1 w.heap.size 34 (arrW D)) := by unfold Hid; rw [hw1]; exact Blk.new _ _ _
  clear hF hL hS hn hgood hok hK
  go_enter Tryz.func103, Tryz.ntmps103
  go_wp2
  rw [← hw1]
  clear hw1
  go_loopw [12] (fun i wr => ∃ k : Nat, k ≤ n ∧ i = .int .i64 k ∧ Below w1.heap.size w1 wr ∧ Hid (∀ j, j < k → L j = true)) (fun i _ => n - (intOf i).toNat)
  case atStart => exact ⟨0, Nat.zero_le _, rfl, Below.refl _ _, fun j hj => by omega⟩
  case round =>
    obtain ⟨k, hk, rfl, hbr, HSo⟩ := hrel
    have HBr : Hid (Below w1.heap.size w1 wr) := hbr
    have HBw : Hid (Below w.heap.size w wr) := HB1.out.trans (hbr.mono HB1.out.size)
    clear hbr
    by_cases hlt : k < n
    · obtain ⟨f, hf⟩ : ∃ f, fs[k]? = some f := ⟨_, List.getElem?_eq_getElem (by rw [← HN.out]; exact hlt)⟩
      obtain ⟨bL, oL, cL, hv⟩ := HF.out.place (by rw [← HN.out]; omega)
      obtain ⟨hlo, hx1, hx2⟩ := Value.slice.inj hv
      clear hx1 hx2
      subst hlo
      obtain ⟨hbL, va, vc, c0, c1, hA, hC⟩ := HF.out.at hf
      obtain ⟨ao, acap, rfl, _⟩ := hA.slice
      obtain ⟨co, ccap, rfl, _⟩ := hC.slice
      have x0 : wr.cell? ⟨bL, oL + k * 2, none⟩ = some (.slice ao f.ats.length acap) := (HBw.out.cell hbL).trans c0
      have x1 : wr.cell? ⟨bL, oL + k * 2 + 1, none⟩ = some (.slice co f.c.length ccap) := (HBw.out.cell hbL).trans c1
      have HH1 : Hid (∀ W, Below wr.heap.size wr W → Calls Tryz.prog 76 #[.agg #[.slice ao f.ats.length acap, .slice co f.c.length ccap], .agg #[.int .i64 D.u, .int .i64 D.a, .int .i64 D.b, .int .i64 D.c]] W fun e w' => e = .returned (.tuple #[.bool (L k), .nilIface]) ∧ Below w1.heap.size w1 w') := fun W hW => by
        have hb' := HBw.out.trans (hW.mono HBw.out.size)
        have hb1 := HBr.out.trans (hW.mono HBr.out.size)
        exact (HHo.out k f _ _ W hf hb' (hA.below hb') (hC.below hb')).mono fun e w' ⟨he, hb⟩ => ⟨he, hb1.trans (hb.mono hb1.size)⟩
      obtain ⟨al, hal⟩ : ∃ x, x = f.ats.length := ⟨_, rfl⟩
      obtain ⟨cl, hcl⟩ : ∃ x, x = f.c.length := ⟨_, rfl⟩
      rw [← hal] at x0 HH1
      rw [← hcl] at x1 HH1
      obtain ⟨wf, hwf⟩ : ∃ x, x = wr.alloc (.cells #[.slice ao al acap, .slice co cl ccap] 25) := ⟨_, rfl⟩
      have HBf : Hid (Below wr.heap.size wr wf) := by unfold Hid; rw [hwf]; exact below_alloc1 _ _
      have HQf : Hid (Blk wf wr.heap.size 25 #[.slice ao al acap, .slice co cl ccap]) := by unfold Hid; rw [hwf]; exact Blk.new _ _ _
      have HH2 : Hid (Calls Tryz.prog 76 #[.agg #[.slice ao al acap, .slice co cl ccap], .agg #[.int .i64 D.u, .int .i64 D.a, .int .i64 D.b, .int .i64 D.c]] wf fun e w' => e = .returned (.tuple #[.bool (L k), .nilIface]) ∧ Below w1.heap.size w1 w') := HH1.out _ HBf.out
      clear hf hv hbL c0 c1 hA hC hal hcl HH1
      have hkn : (k : Int) < (n : Int) := by omega
      obtain ⟨q, hq⟩ : ∃ q, q = L k := ⟨_, rfl⟩
      have HQ : Hid (L k = q) := hq.symm
      rw [← hq] at HH2
      clear hq
      go_upto_region 4 with fail
      rw [← hwf]
      clear hwf x0 x1
      have y0 : wf.cell? ⟨wr.heap.size, 0, none⟩ = some (.slice ao al acap) := HQf.out.cell 0
      have y1 : wf.cell? ⟨wr.heap.size, 1, none⟩ = some (.slice co cl ccap) := HQf.out.cell 1
      obtain ⟨d0, d1, d2, d3⟩ := ((HQ1.out.below HBr.out).below HBf.out).cells4
      go_wp2_with fail
      go_at_call 76
      refine HH2.out.mono ?_
      rintro e w8 ⟨rfl, hb8⟩
      have HB8 : Hid (Below w1.heap.size w1 w8) := hb8
      clear hb8 y0 y1 d0 d1 d2 d3
      cases q with
      | true =>
        go_wp2
        go_roundw
        case rel =>
          refine ⟨k + 1, by omega, by go_num, HB8.out, fun j hj => ?_⟩
          by_cases e : j = k
          · subst e; exact HQ.out
          · exact HSo.out j (by omega)
        case measure => simp [intOf]; omega
      | false =>
        have HR : Hid (S = false) := HNo.out k hlt HQ.out
        go_wp2
        go_ret2
        exact ⟨by first | (rw [HR.out]; done) | (rw [HR.out]; rfl), HB1.out.trans (HB8.out.mono HB1.out.size)⟩
    · obtain rfl : k = n := by omega
      have HR : Hid (S = true) := HYes.out HSo.out
      clear hlt
      go_wp2
      go_ret2
      exact ⟨by first | (rw [HR.out]; done) | (rw [HR.out]; rfl), HBw.out⟩
end Go.Proofs.YtjaedfjfcghgcabGreatDoor

