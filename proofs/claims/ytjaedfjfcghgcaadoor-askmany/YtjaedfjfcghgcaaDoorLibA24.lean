/-
  Proved: what ask.look returns, of right formulas and a right number of things; what was in memory is as it was (a contract that the statements of chapter 18 lean on).
  Proved: what ask.Of and ask.Always return, of any formulas, any other one and any number of things; what was in memory is as it was (contracts that the statements lean on).
-/
import Derived.Test.YtjaedfjfcghgcaaDoorLibA23
import Derived.Test.YtjaedfjfcghgcaaDoorLibA20
import Derived.Test.YtjaedfjfcghgcaaDoorLibA19
import Derived.Laws.ResultCell
namespace Go.Proofs.YtjaedfjfcghgcaaDoor
open Go.ChangeShapes Go.WideShapes Go.ChangeAt Go.RowKit
set_option maxRecDepth 100000
attribute [local go_sem] Oper.semAt_some

/-- what was seen, as a block of memory. -/
def arrS (p : Bool × Bool) : Array Value := #[.bool p.1, .bool p.2]
theorem putS_blk {w : World} {R : Nat} {T : TypeId} {q : Bool × Bool} (h : Blk w R T (arrS q)) (p : Bool × Bool) : Blk ((w.setCell ⟨R, 0, none⟩ (.bool p.1)).setCell ⟨R, 1, none⟩ (.bool p.2)) R T (arrS p) := by
  have := (h.set 0 (.bool p.1)).set 1 (.bool p.2)
  have e : ((arrS q).setIfInBounds 0 (.bool p.1)).setIfInBounds 1 (.bool p.2) = arrS p := by simp [arrS]
  rw [e] at this
  exact this
theorem loadSn {W : World} {R : Nat} {p : Bool × Bool} (h : Blk W R 79 (arrS p)) : (loadVar 79 ⟨R, 0, none⟩).run Tryd.prog W = .ok (.agg (arrS p)) W := by
  have hl := run_loadCells_list (P := Tryd.prog) W ⟨R, 0, none⟩ (arrS p).toList (fun j v hj => by
    have := h.cell j
    rw [← Array.getElem?_toList] at this
    rw [hj] at this
    have ha : (⟨R, 0, none⟩ : Addr).add j = ⟨R, j, none⟩ := by unfold Addr.add; split <;> simp_all
    rw [ha]; exact this)
  simp [loadVar, Tryd.isAgg79, Tryd.sizeOf79, Result.andThen, arrS] at hl ⊢
  simp [hl]

set_option maxHeartbeats 4000000 in
theorem look_right (lo : Option Addr) (ln lcap : Nat) (ao : Option Addr) (al acap : Nat) (co : Option Addr) (cl ccap : Nat) (n : Nat) (hn : n ≤ 6) (D : (Nat → Int) → Wd) (p q : (Nat → Int) → Bool) (P : Nat → Bool × Bool) (R : Bool × Bool) (w : World)
    (hC : ∀ (M : Nat → Int) W, M ∈ everyC n → Calls Tryd.prog 51 #[.agg #[.int .i64 (M 0), .int .i64 (M 1), .int .i64 (M 2), .int .i64 (M 3), .int .i64 (M 4), .int .i64 (M 5), .int .i64 (M 6), .int .i64 (M 7)]] W fun e w' => e = .returned (.tuple #[.agg #[.int .i64 (D M).u, .int .i64 (D M).a, .int .i64 (D M).b, .int .i64 (D M).c], .nilIface]) ∧ Below W.heap.size W w')
    (hH : ∀ (M : Nat → Int) W, M ∈ everyC n → Below w.heap.size w W → Calls Tryd.prog 66 #[.slice lo ln lcap, .agg #[.int .i64 (D M).u, .int .i64 (D M).a, .int .i64 (D M).b, .int .i64 (D M).c]] W fun e w' => e = .returned (.tuple #[.bool (p M), .nilIface]) ∧ Below W.heap.size W w')
    (hQ : ∀ (M : Nat → Int) W, M ∈ everyC n → Below w.heap.size w W → Calls Tryd.prog 16 #[.agg #[.slice ao al acap, .slice co cl ccap], .agg #[.int .i64 (D M).u, .int .i64 (D M).a, .int .i64 (D M).b, .int .i64 (D M).c]] W fun e w' => e = .returned (.tuple #[.bool (q M), .nilIface]) ∧ Below W.heap.size W w')
    (h0 : P 0 = (false, false)) (h1 : ∀ (k : Nat) (M : Nat → Int), (everyC n)[k]? = some M → P (k + 1) = if p M = true then ((P k).1 || q M, (P k).2 || !q M) else P k)
    (hR : R = P (everyC n).length) :
    Calls Tryd.prog 42 #[.slice lo ln lcap, .agg #[.slice ao al acap, .slice co cl ccap], .int .i64 n] w fun e w' => e = .returned (.tuple #[.agg (arrS R), .nilIface]) ∧ Below w.heap.size w w' := by
  obtain ⟨A, hA⟩ : ∃ A, A = everyC n := ⟨_, rfl⟩
  have HC : Hid (∀ (k : Nat) (M : Nat → Int) W, A[k]? = some M → Calls Tryd.prog 51 #[.agg #[.int .i64 (M 0), .int .i64 (M 1), .int .i64 (M 2), .int .i64 (M 3), .int .i64 (M 4), .int .i64 (M 5), .int .i64 (M 6), .int .i64 (M 7)]] W fun e w' => e = .returned (.tuple #[.agg #[.int .i64 (D M).u, .int .i64 (D M).a, .int .i64 (D M).b, .int .i64 (D M).c], .nilIface]) ∧ Below W.heap.size W w') := fun k M W hM => hC M W (by rw [hA] at hM; exact List.mem_of_getElem? hM)
  have HF : Hid (∀ (k : Nat) (M : Nat → Int) W, A[k]? = some M → Below w.heap.size w W → Calls Tryd.prog 66 #[.slice lo ln lcap, .agg #[.int .i64 (D M).u, .int .i64 (D M).a, .int .i64 (D M).b, .int .i64 (D M).c]] W fun e w' => e = .returned (.tuple #[.bool (p M), .nilIface]) ∧ Below W.heap.size W w') := fun k M W hM hW => hH M W (by rw [hA] at hM; exact List.mem_of_getElem? hM) hW
  have HQ : Hid (∀ (k : Nat) (M : Nat → Int) W, A[k]? = some M → Below w.heap.size w W → Calls Tryd.prog 16 #[.agg #[.slice ao al acap, .slice co cl ccap], .agg #[.int .i64 (D M).u, .int .i64 (D M).a, .int .i64 (D M).b, .int .i64 (D M).c]] W fun e w' => e = .returned (.tuple #[.bool (q M), .nilIface]) ∧ Below W.heap.size W w') := fun k M W hM hW => hQ M W (by rw [hA] at hM; exact List.mem_of_getElem? hM) hW
  have HS : Hid (∀ Bu W, W.cell? ⟨Bu, 0, none⟩ = some (.int .i64 n) → SeqG 2 Tryd.prog 73 #[.pointer (some ⟨Bu, 0, none⟩)] enc8 A W) := fun Bu W hB => by rw [hA]; exact iter_any n hn 2 (by omega) Bu W hB
  have HP0 : Hid (P 0 = (false, false)) := h0
  rw [← hA] at h1 hR
  have HP1 : Hid (∀ (k : Nat) (M : Nat → Int), A[k]? = some M → P (k + 1) = if p M = true then ((P k).1 || q M, (P k).2 || !q M) else P k) := h1
  have HR : Hid (R = P A.length) := hR
  clear hA hC hH hQ h0 h1 hR
  obtain ⟨hs1, b0, b1, b2, b3, b4, hB1⟩ := five_new w (.cells #[.slice lo ln lcap] 22) (.cells #[.slice ao al acap, .slice co cl ccap] 42) (.cells #[.bool false, .bool false] 79) (.cells #[.nilIface] 26) (.cells #[.bool false, .bool false] 79)
  obtain ⟨w1, hw1⟩ : ∃ x, x = ((((w.alloc (.cells #[.slice lo ln lcap] 22)).alloc (.cells #[.slice ao al acap, .slice co cl ccap] 42)).alloc (.cells #[.bool false, .bool false] 79)).alloc (.cells #[.nilIface] 26)).alloc (.cells #[.bool false, .bool false] 79) := ⟨_, rfl⟩
  rw [← hw1] at hs1 b0 b1 b2 b3 b4 hB1
  have HB1 : Hid (Below w.heap.size w w1) := hB1
  have I0 : Hid (Blk w1 w.heap.size 22 #[.slice lo ln lcap]) := b0
  have I1 : Hid (Blk w1 (w.heap.size + 1) 42 #[.slice ao al acap, .slice co cl ccap]) := b1
  have I2 : Hid (Blk w1 (w.heap.size + 1 + 1) 79 (arrS (false, false))) := b2
  have I3 : Hid (Blk w1 (w.heap.size + 1 + 1 + 1) 26 #[.nilIface]) := b3
  have I4 : Hid (Blk w1 (w.heap.size + 1 + 1 + 1 + 1) 79 (arrS (P 0))) := by unfold Hid; rw [HP0.out]; exact b4
  obtain ⟨G, hG⟩ : ∃ G, G = w1.heap.size := ⟨_, rfl⟩
  have HG : Hid (G = w.heap.size + 5) := by unfold Hid; rw [hG]; exact hs1
  clear hs1 b0 b1 b2 b3 b4 hB1
  refine (callsIn_wide (n := 3)).1 ?_
  refine callsIn_of_wp_marks Tryd.func42 rfl trivial ?_ rfl
  simp only [Tryd.ntmps42, List.size_toArray, List.length_cons, List.length_nil, Nat.reduceAdd, Nat.reduceSub, Array.replicate_succ, Array.replicate_zero, List.push_toArray, List.append_toArray, List.nil_append, List.cons_append]
  gi_upto_region 2 with fail
  rw [← hw1]
  clear hw1
  gi_wp2_with fail
  refine ⟨trivial, ?_⟩
  gi_at_call 50
  refine (callsIn_wide.2 (fitAll_any _ _)).mono ?_
  rintro e w4 ⟨rfl, rfl⟩
  gi_wp2_with fail
  obtain ⟨wl, hwl⟩ : ∃ x, x = w1.alloc (.cells #[.int .i64 n] 3) := ⟨_, rfl⟩
  have HB0 : Hid (Below w.heap.size w wl) := by unfold Hid; rw [hwl]; exact HB1.out.alloc HB1.out.size _
  have Hsz : Hid (wl.heap.size = G + 1) := by unfold Hid; rw [hwl, hG, World.size_alloc]
  have H0 : Hid (Blk wl w.heap.size 22 #[.slice lo ln lcap]) := by unfold Hid; rw [hwl]; exact I0.out.old _
  have H1 : Hid (Blk wl (w.heap.size + 1) 42 #[.slice ao al acap, .slice co cl ccap]) := by unfold Hid; rw [hwl]; exact I1.out.old _
  have H2 : Hid (Blk wl (w.heap.size + 1 + 1) 79 (arrS (false, false))) := by unfold Hid; rw [hwl]; exact I2.out.old _
  have H3 : Hid (Blk wl (w.heap.size + 1 + 1 + 1) 26 #[.nilIface]) := by unfold Hid; rw [hwl]; exact I3.out.old _
  have H4 : Hid (Blk wl (w.heap.size + 1 + 1 + 1 + 1) 79 (arrS (P 0))) := by unfold Hid; rw [hwl]; exact I4.out.old _
  have H5 : Hid (Blk wl G 3 #[.int .i64 n]) := by unfold Hid; rw [hwl, hG]; exact Blk.new _ _ _
  rw [← hwl, ← hG]
  clear hwl hG I0 I1 I2 I3 I4
  refine wpIn_range_own (by omega) (gf := 73) (lb := #[.pointer (some ⟨G, 0, none⟩)]) rfl (enters_of Tryd.func73 (by kernel_rfl) rfl) (encs := enc8) (A := A)
    (fun W hW => HS.out _ W ((hW.cell (by rw [Hsz.out]; simp)).trans (H5.out.cell 0))) (fun _ => rfl)
    (fun k W => Below w.heap.size w W ∧ Blk W w.heap.size 22 #[.slice lo ln lcap] ∧ Blk W (w.heap.size + 1) 42 #[.slice ao al acap, .slice co cl ccap] ∧ Blk W (w.heap.size + 1 + 1) 79 (arrS (false, false)) ∧ Blk W (w.heap.size + 1 + 1 + 1) 26 #[.nilIface] ∧ Blk W (w.heap.size + 1 + 1 + 1 + 1) 79 (arrS (P k)))
    (fun _ _ => False)
    (fun k X Y h hb => ⟨h.1.trans (hb.mono (by have := HG.out; rw [Hsz.out]; omega)), h.2.1.keep hb (by have := HG.out; rw [Hsz.out]; omega), h.2.2.1.keep hb (by have := HG.out; rw [Hsz.out]; omega), h.2.2.2.1.keep hb (by have := HG.out; rw [Hsz.out]; omega), h.2.2.2.2.1.keep hb (by have := HG.out; rw [Hsz.out]; omega), h.2.2.2.2.2.keep hb (by have := HG.out; rw [Hsz.out]; omega)⟩)
    (fun _ _ _ h _ => h) ⟨HB0.out, H0.out, H1.out, H2.out, H3.out, H4.out⟩ ?round ?done ?stop
  case round =>
    intro ln' k x W hx hl1 hl2 ⟨hB, c0, c1, c2, c3, c4⟩
    have HX : Hid (A[k]? = some x) := hx
    have Hl1 : Hid (w.heap.size + 6 ≤ ln') := by unfold Hid; have := HG.out; rw [Hsz.out] at hl1; omega
    have Hl2 : Hid (ln' < W.heap.size) := hl2
    have HBk : Hid (Below w.heap.size w W) := hB
    have C0 : Hid (Blk W w.heap.size 22 #[.slice lo ln lcap]) := c0
    have C1 : Hid (Blk W (w.heap.size + 1) 42 #[.slice ao al acap, .slice co cl ccap]) := c1
    have C2 : Hid (Blk W (w.heap.size + 1 + 1) 79 (arrS (false, false))) := c2
    have C3 : Hid (Blk W (w.heap.size + 1 + 1 + 1) 26 #[.nilIface]) := c3
    have C4 : Hid (Blk W (w.heap.size + 1 + 1 + 1 + 1) 79 (arrS (P k))) := c4
    clear hx hl1 hl2 hB c0 c1 c2 c3 c4 H0 H1 H2 H3 H4 H5
    unfold enc8
    gi_wp2
    refine ⟨(Over.refl _ _).alloc _, fun o => ?_⟩
    obtain ⟨W2, hW2⟩ : ∃ X, X = (W.alloc (.cells #[.int .i64 (x 0), .int .i64 (x 1), .int .i64 (x 2), .int .i64 (x 3), .int .i64 (x 4), .int .i64 (x 5), .int .i64 (x 6), .int .i64 (x 7)] 89)).putObj ln' o := ⟨_, rfl⟩
    obtain ⟨Gx, hGx⟩ : ∃ G, G = W.heap.size := ⟨_, rfl⟩
    have HB2 : Hid (Below w.heap.size w W2) := by unfold Hid; rw [hW2]; exact (HBk.out.alloc HBk.out.size _).trans (below_putObj _ _ (by have := Hl1.out; omega))
    have D0 : Hid (Blk W2 w.heap.size 22 #[.slice lo ln lcap]) := by unfold Hid; rw [hW2]; exact (C0.out.old _).putO _ (by have := Hl1.out; omega)
    have D1 : Hid (Blk W2 (w.heap.size + 1) 42 #[.slice ao al acap, .slice co cl ccap]) := by unfold Hid; rw [hW2]; exact (C1.out.old _).putO _ (by have := Hl1.out; omega)
    have D2 : Hid (Blk W2 (w.heap.size + 1 + 1) 79 (arrS (false, false))) := by unfold Hid; rw [hW2]; exact (C2.out.old _).putO _ (by have := Hl1.out; omega)
    have D3 : Hid (Blk W2 (w.heap.size + 1 + 1 + 1) 26 #[.nilIface]) := by unfold Hid; rw [hW2]; exact (C3.out.old _).putO _ (by have := Hl1.out; omega)
    have D4 : Hid (Blk W2 (w.heap.size + 1 + 1 + 1 + 1) 79 (arrS (P k))) := by unfold Hid; rw [hW2]; exact (C4.out.old _).putO _ (by have := Hl1.out; omega)
    have D8 : Hid (Blk W2 Gx 89 (arr8 x)) := by unfold Hid; rw [hW2, hGx]; exact (Blk.new _ _ _).putO _ (by have := Hl2.out; omega)
    rw [← hW2, ← hGx]
    clear hW2 hGx C0 C1 C2 C3 C4
    have HFk : Hid (∀ W, Below w.heap.size w W → Calls Tryd.prog 66 #[.slice lo ln lcap, .agg #[.int .i64 (D x).u, .int .i64 (D x).a, .int .i64 (D x).b, .int .i64 (D x).c]] W fun e w' => e = .returned (.tuple #[.bool (p x), .nilIface]) ∧ Below W.heap.size W w') := fun W => HF.out k x W HX.out
    have HM : Hid (P (k + 1) = if p x = true then ((P k).1 || q x, (P k).2 || !q x) else P k) := HP1.out k x HX.out
    have HQk : Hid (∀ W, Below w.heap.size w W → Calls Tryd.prog 16 #[.agg #[.slice ao al acap, .slice co cl ccap], .agg #[.int .i64 (D x).u, .int .i64 (D x).a, .int .i64 (D x).b, .int .i64 (D x).c]] W fun e w' => e = .returned (.tuple #[.bool (q x), .nilIface]) ∧ Below W.heap.size W w') := fun W => HQ.out k x W HX.out
    have HCk : Hid (Calls Tryd.prog 51 #[.agg #[.int .i64 (x 0), .int .i64 (x 1), .int .i64 (x 2), .int .i64 (x 3), .int .i64 (x 4), .int .i64 (x 5), .int .i64 (x 6), .int .i64 (x 7)]] W2 fun e w' => e = .returned (.tuple #[.agg #[.int .i64 (D x).u, .int .i64 (D x).a, .int .i64 (D x).b, .int .i64 (D x).c], .nilIface]) ∧ Below W2.heap.size W2 w') := HC.out k x W2 HX.out
    obtain ⟨g, hg⟩ : ∃ g, g = p x := ⟨_, rfl⟩
    obtain ⟨m, hm⟩ : ∃ m, m = q x := ⟨_, rfl⟩
    obtain ⟨⟨a, b⟩, hp⟩ : ∃ r, r = P k := ⟨_, rfl⟩
    obtain ⟨E, hE⟩ : ∃ E, E = D x := ⟨_, rfl⟩
    rw [← hg] at HFk HM
    rw [← hm] at HM HQk
    rw [← hp] at HM D4
    rw [← hE] at HFk HQk HCk
    clear hg hm hp hE
    obtain ⟨x0, x1, x2, x3, x4, x5, x6, x7⟩ := D8.out.cells8
    gi_wp2_with fail
    refine ⟨trivial, ?_⟩
    gi_at_call 51
    refine (CallsIn.inRound ln' (callsIn_wide.2 HCk.out)).mono ?_
    rintro e W3 ⟨rfl, hb3⟩
    have HB3 : Hid (Below w.heap.size w W3) := HB2.out.trans (hb3.mono HB2.out.size)
    have E0 : Hid (Blk W3 w.heap.size 22 #[.slice lo ln lcap]) := D0.out.below hb3
    have E1 : Hid (Blk W3 (w.heap.size + 1) 42 #[.slice ao al acap, .slice co cl ccap]) := D1.out.below hb3
    have E2 : Hid (Blk W3 (w.heap.size + 1 + 1) 79 (arrS (false, false))) := D2.out.below hb3
    have E3 : Hid (Blk W3 (w.heap.size + 1 + 1 + 1) 26 #[.nilIface]) := D3.out.below hb3
    have E4 : Hid (Blk W3 (w.heap.size + 1 + 1 + 1 + 1) 79 (arrS (a, b))) := D4.out.below hb3
    have HO3 : Hid (Over wl.heap.size W2 W3) := Over.of_below hb3
    clear hb3 x0 x1 x2 x3 x4 x5 x6 x7 D0 D1 D2 D3 D4 D8
    obtain ⟨W4, hW4⟩ : ∃ X, X = W3.alloc (.cells #[.int .i64 E.u, .int .i64 E.a, .int .i64 E.b, .int .i64 E.c] 37) := ⟨_, rfl⟩
    obtain ⟨Gw, hGw⟩ : ∃ G, G = W3.heap.size := ⟨_, rfl⟩
    have HB4 : Hid (Below w.heap.size w W4) := by unfold Hid; rw [hW4]; exact HB3.out.alloc HB3.out.size _
    have F0 : Hid (Blk W4 w.heap.size 22 #[.slice lo ln lcap]) := by unfold Hid; rw [hW4]; exact E0.out.old _
    have F1 : Hid (Blk W4 (w.heap.size + 1) 42 #[.slice ao al acap, .slice co cl ccap]) := by unfold Hid; rw [hW4]; exact E1.out.old _
    have F2 : Hid (Blk W4 (w.heap.size + 1 + 1) 79 (arrS (false, false))) := by unfold Hid; rw [hW4]; exact E2.out.old _
    have F3 : Hid (Blk W4 (w.heap.size + 1 + 1 + 1) 26 #[.nilIface]) := by unfold Hid; rw [hW4]; exact E3.out.old _
    have F4 : Hid (Blk W4 (w.heap.size + 1 + 1 + 1 + 1) 79 (arrS (a, b))) := by unfold Hid; rw [hW4]; exact E4.out.old _
    have F5 : Hid (Blk W4 Gw 37 (arrW E)) := by unfold Hid; rw [hW4, hGw]; exact Blk.new _ _ _
    have HO4 : Hid (Over wl.heap.size W2 W4) := by unfold Hid; rw [hW4]; exact HO3.out.trans ((Over.refl _ _).alloc _)
    gi_upto_region 5 with fail
    rw [← hW4, ← hGw]
    clear hW4 hGw E0 E1 E2 E3 E4 HB3 HO3
    have e0 : W4.cell? ⟨w.heap.size, 0, none⟩ = some (.slice lo ln lcap) := F0.out.cell 0
    obtain ⟨d0, d1, d2, d3⟩ := F5.out.cells4
    gi_wp2_with fail
    refine ⟨trivial, ?_⟩
    gi_at_call 66
    refine (CallsIn.inRound ln' (callsIn_wide.2 (HFk.out _ HB4.out))).mono ?_
    rintro e W5 ⟨rfl, hb5⟩
    have HB5 : Hid (Below w.heap.size w W5) := HB4.out.trans (hb5.mono HB4.out.size)
    have J0 : Hid (Blk W5 w.heap.size 22 #[.slice lo ln lcap]) := F0.out.below hb5
    have J1 : Hid (Blk W5 (w.heap.size + 1) 42 #[.slice ao al acap, .slice co cl ccap]) := F1.out.below hb5
    have J2 : Hid (Blk W5 (w.heap.size + 1 + 1) 79 (arrS (false, false))) := F2.out.below hb5
    have J3 : Hid (Blk W5 (w.heap.size + 1 + 1 + 1) 26 #[.nilIface]) := F3.out.below hb5
    have J4 : Hid (Blk W5 (w.heap.size + 1 + 1 + 1 + 1) 79 (arrS (a, b))) := F4.out.below hb5
    have J5 : Hid (Blk W5 Gw 37 (arrW E)) := F5.out.below hb5
    have HO5 : Hid (Over wl.heap.size W2 W5) := HO4.out.trans (Over.of_below hb5)
    clear hb5 e0 d0 d1 d2 d3 F0 F1 F2 F3 F4 F5 HB4 HO4
    cases g with
    | true =>
      have HM1 : Hid (P (k + 1) = (a || m, b || !m)) := by unfold Hid; have h := HM.out; rw [if_pos rfl] at h; exact h
      clear HM
      have e1 : W5.cell? ⟨w.heap.size + 1, 0, none⟩ = some (.slice ao al acap) := J1.out.cell 0
      have e2 : W5.cell? ⟨w.heap.size + 1, 1, none⟩ = some (.slice co cl ccap) := J1.out.cell 1
      obtain ⟨d0, d1, d2, d3⟩ := J5.out.cells4
      gi_wp2_with fail
      refine ⟨trivial, ?_⟩
      gi_at_call 16
      refine (CallsIn.inRound ln' (callsIn_wide.2 (HQk.out _ HB5.out))).mono ?_
      rintro e W6 ⟨rfl, hb6⟩
      have HB6 : Hid (Below w.heap.size w W6) := HB5.out.trans (hb6.mono HB5.out.size)
      have K0 : Hid (Blk W6 w.heap.size 22 #[.slice lo ln lcap]) := J0.out.below hb6
      have K1 : Hid (Blk W6 (w.heap.size + 1) 42 #[.slice ao al acap, .slice co cl ccap]) := J1.out.below hb6
      have K2 : Hid (Blk W6 (w.heap.size + 1 + 1) 79 (arrS (false, false))) := J2.out.below hb6
      have K3 : Hid (Blk W6 (w.heap.size + 1 + 1 + 1) 26 #[.nilIface]) := J3.out.below hb6
      have K4 : Hid (Blk W6 (w.heap.size + 1 + 1 + 1 + 1) 79 (arrS (a, b))) := J4.out.below hb6
      have HO6 : Hid (Over wl.heap.size W2 W6) := HO5.out.trans (Over.of_below hb6)
      clear hb6 e1 e2 d0 d1 d2 d3 J0 J1 J2 J3 J4 J5 HB5 HO5
      have s0 : W6.cell? ⟨w.heap.size + 1 + 1 + 1 + 1, 0, none⟩ = some (.bool a) := K4.out.cell 0
      have s1 : W6.cell? ⟨w.heap.size + 1 + 1 + 1 + 1, 1, none⟩ = some (.bool b) := K4.out.cell 1
      have z0 : W6.frozen? ⟨w.heap.size + 1 + 1 + 1 + 1, 0, none⟩ = false := K4.out.frozen 0
      have z1 : W6.frozen? ⟨w.heap.size + 1 + 1 + 1 + 1, 1, none⟩ = false := K4.out.frozen 1
      cases a <;> cases b <;> cases m <;> gi_wp2
      all_goals refine ⟨(HO6.out.setCell (by have := HG.out; rw [Hsz.out]; simp; omega) _).setCell (by have := HG.out; rw [Hsz.out]; simp; omega) _, (HB6.out.setCell (by simp; omega) _).setCell (by simp; omega) _, (K0.out.far (by omega) _ _).far (by omega) _ _, (K1.out.far (by omega) _ _).far (by omega) _ _, (K2.out.far (by omega) _ _).far (by omega) _ _, (K3.out.far (by omega) _ _).far (by omega) _ _, ?_⟩
      all_goals show Blk _ _ _ (arrS (P (k + 1)))
      all_goals have hM := HM1.out
      all_goals simp only [Bool.or_false, Bool.or_true, Bool.not_true, Bool.not_false] at hM
      all_goals rw [hM]
      all_goals exact putS_blk K4.out (_, _)
    | false =>
      have HM1 : Hid (P (k + 1) = (a, b)) := by unfold Hid; have h := HM.out; rw [if_neg (by decide)] at h; exact h
      clear HM
      gi_wp2
      exact ⟨HO5.out, HB5.out, J0.out, J1.out, J2.out, J3.out, by rw [HM1.out]; exact J4.out⟩
  case done =>
    intro D W hD ⟨hB, c0, c1, c2, c3, c4⟩ hK
    have HD : Hid (w.heap.size + 6 ≤ D) := by unfold Hid; have := HG.out; rw [Hsz.out] at hD; omega
    have HK : Hid (W.heap[D]? = some (.deferred (some []))) := hK
    have HBk : Hid (Below w.heap.size w W) := hB
    rw [← HR.out] at c4
    obtain ⟨a, b⟩ := R
    have C2 : Hid (Blk W (w.heap.size + 1 + 1) 79 (arrS (false, false))) := c2
    have C3 : Hid (Blk W (w.heap.size + 1 + 1 + 1) 26 #[.nilIface]) := c3
    have C4 : Hid (Blk W (w.heap.size + 1 + 1 + 1 + 1) 79 (arrS (a, b))) := c4
    clear hD hB c0 c1 c2 c3 c4 hK H0 H1 H2 H3 H4 H5 HR
    have e1 : W.cell? ⟨w.heap.size + 1 + 1, 0, none⟩ = some (.bool false) := C2.out.cell 0
    have e2 : W.cell? ⟨w.heap.size + 1 + 1, 1, none⟩ = some (.bool false) := C2.out.cell 1
    have z1 : W.frozen? ⟨w.heap.size + 1 + 1, 0, none⟩ = false := C2.out.frozen 0
    have z2 : W.frozen? ⟨w.heap.size + 1 + 1, 1, none⟩ = false := C2.out.frozen 1
    have e3 : W.cell? ⟨w.heap.size + 1 + 1 + 1, 0, none⟩ = some .nilIface := C3.out.cell 0
    have z3 : W.frozen? ⟨w.heap.size + 1 + 1 + 1, 0, none⟩ = false := C3.out.frozen 0
    have e4 : W.cell? ⟨w.heap.size + 1 + 1 + 1 + 1, 0, none⟩ = some (.bool a) := C4.out.cell 0
    have e5 : W.cell? ⟨w.heap.size + 1 + 1 + 1 + 1, 1, none⟩ = some (.bool b) := C4.out.cell 1
    gi_wp2
    have hK' : (((W.setCell ⟨w.heap.size + 1 + 1, 0, none⟩ (.bool a)).setCell ⟨w.heap.size + 1 + 1, 1, none⟩ (.bool b)).setCell ⟨w.heap.size + 1 + 1 + 1, 0, none⟩ .nilIface).heap[D]? = some (.deferred (some [])) := by
      have := HD.out
      rw [Below.heap_setCell _ _ _ _ (by simp; omega), Below.heap_setCell _ _ _ _ (by simp; omega), Below.heap_setCell _ _ _ _ (by simp; omega)]; exact HK.out
    have r1 : Blk (((W.setCell ⟨w.heap.size + 1 + 1, 0, none⟩ (.bool a)).setCell ⟨w.heap.size + 1 + 1, 1, none⟩ (.bool b)).setCell ⟨w.heap.size + 1 + 1 + 1, 0, none⟩ .nilIface) (w.heap.size + 1 + 1) 79 (arrS (a, b)) := (putS_blk C2.out (a, b)).far (by omega) _ _
    have r2 : Blk (((W.setCell ⟨w.heap.size + 1 + 1, 0, none⟩ (.bool a)).setCell ⟨w.heap.size + 1 + 1, 1, none⟩ (.bool b)).setCell ⟨w.heap.size + 1 + 1 + 1, 0, none⟩ .nilIface) (w.heap.size + 1 + 1 + 1) 26 #[.nilIface] := ((C3.out.far (by omega) _ _).far (by omega) _ _).set 0 _
    refine ⟨by simp, .inl ⟨_, _, rfl, run_takeDeferred hK', ?_⟩⟩
    have hd := HD.out
    have l1 := loadSn (r1.putO (.deferred none) (l := D) (by omega))
    have l2 := loadE (r2.putO (.deferred none) (l := D) (by omega))
    refine ⟨.tuple #[.agg (arrS (a, b)), .nilIface], ?_, rfl, ?_⟩
    · rw [results_two rfl]
      simp [asAddr, Result.andThen, l1, l2]
    · exact (((HBk.out.setCell (by simp; omega) _).setCell (by simp; omega) _).setCell (by simp; omega) _).trans (below_putObj _ _ (by omega))
  case stop => exact fun _ _ _ _ _ h => h.elim

/-- whether it holds in one of the worlds in which they do, and whether it does not in one. -/
def seenP (p : Int × Int) : Bool × Bool := (decide (¬ p.1 = 0), decide (¬ p.2 = 0))
theorem look_any (v va vc : Value) (fs : List Fm) (ats : List At) (c : List Int) (n : Nat) (hn : n ≤ 6) (hgood : ∀ f ∈ fs, f.fault = 0) (hf : formFault ats c = 0) (w : World) (hF : ReadsF w v fs) (hA : ReadsA w va ats) (hC : Reads w vc c) (hK : KindsLaid w) :
    Calls Tryd.prog 42 #[v, .agg #[va, vc], .int .i64 n] w fun e w' => e = .returned (.tuple #[.agg (arrS (seenP (askP fs ats c n))), .nilIface]) ∧ Below w.heap.size w w' := by
  have hH := fun (N : Nat → Int) (h0 : countsFault N = 0) W (hW : Below w.heap.size w W) => allHold_any v fs hgood (madeN N 8) (made_ok h0) W (hF.below hW) (hK.below hW)
  have hQ := fun (D : Wd) W (hW : Below w.heap.size w W) => fholds_any va vc ats c D.u D.a D.b D.c W (hA.below hW) (hC.below hW) (hK.below hW)
  obtain ⟨lo, lcap, rfl, _⟩ := hF.slice
  obtain ⟨ao, acap, rfl, _⟩ := hA.slice
  obtain ⟨co, ccap, rfl, _⟩ := hC.slice
  refine look_right lo _ lcap ao _ acap co _ ccap n hn (fun N => madeN N 8) (fun N => (madeN N 8).so fs) (fun N => (madeN N 8).formIs ats c) (fun k => seenP (askOver fs ats c ((worldsL n).take k))) _ w (fun M W hM => ?_) (fun M W hM hW => hH M (everyC_right hn hM) W hW) (fun M W hM hW => ?_) rfl (fun k M hM => ?_) ?_
  · have h := fworld_any M W
    have h0 := everyC_right hn hM
    have e : madeW M = madeN M 8 := by unfold madeW; rw [if_pos h0]
    rw [h0, e] at h
    exact h
  · have h := hQ (madeN M 8) W hW
    have eD : ∀ D : Wd, Wd.mk D.u D.a D.b D.c = D := fun _ => rfl
    have e : (madeN M 8).formFault ats c = 0 := wdForm_zero.2 ⟨hf, made_ok (everyC_right hn hM)⟩
    rw [eD, e] at h
    exact h
  · have hk : (worldsL n)[k]? = some (madeN M 8) := by unfold worldsL; rw [List.getElem?_map, hM]; rfl
    show seenP (askOver fs ats c ((worldsL n).take (k + 1))) = _
    rw [List.take_add_one, hk]
    show seenP (askOver fs ats c ((worldsL n).take k ++ [madeN M 8])) = _
    rw [askOver_add]
    have hr := (ask_range fs ats c ((worldsL n).take k)).1
    obtain ⟨P, hP⟩ : ∃ P, P = askOver fs ats c ((worldsL n).take k) := ⟨_, rfl⟩
    rw [← hP] at hr ⊢
    unfold askStep seenP
    have e1 : ∀ x : Int, 0 ≤ x → ¬ x + 1 = 0 := fun x _ => by omega
    cases (madeN M 8).so fs <;> cases (madeN M 8).formIs ats c <;> simp [e1 _ hr.1, e1 _ hr.2]
  · have el : (worldsL n).take (everyC n).length = worldsL n := by rw [← worldsL_length, List.take_length]
    show _ = seenP (askOver fs ats c ((worldsL n).take (everyC n).length))
    rw [el]
    rfl
end Go.Proofs.YtjaedfjfcghgcaaDoor

namespace Go.Proofs.YtjaedfjfcghgcaaDoor
open Go.ChangeShapes Go.WideShapes Go.ChangeAt Go.RowKit
set_option maxRecDepth 100000

set_option maxHeartbeats 4000000 in
theorem askof_wrong (lo : Option Addr) (ln lcap : Nat) (ao : Option Addr) (al acap : Nat) (co : Option Addr) (cl ccap : Nat) (u m : Int) (w : World)
    (HC : Hid (∀ W, Below w.heap.size w W → Calls Tryd.prog 41 #[.slice lo ln lcap, .agg #[.slice ao al acap, .slice co cl ccap], .int .i64 u] W fun e w' => e = .returned (.iface 64 (.int .i64 m)) ∧ Below W.heap.size W w')) :
    Calls Tryd.prog 21 #[.slice lo ln lcap, .agg #[.slice ao al acap, .slice co cl ccap], .int .i64 u] w fun e w' => e = .returned (.tuple #[.int .i64 0, .iface 64 (.int .i64 m)]) ∧ Below w.heap.size w w' := by
  go_enter Tryd.func21, Tryd.ntmps21
  go_wp2_with fail
  go_at_call 41
  refine (HC.out _ (below_alloc1 _ _)).mono ?_
  rintro e w2 ⟨rfl, hb⟩
  have HB : Hid (Below w.heap.size w w2) := (below_alloc1 w _).trans (hb.mono (by simp))
  clear hb
  go_wp2
  go_ret2
  exact ⟨rfl, HB.out⟩
set_option maxHeartbeats 4000000 in
theorem askof_right (lo : Option Addr) (ln lcap : Nat) (ao : Option Addr) (al acap : Nat) (co : Option Addr) (cl ccap : Nat) (u k : Int) (E : Value) (a b : Bool) (w : World)
    (HC : Hid (∀ W, Below w.heap.size w W → Calls Tryd.prog 41 #[.slice lo ln lcap, .agg #[.slice ao al acap, .slice co cl ccap], .int .i64 u] W fun e w' => e = .returned .nilIface ∧ Below W.heap.size W w'))
    (HL : Hid (∀ W, Below w.heap.size w W → Calls Tryd.prog 42 #[.slice lo ln lcap, .agg #[.slice ao al acap, .slice co cl ccap], .int .i64 u] W fun e w' => e = .returned (.tuple #[.agg #[.bool a, .bool b], .nilIface]) ∧ Below W.heap.size W w'))
    (HA : Hid (∀ W, Calls Tryd.prog 43 #[.agg #[.bool a, .bool b]] W fun e w' => e = .returned (.tuple #[.int .i64 k, E]) ∧ Below W.heap.size W w')) :
    Calls Tryd.prog 21 #[.slice lo ln lcap, .agg #[.slice ao al acap, .slice co cl ccap], .int .i64 u] w fun e w' => e = .returned (.tuple #[.int .i64 k, E]) ∧ Below w.heap.size w w' := by
  obtain ⟨w1, hw1⟩ : ∃ x, x = w.alloc (.cells #[.slice ao al acap, .slice co cl ccap] 42) := ⟨_, rfl⟩
  have HB1 : Hid (Below w.heap.size w w1) := by unfold Hid; rw [hw1]; exact below_alloc1 _ _
  have HQ : Hid (Blk w1 w.heap.size 42 #[.slice ao al acap, .slice co cl ccap]) := by unfold Hid; rw [hw1]; exact Blk.new _ _ _
  go_enter Tryd.func21, Tryd.ntmps21
  go_upto_region 1 with fail
  rw [← hw1]
  clear hw1
  have x0 : w1.cell? ⟨w.heap.size, 0, none⟩ = some (.slice ao al acap) := HQ.out.cell 0
  have x1 : w1.cell? ⟨w.heap.size, 1, none⟩ = some (.slice co cl ccap) := HQ.out.cell 1
  go_wp2_with fail
  go_at_call 41
  refine (HC.out _ HB1.out).mono ?_
  rintro e w2 ⟨rfl, hb⟩
  have HB2 : Hid (Below w.heap.size w w2) := HB1.out.trans (hb.mono HB1.out.size)
  have y0 : w2.cell? ⟨w.heap.size, 0, none⟩ = some (.slice ao al acap) := (HQ.out.below hb).cell 0
  have y1 : w2.cell? ⟨w.heap.size, 1, none⟩ = some (.slice co cl ccap) := (HQ.out.below hb).cell 1
  clear hb x0 x1
  go_wp2_with fail
  go_at_call 42
  refine (HL.out _ HB2.out).mono ?_
  rintro e w3 ⟨rfl, hb⟩
  have HB3 : Hid (Below w.heap.size w w3) := HB2.out.trans (hb.mono HB2.out.size)
  clear hb y0 y1
  obtain ⟨w4, hw4⟩ : ∃ x, x = w3.alloc (.cells #[.bool a, .bool b] 79) := ⟨_, rfl⟩
  obtain ⟨G, hG⟩ : ∃ G, G = w3.heap.size := ⟨_, rfl⟩
  have HB4 : Hid (Below w.heap.size w w4) := by unfold Hid; rw [hw4]; exact HB3.out.alloc HB3.out.size _
  have HS : Hid (Blk w4 G 79 #[.bool a, .bool b]) := by unfold Hid; rw [hw4, hG]; exact Blk.new _ _ _
  go_upto_region 5 with fail
  rw [← hw4, ← hG]
  clear hw4 hG
  have y0 : w4.cell? ⟨G, 0, none⟩ = some (.bool a) := HS.out.cell 0
  have y1 : w4.cell? ⟨G, 1, none⟩ = some (.bool b) := HS.out.cell 1
  go_wp2_with fail
  go_at_call 43
  refine (HA.out _).mono ?_
  rintro e w5 ⟨rfl, hb⟩
  have HB5 : Hid (Below w.heap.size w w5) := HB4.out.trans (hb.mono HB4.out.size)
  clear hb y0 y1
  go_wp2
  go_ret2
  exact ⟨rfl, HB5.out⟩
/-- what some formulas say of another one. -/
theorem askOf_any (v va vc : Value) (fs : List Fm) (ats : List At) (c : List Int) (u : Int) (w : World) (hF : ReadsF w v fs) (hA : ReadsA w va ats) (hC : Reads w vc c) (hK : KindsLaid w) :
    Calls Tryd.prog 21 #[v, .agg #[va, vc], .int .i64 u] w fun e w' => e = .returned (.tuple #[.int .i64 (askN fs ats c u), errV (askFault fs ats c u)]) ∧ Below w.heap.size w w' := by
  have hCk := fun W (hW : Below w.heap.size w W) => askCheck_any v va vc fs ats c u W (hF.below hW) (hA.below hW) (hC.below hW) (hK.below hW)
  have hLo := fun (n : Nat) (hn : n ≤ 6) (hg : ∀ f ∈ fs, f.fault = 0) (hf : formFault ats c = 0) W (hW : Below w.heap.size w W) => look_any v va vc fs ats c n hn hg hf W (hF.below hW) (hA.below hW) (hC.below hW) (hK.below hW)
  obtain ⟨lo, lcap, rfl, _⟩ := hF.slice
  obtain ⟨ao, acap, rfl, _⟩ := hA.slice
  obtain ⟨co, ccap, rfl, _⟩ := hC.slice
  by_cases h0 : askCheckN fs ats c u = 0
  · rw [h0] at hCk
    have hgood : formsFault fs u = 0 ∧ formFault ats c = 0 := by
      unfold askCheckN at h0
      by_cases h1 : formsFault fs u = 0
      · rw [if_pos h1] at h0; exact ⟨h1, h0⟩
      · rw [if_neg h1] at h0; exact absurd h0 h1
    obtain ⟨h1, h2⟩ := hgood
    obtain ⟨_, hg, hu⟩ := forms_zero.1 h1
    obtain ⟨n, rfl⟩ := Int.eq_ofNat_of_zero_le hu.1
    have hn : n ≤ 6 := by omega
    obtain ⟨e1, e2⟩ := seen_is (ask_range fs ats c (worldsL n)).1
    have f2 : askFault fs ats c (n : Int) = seenE (seenP (askP fs ats c n)).1 (seenP (askP fs ats c n)).2 := by
      unfold askFault; rw [if_pos h1, if_pos h2, Int.toNat_natCast]; exact e2.symm
    have f1 : askN fs ats c (n : Int) = seenN (seenP (askP fs ats c n)).1 (seenP (askP fs ats c n)).2 := by
      refine Eq.trans ?_ e1.symm
      unfold askN askFault
      rw [if_pos h1, if_pos h2, Int.toNat_natCast]
      show (if (if (askP fs ats c n).1 + (askP fs ats c n).2 = 0 then (6 : Int) else 0) = 0 then answerN (askP fs ats c n) else 0) = if (askP fs ats c n).1 + (askP fs ats c n).2 = 0 then 0 else answerN (askP fs ats c n)
      by_cases hz : (askP fs ats c n).1 + (askP fs ats c n).2 = 0
      · rw [if_pos hz, if_pos hz, if_neg (by decide)]
      · rw [if_neg hz, if_neg hz, if_pos rfl]
    rw [f1, f2]
    exact askof_right lo _ lcap ao _ acap co _ ccap n _ _ _ _ w hCk (hLo n hn hg h2) fun W => seenAnswer_any _ _ W
  · rw [errV_no h0] at hCk
    have e0 : askFault fs ats c u = askCheckN fs ats c u := by
      unfold askCheckN at h0 ⊢
      unfold askFault
      by_cases h1 : formsFault fs u = 0
      · rw [if_pos h1] at h0 ⊢
        rw [if_pos h1, if_neg h0]
      · rw [if_neg h1, if_neg h1]
    have e1 : askN fs ats c u = 0 := by unfold askN; rw [if_neg (by rw [e0]; exact h0)]
    rw [e0, e1, errV_no h0]
    exact askof_wrong lo _ lcap ao _ acap co _ ccap u _ w hCk

set_option maxHeartbeats 4000000 in
theorem askal_wrong (lo : Option Addr) (ln lcap : Nat) (ao : Option Addr) (al acap : Nat) (co : Option Addr) (cl ccap : Nat) (m : Int) (w : World)
    (HC : Hid (∀ W, Below w.heap.size w W → Calls Tryd.prog 41 #[.slice lo ln lcap, .agg #[.slice ao al acap, .slice co cl ccap], .int .i64 0] W fun e w' => e = .returned (.iface 64 (.int .i64 m)) ∧ Below W.heap.size W w')) :
    Calls Tryd.prog 22 #[.slice lo ln lcap, .agg #[.slice ao al acap, .slice co cl ccap]] w fun e w' => e = .returned (.tuple #[.int .i64 0, .iface 64 (.int .i64 m)]) ∧ Below w.heap.size w w' := by
  go_enter Tryd.func22, Tryd.ntmps22
  go_wp2_with fail
  go_at_call 41
  refine (HC.out _ (below_alloc1 _ _)).mono ?_
  rintro e w2 ⟨rfl, hb⟩
  have HB : Hid (Below w.heap.size w w2) := (below_alloc1 w _).trans (hb.mono (by simp))
  clear hb
  go_wp2
  go_ret2
  exact ⟨rfl, HB.out⟩
set_option maxHeartbeats 8000000 in
theorem askal_right (lo : Option Addr) (ln lcap : Nat) (ao : Option Addr) (al acap : Nat) (co : Option Addr) (cl ccap : Nat) (k : Int) (E : Value) (s P : Nat → Bool × Bool) (w : World)
    (HC : Hid (∀ W, Below w.heap.size w W → Calls Tryd.prog 41 #[.slice lo ln lcap, .agg #[.slice ao al acap, .slice co cl ccap], .int .i64 0] W fun e w' => e = .returned .nilIface ∧ Below W.heap.size W w'))
    (HL : Hid (∀ (n : Nat) W, n < 7 → Below w.heap.size w W → Calls Tryd.prog 42 #[.slice lo ln lcap, .agg #[.slice ao al acap, .slice co cl ccap], .int .i64 n] W fun e w' => e = .returned (.tuple #[.agg #[.bool (s n).1, .bool (s n).2], .nilIface]) ∧ Below W.heap.size W w'))
    (HP0 : Hid (P 0 = (false, false))) (HP : Hid (∀ n, P (n + 1) = ((P n).1 || (s n).1, (P n).2 || (s n).2)))
    (HA : Hid (∀ W, Calls Tryd.prog 43 #[.agg #[.bool (P 7).1, .bool (P 7).2]] W fun e w' => e = .returned (.tuple #[.int .i64 k, E]) ∧ Below W.heap.size W w')) :
    Calls Tryd.prog 22 #[.slice lo ln lcap, .agg #[.slice ao al acap, .slice co cl ccap]] w fun e w' => e = .returned (.tuple #[.int .i64 k, E]) ∧ Below w.heap.size w w' := by
  obtain ⟨w1, hw1⟩ : ∃ x, x = w.alloc (.cells #[.slice ao al acap, .slice co cl ccap] 42) := ⟨_, rfl⟩
  have HB1 : Hid (Below w.heap.size w w1) := by unfold Hid; rw [hw1]; exact below_alloc1 _ _
  have HQ : Hid (Blk w1 w.heap.size 42 #[.slice ao al acap, .slice co cl ccap]) := by unfold Hid; rw [hw1]; exact Blk.new _ _ _
  have Hs1 : Hid (w.heap.size < w1.heap.size) := by unfold Hid; rw [hw1, World.size_alloc]; omega
  go_enter Tryd.func22, Tryd.ntmps22
  go_upto_region 1 with fail
  rw [← hw1]
  clear hw1
  have x0 : w1.cell? ⟨w.heap.size, 0, none⟩ = some (.slice ao al acap) := HQ.out.cell 0
  have x1 : w1.cell? ⟨w.heap.size, 1, none⟩ = some (.slice co cl ccap) := HQ.out.cell 1
  go_wp2_with fail
  go_at_call 41
  refine (HC.out _ HB1.out).mono ?_
  rintro e w2 ⟨rfl, hb⟩
  have HB2 : Hid (Below w.heap.size w w2) := HB1.out.trans (hb.mono HB1.out.size)
  have HQ2 : Hid (Blk w2 w.heap.size 42 #[.slice ao al acap, .slice co cl ccap]) := HQ.out.below hb
  have Hs2 : Hid (w.heap.size < w2.heap.size) := Nat.lt_of_lt_of_le Hs1.out hb.size
  clear hb x0 x1 Hs1
  obtain ⟨w4, hw4⟩ : ∃ x, x = w2.alloc (.cells #[.bool false, .bool false] 79) := ⟨_, rfl⟩
  obtain ⟨G, hG⟩ : ∃ G, G = w2.heap.size := ⟨_, rfl⟩
  have HG : Hid (w.heap.size < G) := by unfold Hid; rw [hG]; exact Hs2.out
  have HB4 : Hid (Below w.heap.size w w4) := by unfold Hid; rw [hw4]; exact HB2.out.alloc HB2.out.size _
  have HQ4 : Hid (Blk w4 w.heap.size 42 #[.slice ao al acap, .slice co cl ccap]) := by unfold Hid; rw [hw4]; exact HQ2.out.old _
  have HS4 : Hid (Blk w4 G 79 (arrS (P 0))) := by unfold Hid; rw [HP0.out, hw4, hG]; exact Blk.new _ _ _
  go_upto_region 5 with fail
  rw [← hw4, ← hG]
  clear hw4 hG HQ2 Hs2
  go_wp2
  go_loopw [17] (fun i wr => ∃ n : Nat, n ≤ 7 ∧ i = .int .i64 n ∧ Below w.heap.size w wr ∧ Blk wr w.heap.size 42 #[.slice ao al acap, .slice co cl ccap] ∧ Blk wr G 79 (arrS (P n))) (fun i _ => 7 - (intOf i).toNat)
  case atStart => exact ⟨0, by omega, rfl, HB4.out, HQ4.out, HS4.out⟩
  case round =>
    obtain ⟨n, hn, rfl, hb, hq, hs⟩ := hrel
    have HBr : Hid (Below w.heap.size w wr) := hb
    have HQr : Hid (Blk wr w.heap.size 42 #[.slice ao al acap, .slice co cl ccap]) := hq
    have HSr : Hid (Blk wr G 79 (arrS (P n))) := hs
    clear hb hq hs HQ4 HS4 HB4
    by_cases hlt : n < 7
    · have HLn : Hid (∀ W, Below w.heap.size w W → Calls Tryd.prog 42 #[.slice lo ln lcap, .agg #[.slice ao al acap, .slice co cl ccap], .int .i64 n] W fun e w' => e = .returned (.tuple #[.agg #[.bool (s n).1, .bool (s n).2], .nilIface]) ∧ Below W.heap.size W w') := fun W => HL.out n W hlt
      have HM : Hid (P (n + 1) = ((P n).1 || (s n).1, (P n).2 || (s n).2)) := HP.out n
      obtain ⟨⟨a, b⟩, hp⟩ : ∃ r, r = P n := ⟨_, rfl⟩
      obtain ⟨⟨x, y⟩, hsn⟩ : ∃ r, r = s n := ⟨_, rfl⟩
      rw [← hp] at HM HSr
      rw [← hsn] at HM HLn
      clear hp hsn
      have hlt' : (n : Int) < 7 := by omega
      have x0 : wr.cell? ⟨w.heap.size, 0, none⟩ = some (.slice ao al acap) := HQr.out.cell 0
      have x1 : wr.cell? ⟨w.heap.size, 1, none⟩ = some (.slice co cl ccap) := HQr.out.cell 1
      go_wp2_with fail
      go_at_call 42
      refine (HLn.out _ HBr.out).mono ?_
      rintro e w5 ⟨rfl, hb⟩
      have HB5 : Hid (Below w.heap.size w w5) := HBr.out.trans (hb.mono HBr.out.size)
      have HQ5 : Hid (Blk w5 w.heap.size 42 #[.slice ao al acap, .slice co cl ccap]) := HQr.out.below hb
      have HS5 : Hid (Blk w5 G 79 (arrS (a, b))) := HSr.out.below hb
      clear hb x0 x1 HBr HQr HSr
      obtain ⟨w6, hw6⟩ : ∃ z, z = w5.alloc (.cells #[.bool x, .bool y] 79) := ⟨_, rfl⟩
      obtain ⟨Gh, hGh⟩ : ∃ G, G = w5.heap.size := ⟨_, rfl⟩
      have HB6 : Hid (Below w.heap.size w w6) := by unfold Hid; rw [hw6]; exact HB5.out.alloc HB5.out.size _
      have HQ6 : Hid (Blk w6 w.heap.size 42 #[.slice ao al acap, .slice co cl ccap]) := by unfold Hid; rw [hw6]; exact HQ5.out.old _
      have HS6 : Hid (Blk w6 G 79 (arrS (a, b))) := by unfold Hid; rw [hw6]; exact HS5.out.old _
      have HH6 : Hid (Blk w6 Gh 79 (arrS (x, y))) := by unfold Hid; rw [hw6, hGh]; exact Blk.new _ _ _
      go_upto_region 9 with fail
      rw [← hw6, ← hGh]
      clear hw6 hGh HB5 HQ5 HS5
      have s0 : w6.cell? ⟨G, 0, none⟩ = some (.bool a) := HS6.out.cell 0
      have s1 : w6.cell? ⟨G, 1, none⟩ = some (.bool b) := HS6.out.cell 1
      have z0 : w6.frozen? ⟨G, 0, none⟩ = false := HS6.out.frozen 0
      have z1 : w6.frozen? ⟨G, 1, none⟩ = false := HS6.out.frozen 1
      have t0 : w6.cell? ⟨Gh, 0, none⟩ = some (.bool x) := HH6.out.cell 0
      have t1 : w6.cell? ⟨Gh, 1, none⟩ = some (.bool y) := HH6.out.cell 1
      cases a <;> cases b <;> cases x <;> cases y <;> go_wp2 <;> go_roundw
      all_goals first
        | (simp [intOf]; omega)
        | skip
      all_goals have hg := HG.out
      all_goals have hM := HM.out
      all_goals simp only [Bool.or_false, Bool.or_true, Bool.or_self] at hM
      all_goals refine ⟨n + 1, by omega, by go_num, (HB6.out.setCell (by simp; omega) _).setCell (by simp; omega) _, (HQ6.out.far (by omega) _ _).far (by omega) _ _, ?_⟩
      all_goals rw [hM]
      all_goals exact putS_blk HS6.out (_, _)
    · obtain rfl : n = 7 := by omega
      clear hlt hn
      obtain ⟨⟨a, b⟩, hp⟩ : ∃ r, r = P 7 := ⟨_, rfl⟩
      rw [← hp] at HSr HA
      clear hp
      have s0 : wr.cell? ⟨G, 0, none⟩ = some (.bool a) := HSr.out.cell 0
      have s1 : wr.cell? ⟨G, 1, none⟩ = some (.bool b) := HSr.out.cell 1
      go_wp2_with fail
      go_at_call 43
      refine (HA.out _).mono ?_
      rintro e w5 ⟨rfl, hb⟩
      have HB5 : Hid (Below w.heap.size w w5) := HBr.out.trans (hb.mono HBr.out.size)
      clear hb s0 s1
      go_wp2
      go_ret2
      exact ⟨rfl, HB5.out⟩
theorem sumP_pos {f : Nat → Int × Int} (h : ∀ k, 0 ≤ (f k).1 ∧ 0 ≤ (f k).2) : ∀ k, 0 ≤ (sumP f k).1 ∧ 0 ≤ (sumP f k).2
  | 0 => ⟨Int.le_refl _, Int.le_refl _⟩
  | k + 1 => ⟨Int.add_nonneg (sumP_pos h k).1 (h k).1, Int.add_nonneg (sumP_pos h k).2 (h k).2⟩
theorem seenP_add {p q : Int × Int} (hp : 0 ≤ p.1 ∧ 0 ≤ p.2) (hq : 0 ≤ q.1 ∧ 0 ≤ q.2) : seenP (p.1 + q.1, p.2 + q.2) = ((seenP p).1 || (seenP q).1, (seenP p).2 || (seenP q).2) := by
  have key : ∀ x y : Int, 0 ≤ x → 0 ≤ y → decide (¬ x + y = 0) = (decide (¬ x = 0) || decide (¬ y = 0)) := fun x y hx hy => by
    by_cases h1 : x = 0 <;> by_cases h2 : y = 0 <;> simp [h1, h2] <;> omega
  unfold seenP
  simp only
  rw [key _ _ hp.1 hq.1, key _ _ hp.2 hq.2]
/-- what some formulas say of another one, whatever the number of things. -/
theorem askAlways_any (v va vc : Value) (fs : List Fm) (ats : List At) (c : List Int) (w : World) (hF : ReadsF w v fs) (hA : ReadsA w va ats) (hC : Reads w vc c) (hK : KindsLaid w) :
    Calls Tryd.prog 22 #[v, .agg #[va, vc]] w fun e w' => e = .returned (.tuple #[.int .i64 (alwaysN fs ats c), errV (alwaysFault fs ats c)]) ∧ Below w.heap.size w w' := by
  have hCk := fun W (hW : Below w.heap.size w W) => askCheck_any v va vc fs ats c 0 W (hF.below hW) (hA.below hW) (hC.below hW) (hK.below hW)
  have hLo := fun (hg : ∀ f ∈ fs, f.fault = 0) (hf : formFault ats c = 0) (n : Nat) W (hn : n < 7) (hW : Below w.heap.size w W) => look_any v va vc fs ats c n (by omega) hg hf W (hF.below hW) (hA.below hW) (hC.below hW) (hK.below hW)
  obtain ⟨lo, lcap, rfl, _⟩ := hF.slice
  obtain ⟨ao, acap, rfl, _⟩ := hA.slice
  obtain ⟨co, ccap, rfl, _⟩ := hC.slice
  by_cases h0 : askCheckN fs ats c 0 = 0
  · rw [h0] at hCk
    have hgood : formsFault fs 0 = 0 ∧ formFault ats c = 0 := by
      unfold askCheckN at h0
      by_cases h1 : formsFault fs 0 = 0
      · rw [if_pos h1] at h0; exact ⟨h1, h0⟩
      · rw [if_neg h1] at h0; exact absurd h0 h1
    obtain ⟨h1, h2⟩ := hgood
    obtain ⟨_, hg, _⟩ := forms_zero.1 h1
    have hp : ∀ k, 0 ≤ (askP fs ats c k).1 ∧ 0 ≤ (askP fs ats c k).2 := fun k => (ask_range fs ats c (worldsL k)).1
    have hS := sumP_pos hp
    obtain ⟨e1, e2⟩ := seen_is (p := alwaysP fs ats c) (hS 7)
    have f2 : alwaysFault fs ats c = seenE (seenP (sumP (askP fs ats c) 7)).1 (seenP (sumP (askP fs ats c) 7)).2 := by
      unfold alwaysFault; rw [if_pos h1, if_pos h2]; exact e2.symm
    have f1 : alwaysN fs ats c = seenN (seenP (sumP (askP fs ats c) 7)).1 (seenP (sumP (askP fs ats c) 7)).2 := by
      refine Eq.trans ?_ e1.symm
      unfold alwaysN alwaysFault
      rw [if_pos h1, if_pos h2]
      by_cases hz : (alwaysP fs ats c).1 + (alwaysP fs ats c).2 = 0
      · rw [if_pos hz, if_pos hz, if_neg (by decide)]
      · rw [if_neg hz, if_neg hz, if_pos rfl]
    rw [f1, f2]
    exact askal_right lo _ lcap ao _ acap co _ ccap _ _ (fun n => seenP (askP fs ats c n)) (fun n => seenP (sumP (askP fs ats c) n)) w hCk (hLo hg h2) rfl (fun n => seenP_add (hS n) (hp n)) fun W => seenAnswer_any _ _ W
  · rw [errV_no h0] at hCk
    have e0 : alwaysFault fs ats c = askCheckN fs ats c 0 := by
      unfold askCheckN at h0 ⊢
      unfold alwaysFault
      by_cases h1 : formsFault fs 0 = 0
      · rw [if_pos h1] at h0 ⊢
        rw [if_pos h1, if_neg h0]
      · rw [if_neg h1, if_neg h1]
    have e1 : alwaysN fs ats c = 0 := by unfold alwaysN; rw [if_neg (by rw [e0]; exact h0)]
    rw [e0, e1, errV_no h0]
    exact askal_wrong lo _ lcap ao _ acap co _ ccap _ w hCk
end Go.Proofs.YtjaedfjfcghgcaaDoor
