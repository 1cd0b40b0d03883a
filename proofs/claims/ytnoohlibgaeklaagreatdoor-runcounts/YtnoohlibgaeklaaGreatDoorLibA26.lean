/-
  Facts and contracts that the statement leans on.
-/
import Derived.Test.YtnoohlibgaeklaaGreatDoorLibA25
import Derived.Test.YtnoohlibgaeklaaGreatDoorLibA20
import Derived.Test.YtnoohlibgaeklaaGreatDoorLibA19
import Derived.Laws.ResultCell
import Derived.Test.YtnoohlibgaeklaaGreatDoorRows
import Derived.Test.YtnoohlibgaeklaaGreatDoorLibA4
import Derived.ProofKit
import Derived.OpenShut
import Derived.LaidLaws
import Derived.Stop.LaidErr
import Derived.Deep.Strs
import Derived.Lib.LaidTab
import Derived.LaidMore
import Derived.Lay
import Derived.LaidHandle
import Derived.Stop.Joined
import Derived.Test.YtnoohlibgaeklaaGreatDoorLibA21
import Derived.Test.YtnoohlibgaeklaaGreatDoorLibA1
import Derived.Carry
import Derived.Lib.SmallJoins
namespace Go.Proofs.YtnoohlibgaeklaaGreatDoor
open Go.ChangeShapes Go.WideShapes Go.ChangeAt Go.RowKit
set_option maxRecDepth 100000
attribute [local go_sem] Oper.semAt_some
def arrS (p : Bool × Bool) : Array Value := #[.bool p.1, .bool p.2]
theorem putS_blk {w : World} {R : Nat} {T : TypeId} {q : Bool × Bool} (h : Blk w R T (arrS q)) (p : Bool × Bool) : Blk ((w.setCell ⟨R, 0, none⟩ (.bool p.1)).setCell ⟨R, 1, none⟩ (.bool p.2)) R T (arrS p) := by
 have := (h.set 0 (.bool p.1)).set 1 (.bool p.2)
 have e : ((arrS q).setIfInBounds 0 (.bool p.1)).setIfInBounds 1 (.bool p.2) = arrS p := by simp [arrS]
 rw [e] at this
 exact this
theorem loadSn {W : World} {R : Nat} {p : Bool × Bool} (h : Blk W R 161 (arrS p)) : (loadVar 161 ⟨R, 0, none⟩).run Tryz.prog W = .ok (.agg (arrS p)) W := by
 have hl := run_loadCells_list (P := Tryz.prog) W ⟨R, 0, none⟩ (arrS p).toList (fun j v hj => by
  have := h.cell j
  rw [← Array.getElem?_toList] at this
  rw [hj] at this
  have ha : (⟨R, 0, none⟩ : Addr).add j = ⟨R, j, none⟩ := by unfold Addr.add; split <;> simp_all
  rw [ha]; exact this)
 simp [loadVar, Tryz.isAgg161, Tryz.sizeOf161, Result.andThen, arrS] at hl ⊢
 simp [hl]
set_option maxHeartbeats 4000000 in
theorem look_right (lo : Option Addr) (ln lcap : Nat) (ao : Option Addr) (al acap : Nat) (co : Option Addr) (cl ccap : Nat) (n : Nat) (hn : n ≤ 6) (D : (Nat → Int) → Wd) (p q : (Nat → Int) → Bool) (P : Nat → Bool × Bool) (R : Bool × Bool) (w : World)
    (hC : ∀ (M : Nat → Int) W, M ∈ everyC n → Calls Tryz.prog 121 #[.agg #[.int .i64 (M 0), .int .i64 (M 1), .int .i64 (M 2), .int .i64 (M 3), .int .i64 (M 4), .int .i64 (M 5), .int .i64 (M 6), .int .i64 (M 7)]] W (Bk W (.tuple #[.agg #[.int .i64 (D M).u, .int .i64 (D M).a, .int .i64 (D M).b, .int .i64 (D M).c], .nilIface])))
    (hH : ∀ (M : Nat → Int) W, M ∈ everyC n → Below w.heap.size w W → Calls Tryz.prog 142 #[.slice lo ln lcap, .agg #[.int .i64 (D M).u, .int .i64 (D M).a, .int .i64 (D M).b, .int .i64 (D M).c]] W (Bk W (.tuple #[.bool (p M), .nilIface])))
    (hQ : ∀ (M : Nat → Int) W, M ∈ everyC n → Below w.heap.size w W → Calls Tryz.prog 122 #[.agg #[.slice ao al acap, .slice co cl ccap], .agg #[.int .i64 (D M).u, .int .i64 (D M).a, .int .i64 (D M).b, .int .i64 (D M).c]] W (Bk W (.tuple #[.bool (q M), .nilIface])))
    (h0 : P 0 = (false, false)) (h1 : ∀ (k : Nat) (M : Nat → Int), (everyC n)[k]? = some M → P (k + 1) = if p M = true then ((P k).1 || q M, (P k).2 || !q M) else P k)
    (hR : R = P (everyC n).length) :
    Calls Tryz.prog 97 #[.slice lo ln lcap, .agg #[.slice ao al acap, .slice co cl ccap], .int .i64 n] w (Bk w (.tuple #[.agg (arrS R), .nilIface])) := by
 obtain ⟨A, hA⟩ := nm (everyC n)
 have HC : Hid (∀ (k : Nat) (M : Nat → Int) W, A[k]? = some M → Calls Tryz.prog 121 #[.agg #[.int .i64 (M 0), .int .i64 (M 1), .int .i64 (M 2), .int .i64 (M 3), .int .i64 (M 4), .int .i64 (M 5), .int .i64 (M 6), .int .i64 (M 7)]] W (Bk W (.tuple #[.agg #[.int .i64 (D M).u, .int .i64 (D M).a, .int .i64 (D M).b, .int .i64 (D M).c], .nilIface]))) := fun k M W hM => hC M W (by rw [hA] at hM; exact List.mem_of_getElem? hM)
 have HF : Hid (∀ (k : Nat) (M : Nat → Int) W, A[k]? = some M → Below w.heap.size w W → Calls Tryz.prog 142 #[.slice lo ln lcap, .agg #[.int .i64 (D M).u, .int .i64 (D M).a, .int .i64 (D M).b, .int .i64 (D M).c]] W (Bk W (.tuple #[.bool (p M), .nilIface]))) := fun k M W hM hW => hH M W (by rw [hA] at hM; exact List.mem_of_getElem? hM) hW
 have HQ : Hid (∀ (k : Nat) (M : Nat → Int) W, A[k]? = some M → Below w.heap.size w W → Calls Tryz.prog 122 #[.agg #[.slice ao al acap, .slice co cl ccap], .agg #[.int .i64 (D M).u, .int .i64 (D M).a, .int .i64 (D M).b, .int .i64 (D M).c]] W (Bk W (.tuple #[.bool (q M), .nilIface]))) := fun k M W hM hW => hQ M W (by rw [hA] at hM; exact List.mem_of_getElem? hM) hW
 have HS : Hid (∀ Bu W, W.cell? ⟨Bu, 0, none⟩ = some (.int .i64 n) → SeqR 2 Tryz.prog 118 #[.pointer (some ⟨Bu, 0, none⟩)] enc8 A W) := fun Bu W hB => by rw [hA]; exact iter_any n hn 2 (by omega) Bu W hB
 have HP0 := hide h0
 rw [← hA] at h1 hR
 have HP1 := hide h1
 have HR := hide hR
 clear hA hC hH hQ h0 h1 hR
 obtain ⟨hs1, b0, b1, b2, b3, b4, hB1⟩ := five_new w (.cells #[.slice lo ln lcap] 25) (.cells #[.slice ao al acap, .slice co cl ccap] 78) (.cells #[.bool false, .bool false] 161) (.cells #[.nilIface] 34) (.cells #[.bool false, .bool false] 161)
 obtain ⟨w1, hw1⟩ := nm (((((w.alloc (.cells #[.slice lo ln lcap] 25)).alloc (.cells #[.slice ao al acap, .slice co cl ccap] 78)).alloc (.cells #[.bool false, .bool false] 161)).alloc (.cells #[.nilIface] 34)).alloc (.cells #[.bool false, .bool false] 161))
 rw [← hw1] at hs1 b0 b1 b2 b3 b4 hB1
 have HB1 := hide hB1
 have I0 : Hid (Blk w1 w.heap.size 25 #[.slice lo ln lcap]) := b0
 have I1 : Hid (Blk w1 (w.heap.size + 1) 78 #[.slice ao al acap, .slice co cl ccap]) := b1
 have I2 : Hid (Blk w1 (w.heap.size + 1 + 1) 161 (arrS (false, false))) := b2
 have I3 : Hid (Blk w1 (w.heap.size + 1 + 1 + 1) 34 #[.nilIface]) := b3
 have I4 : Hid (Blk w1 (w.heap.size + 1 + 1 + 1 + 1) 161 (arrS (P 0))) := by unfold Hid; rw [HP0.out]; exact b4
 obtain ⟨G, hG⟩ := nm w1.heap.size
 have HG : Hid (G = w.heap.size + 5) := by unfold Hid; rw [hG]; exact hs1
 clear hs1 b0 b1 b2 b3 b4 hB1
 refine (callsIn_wide (n := 3)).1 ?_
 refine callsIn_of_wp_marks Tryz.func97 rfl trivial ?_ rfl
 simp only [Tryz.ntmps97, List.size_toArray, List.length_cons, List.length_nil, Nat.reduceAdd, Nat.reduceSub, Array.replicate_succ, Array.replicate_zero, List.push_toArray, List.append_toArray, List.nil_append, List.cons_append]
 gi_upto_region 2 with fail
 rw [← hw1]
 clear hw1
 gi_wp2_with fail
 refine ⟨trivial, ?_⟩
 gi_at_call 80
 refine (callsIn_wide.2 (fitAll_any _ _)).mono ?_
 rintro e w4 ⟨rfl, rfl⟩
 gi_wp2_with fail
 obtain ⟨wl, hwl⟩ := nm (w1.alloc (.cells #[.int .i64 n] 3))
 have HB0 : Hid (Below w.heap.size w wl) := by unfold Hid; rw [hwl]; exact HB1.out.alloc HB1.out.size _
 have Hsz : Hid (wl.heap.size = G + 1) := by unfold Hid; rw [hwl, hG, World.size_alloc]
 have H0 : Hid (Blk wl w.heap.size 25 #[.slice lo ln lcap]) := by unfold Hid; rw [hwl]; exact I0.out.old _
 have H1 : Hid (Blk wl (w.heap.size + 1) 78 #[.slice ao al acap, .slice co cl ccap]) := by unfold Hid; rw [hwl]; exact I1.out.old _
 have H2 : Hid (Blk wl (w.heap.size + 1 + 1) 161 (arrS (false, false))) := by unfold Hid; rw [hwl]; exact I2.out.old _
 have H3 : Hid (Blk wl (w.heap.size + 1 + 1 + 1) 34 #[.nilIface]) := by unfold Hid; rw [hwl]; exact I3.out.old _
 have H4 : Hid (Blk wl (w.heap.size + 1 + 1 + 1 + 1) 161 (arrS (P 0))) := by unfold Hid; rw [hwl]; exact I4.out.old _
 have H5 : Hid (Blk wl G 3 #[.int .i64 n]) := by unfold Hid; rw [hwl, hG]; exact Blk.new _ _ _
 rw [← hwl, ← hG]
 clear hwl hG I0 I1 I2 I3 I4
 refine wpIn_range_own (by omega) (gf := 118) (lb := #[.pointer (some ⟨G, 0, none⟩)]) rfl (enters_of Tryz.func118 (by kernel_rfl) rfl) (encs := enc8) (A := A)
  (fun W hW => HS.out _ W ((hW.cell (by rw [Hsz.out]; simp)).trans (H5.out.cell 0))) (fun _ => rfl)
  (fun k W => Below w.heap.size w W ∧ Blk W w.heap.size 25 #[.slice lo ln lcap] ∧ Blk W (w.heap.size + 1) 78 #[.slice ao al acap, .slice co cl ccap] ∧ Blk W (w.heap.size + 1 + 1) 161 (arrS (false, false)) ∧ Blk W (w.heap.size + 1 + 1 + 1) 34 #[.nilIface] ∧ Blk W (w.heap.size + 1 + 1 + 1 + 1) 161 (arrS (P k)))
  (fun _ _ => False)
  (fun k X Y h hb => ⟨h.1.trans (hb.mono (by have := HG.out; rw [Hsz.out]; omega)), h.2.1.keep hb (by have := HG.out; rw [Hsz.out]; omega), h.2.2.1.keep hb (by have := HG.out; rw [Hsz.out]; omega), h.2.2.2.1.keep hb (by have := HG.out; rw [Hsz.out]; omega), h.2.2.2.2.1.keep hb (by have := HG.out; rw [Hsz.out]; omega), h.2.2.2.2.2.keep hb (by have := HG.out; rw [Hsz.out]; omega)⟩)
  (fun _ _ _ h _ => h) ⟨HB0.out, H0.out, H1.out, H2.out, H3.out, H4.out⟩ ?round ?done ?stop
 case round =>
  intro ln' k x W hx hl1 hl2 ⟨hB, c0, c1, c2, c3, c4⟩
  have HX := hide hx
  have Hl1 : Hid (w.heap.size + 6 ≤ ln') := by unfold Hid; have := HG.out; rw [Hsz.out] at hl1; omega
  have Hl2 := hide hl2
  have HBk := hide hB
  have C0 : Hid (Blk W w.heap.size 25 #[.slice lo ln lcap]) := c0
  have C1 : Hid (Blk W (w.heap.size + 1) 78 #[.slice ao al acap, .slice co cl ccap]) := c1
  have C2 : Hid (Blk W (w.heap.size + 1 + 1) 161 (arrS (false, false))) := c2
  have C3 : Hid (Blk W (w.heap.size + 1 + 1 + 1) 34 #[.nilIface]) := c3
  have C4 : Hid (Blk W (w.heap.size + 1 + 1 + 1 + 1) 161 (arrS (P k))) := c4
  clear hx hl1 hl2 hB c0 c1 c2 c3 c4 H0 H1 H2 H3 H4 H5
  unfold enc8
  gi_wp2
  refine ⟨(Over.refl _ _).alloc _, fun o => ?_⟩
  obtain ⟨W2, hW2⟩ := nm ((W.alloc (.cells #[.int .i64 (x 0), .int .i64 (x 1), .int .i64 (x 2), .int .i64 (x 3), .int .i64 (x 4), .int .i64 (x 5), .int .i64 (x 6), .int .i64 (x 7)] 60)).putObj ln' o)
  obtain ⟨Gx, hGx⟩ := nm W.heap.size
  have HB2 : Hid (Below w.heap.size w W2) := by unfold Hid; rw [hW2]; exact (HBk.out.alloc HBk.out.size _).trans (below_putObj _ _ (by have := Hl1.out; omega))
  have D0 : Hid (Blk W2 w.heap.size 25 #[.slice lo ln lcap]) := by unfold Hid; rw [hW2]; exact (C0.out.old _).putO _ (by have := Hl1.out; omega)
  have D1 : Hid (Blk W2 (w.heap.size + 1) 78 #[.slice ao al acap, .slice co cl ccap]) := by unfold Hid; rw [hW2]; exact (C1.out.old _).putO _ (by have := Hl1.out; omega)
  have D2 : Hid (Blk W2 (w.heap.size + 1 + 1) 161 (arrS (false, false))) := by unfold Hid; rw [hW2]; exact (C2.out.old _).putO _ (by have := Hl1.out; omega)
  have D3 : Hid (Blk W2 (w.heap.size + 1 + 1 + 1) 34 #[.nilIface]) := by unfold Hid; rw [hW2]; exact (C3.out.old _).putO _ (by have := Hl1.out; omega)
  have D4 : Hid (Blk W2 (w.heap.size + 1 + 1 + 1 + 1) 161 (arrS (P k))) := by unfold Hid; rw [hW2]; exact (C4.out.old _).putO _ (by have := Hl1.out; omega)
  have D8 : Hid (Blk W2 Gx 60 (arr8 x)) := by unfold Hid; rw [hW2, hGx]; exact (Blk.new _ _ _).putO _ (by have := Hl2.out; omega)
  rw [← hW2, ← hGx]
  clear hW2 hGx C0 C1 C2 C3 C4
  have HFk : Hid (∀ W, Below w.heap.size w W → Calls Tryz.prog 142 #[.slice lo ln lcap, .agg #[.int .i64 (D x).u, .int .i64 (D x).a, .int .i64 (D x).b, .int .i64 (D x).c]] W (Bk W (.tuple #[.bool (p x), .nilIface]))) := fun W => HF.out k x W HX.out
  have HM := hide (HP1.out k x HX.out)
  have HQk : Hid (∀ W, Below w.heap.size w W → Calls Tryz.prog 122 #[.agg #[.slice ao al acap, .slice co cl ccap], .agg #[.int .i64 (D x).u, .int .i64 (D x).a, .int .i64 (D x).b, .int .i64 (D x).c]] W (Bk W (.tuple #[.bool (q x), .nilIface]))) := fun W => HQ.out k x W HX.out
  have HCk := hide (HC.out k x W2 HX.out)
  obtain ⟨g, hg⟩ := nm (p x)
  obtain ⟨m, hm⟩ := nm (q x)
  obtain ⟨⟨a, b⟩, hp⟩ : ∃ r, r = P k := ⟨_, rfl⟩
  obtain ⟨E, hE⟩ := nm (D x)
  rw [← hg] at HFk HM
  rw [← hm] at HM HQk
  rw [← hp] at HM D4
  rw [← hE] at HFk HQk HCk
  clear hg hm hp hE
  obtain ⟨x0, x1, x2, x3, x4, x5, x6, x7⟩ := D8.out.cells8
  gi_wp2_with fail
  refine ⟨trivial, ?_⟩
  gi_at_call 121
  refine (CallsIn.inRound ln' (callsIn_wide.2 HCk.out)).mono ?_
  rintro e W3 ⟨rfl, hb3⟩
  have HB3 := hide (HB2.out.trans (hb3.mono HB2.out.size))
  have E0 := hide (D0.out.below hb3)
  have E1 := hide (D1.out.below hb3)
  have E2 := hide (D2.out.below hb3)
  have E3 := hide (D3.out.below hb3)
  have E4 := hide (D4.out.below hb3)
  have HO3 : Hid (Over wl.heap.size W2 W3) := Over.of_below hb3
  clear hb3 x0 x1 x2 x3 x4 x5 x6 x7 D0 D1 D2 D3 D4 D8
  obtain ⟨W4, hW4⟩ := nm (W3.alloc (.cells #[.int .i64 E.u, .int .i64 E.a, .int .i64 E.b, .int .i64 E.c] 58))
  obtain ⟨Gw, hGw⟩ := nm W3.heap.size
  have HB4 : Hid (Below w.heap.size w W4) := by unfold Hid; rw [hW4]; exact HB3.out.alloc HB3.out.size _
  have F0 : Hid (Blk W4 w.heap.size 25 #[.slice lo ln lcap]) := by unfold Hid; rw [hW4]; exact E0.out.old _
  have F1 : Hid (Blk W4 (w.heap.size + 1) 78 #[.slice ao al acap, .slice co cl ccap]) := by unfold Hid; rw [hW4]; exact E1.out.old _
  have F2 : Hid (Blk W4 (w.heap.size + 1 + 1) 161 (arrS (false, false))) := by unfold Hid; rw [hW4]; exact E2.out.old _
  have F3 : Hid (Blk W4 (w.heap.size + 1 + 1 + 1) 34 #[.nilIface]) := by unfold Hid; rw [hW4]; exact E3.out.old _
  have F4 : Hid (Blk W4 (w.heap.size + 1 + 1 + 1 + 1) 161 (arrS (a, b))) := by unfold Hid; rw [hW4]; exact E4.out.old _
  have F5 : Hid (Blk W4 Gw 58 (arrW E)) := by unfold Hid; rw [hW4, hGw]; exact Blk.new _ _ _
  have HO4 : Hid (Over wl.heap.size W2 W4) := by unfold Hid; rw [hW4]; exact HO3.out.trans ((Over.refl _ _).alloc _)
  gi_upto_region 5 with fail
  rw [← hW4, ← hGw]
  clear hW4 hGw E0 E1 E2 E3 E4 HB3 HO3
  have e0 : W4.cell? ⟨w.heap.size, 0, none⟩ = some (.slice lo ln lcap) := F0.out.cell 0
  obtain ⟨d0, d1, d2, d3⟩ := F5.out.cells4
  gi_wp2_with fail
  refine ⟨trivial, ?_⟩
  gi_at_call 142
  refine (CallsIn.inRound ln' (callsIn_wide.2 (HFk.out _ HB4.out))).mono ?_
  rintro e W5 ⟨rfl, hb5⟩
  have HB5 := hide (HB4.out.trans (hb5.mono HB4.out.size))
  have J0 := hide (F0.out.below hb5)
  have J1 := hide (F1.out.below hb5)
  have J2 := hide (F2.out.below hb5)
  have J3 := hide (F3.out.below hb5)
  have J4 := hide (F4.out.below hb5)
  have J5 := hide (F5.out.below hb5)
  have HO5 := hide (HO4.out.trans (Over.of_below hb5))
  clear hb5 e0 d0 d1 d2 d3 F0 F1 F2 F3 F4 F5 HB4 HO4
  cases g with
  | true =>
   have HM1 : Hid (P (k + 1) = (a || m, b || !m)) := by unfold Hid; have h := HM.out; rw [if_pos rfl] at h; exact h
   clear HM
   have e1 : W5.cell? ⟨w.heap.size + 1, 0, none⟩ = some (.slice ao al acap) := J1.out.cell 0
   have e2 : W5.cell? ⟨w.heap.size + 1, 1, none⟩ = some (.slice co cl ccap) := J1.out.cell 1
   obtain ⟨d0, d1, d2, d3⟩ := J5.out.cells4
   gi_wp2_with fail
   refine ⟨trivial, ?_⟩
   gi_at_call 122
   refine (CallsIn.inRound ln' (callsIn_wide.2 (HQk.out _ HB5.out))).mono ?_
   rintro e W6 ⟨rfl, hb6⟩
   have HB6 := hide (HB5.out.trans (hb6.mono HB5.out.size))
   have K0 := hide (J0.out.below hb6)
   have K1 := hide (J1.out.below hb6)
   have K2 := hide (J2.out.below hb6)
   have K3 := hide (J3.out.below hb6)
   have K4 := hide (J4.out.below hb6)
   have HO6 := hide (HO5.out.trans (Over.of_below hb6))
   clear hb6 e1 e2 d0 d1 d2 d3 J0 J1 J2 J3 J4 J5 HB5 HO5
   have s0 : W6.cell? ⟨w.heap.size + 1 + 1 + 1 + 1, 0, none⟩ = some (.bool a) := K4.out.cell 0
   have s1 : W6.cell? ⟨w.heap.size + 1 + 1 + 1 + 1, 1, none⟩ = some (.bool b) := K4.out.cell 1
   have z0 : W6.frozen? ⟨w.heap.size + 1 + 1 + 1 + 1, 0, none⟩ = false := K4.out.frozen 0
   have z1 : W6.frozen? ⟨w.heap.size + 1 + 1 + 1 + 1, 1, none⟩ = false := K4.out.frozen 1
   cases a <;> cases b <;> cases m <;> gi_wp2
   all_goals refine ⟨(HO6.out.setCell (by have := HG.out; rw [Hsz.out]; simp; omega) _).setCell (by have := HG.out; rw [Hsz.out]; simp; omega) _, (HB6.out.setCell (by simp; omega) _).setCell (by simp; omega) _, (K0.out.far (by omega) _ _).far (by omega) _ _, (K1.out.far (by omega) _ _).far (by omega) _ _, (K2.out.far (by omega) _ _).far (by omega) _ _, (K3.out.far (by omega) _ _).far (by omega) _ _, ?_⟩
   all_goals show Blk _ _ _ (arrS (P (k + 1)))
   all_goals have hM := HM1.out
   all_goals simp only [Bool.or_false, Bool.or_true, Bool.not_true, Bool.not_false] at hM
   all_goals rw [hM]
   all_goals exact putS_blk K4.out (_, _)
  | false =>
   have HM1 : Hid (P (k + 1) = (a, b)) := by unfold Hid; have h := HM.out; rw [if_neg (by decide)] at h; exact h
   clear HM
   gi_wp2
   exact ⟨HO5.out, HB5.out, J0.out, J1.out, J2.out, J3.out, by rw [HM1.out]; exact J4.out⟩
 case done =>
  intro D W hD ⟨hB, c0, c1, c2, c3, c4⟩ hK
  have HD : Hid (w.heap.size + 6 ≤ D) := by unfold Hid; have := HG.out; rw [Hsz.out] at hD; omega
  have HK := hide hK
  have HBk := hide hB
  rw [← HR.out] at c4
  obtain ⟨a, b⟩ := R
  have C2 : Hid (Blk W (w.heap.size + 1 + 1) 161 (arrS (false, false))) := c2
  have C3 : Hid (Blk W (w.heap.size + 1 + 1 + 1) 34 #[.nilIface]) := c3
  have C4 : Hid (Blk W (w.heap.size + 1 + 1 + 1 + 1) 161 (arrS (a, b))) := c4
  clear hD hB c0 c1 c2 c3 c4 hK H0 H1 H2 H3 H4 H5 HR
  have e1 : W.cell? ⟨w.heap.size + 1 + 1, 0, none⟩ = some (.bool false) := C2.out.cell 0
  have e2 : W.cell? ⟨w.heap.size + 1 + 1, 1, none⟩ = some (.bool false) := C2.out.cell 1
  have z1 : W.frozen? ⟨w.heap.size + 1 + 1, 0, none⟩ = false := C2.out.frozen 0
  have z2 : W.frozen? ⟨w.heap.size + 1 + 1, 1, none⟩ = false := C2.out.frozen 1
  have e3 : W.cell? ⟨w.heap.size + 1 + 1 + 1, 0, none⟩ = some .nilIface := C3.out.cell 0
  have z3 : W.frozen? ⟨w.heap.size + 1 + 1 + 1, 0, none⟩ = false := C3.out.frozen 0
  have e4 : W.cell? ⟨w.heap.size + 1 + 1 + 1 + 1, 0, none⟩ = some (.bool a) := C4.out.cell 0
  have e5 : W.cell? ⟨w.heap.size + 1 + 1 + 1 + 1, 1, none⟩ = some (.bool b) := C4.out.cell 1
  gi_wp2
  have hK' : (((W.setCell ⟨w.heap.size + 1 + 1, 0, none⟩ (.bool a)).setCell ⟨w.heap.size + 1 + 1, 1, none⟩ (.bool b)).setCell ⟨w.heap.size + 1 + 1 + 1, 0, none⟩ .nilIface).heap[D]? = some (.deferred (some [])) := by
   have := HD.out
   rw [Below.heap_setCell _ _ _ _ (by simp; omega), Below.heap_setCell _ _ _ _ (by simp; omega), Below.heap_setCell _ _ _ _ (by simp; omega)]; exact HK.out
  have r1 : Blk (((W.setCell ⟨w.heap.size + 1 + 1, 0, none⟩ (.bool a)).setCell ⟨w.heap.size + 1 + 1, 1, none⟩ (.bool b)).setCell ⟨w.heap.size + 1 + 1 + 1, 0, none⟩ .nilIface) (w.heap.size + 1 + 1) 161 (arrS (a, b)) := (putS_blk C2.out (a, b)).far (by omega) _ _
  have r2 : Blk (((W.setCell ⟨w.heap.size + 1 + 1, 0, none⟩ (.bool a)).setCell ⟨w.heap.size + 1 + 1, 1, none⟩ (.bool b)).setCell ⟨w.heap.size + 1 + 1 + 1, 0, none⟩ .nilIface) (w.heap.size + 1 + 1 + 1) 34 #[.nilIface] := ((C3.out.far (by omega) _ _).far (by omega) _ _).set 0 _
  refine ⟨by simp, .inl ⟨_, _, rfl, run_takeDeferred hK', ?_⟩⟩
  have hd := HD.out
  have l1 := loadSn (r1.putO (.deferred none) (l := D) (by omega))
  have l2 := loadE (r2.putO (.deferred none) (l := D) (by omega))
  refine ⟨.tuple #[.agg (arrS (a, b)), .nilIface], ?_, rfl, ?_⟩
  ·rw [results_two rfl]
   simp [asAddr, Result.andThen, l1, l2]
  ·exact (((HBk.out.setCell (by simp; omega) _).setCell (by simp; omega) _).setCell (by simp; omega) _).trans (below_putObj _ _ (by omega))
 case stop => exact fun _ _ _ _ _ h => h.elim
def seenP (p : Int × Int) : Bool × Bool := (decide (¬ p.1 = 0), decide (¬ p.2 = 0))
theorem look_any (v va vc : Value) (fs : List Fm) (ats : List At) (c : List Int) (n : Nat) (hn : n ≤ 6) (hgood : ∀ f ∈ fs, f.fault = 0) (hf : formFault ats c = 0) (w : World) (hF : ReadsF w v fs) (hA : ReadsA w va ats) (hC : Reads w vc c) (hK : KindsLaid w) :
    Calls Tryz.prog 97 #[v, .agg #[va, vc], .int .i64 n] w (Bk w (.tuple #[.agg (arrS (seenP (askP fs ats c n))), .nilIface])) := by
 have hH := fun (N : Nat → Int) (h0 : countsFault N = 0) W (hW : Below w.heap.size w W) => allHold_any v fs hgood (madeN N 8) (made_ok h0) W (hF.below hW) (hK.below hW)
 have hQ := fun (D : Wd) W (hW : Below w.heap.size w W) => fholds_any va vc ats c D.u D.a D.b D.c W (hA.below hW) (hC.below hW) (hK.below hW)
 obtain ⟨lo, lcap, rfl, _⟩ := hF.slice
 obtain ⟨ao, acap, rfl, _⟩ := hA.slice
 obtain ⟨co, ccap, rfl, _⟩ := hC.slice
 refine look_right lo _ lcap ao _ acap co _ ccap n hn (fun N => madeN N 8) (fun N => (madeN N 8).so fs) (fun N => (madeN N 8).formIs ats c) (fun k => seenP (askOver fs ats c ((worldsL n).take k))) _ w (fun M W hM => ?_) (fun M W hM hW => hH M (everyC_right hn hM) W hW) (fun M W hM hW => ?_) rfl (fun k M hM => ?_) ?_
 ·have h := fworld_any M W
  have h0 := everyC_right hn hM
  have e : madeW M = madeN M 8 := by unfold madeW; rw [if_pos h0]
  rw [h0, e] at h
  exact h
 ·have h := hQ (madeN M 8) W hW
  have eD : ∀ D : Wd, Wd.mk D.u D.a D.b D.c = D := fun _ => rfl
  have e : (madeN M 8).formFault ats c = 0 := wdForm_zero.2 ⟨hf, made_ok (everyC_right hn hM)⟩
  rw [eD, e] at h
  exact h
 ·have hk : (worldsL n)[k]? = some (madeN M 8) := by unfold worldsL; rw [List.getElem?_map, hM]; rfl
  show seenP (askOver fs ats c ((worldsL n).take (k + 1))) = _
  rw [List.take_add_one, hk]
  show seenP (askOver fs ats c ((worldsL n).take k ++ [madeN M 8])) = _
  rw [askOver_add]
  have hr := (ask_range fs ats c ((worldsL n).take k)).1
  obtain ⟨P, hP⟩ := nm (askOver fs ats c ((worldsL n).take k))
  rw [← hP] at hr ⊢
  unfold askStep seenP
  have e1 : ∀ x : Int, 0 ≤ x → ¬ x + 1 = 0 := fun x _ => by omega
  cases (madeN M 8).so fs <;> cases (madeN M 8).formIs ats c <;> simp [e1 _ hr.1, e1 _ hr.2]
 ·have el : (worldsL n).take (everyC n).length = worldsL n := by rw [← worldsL_length, List.take_length]
  show _ = seenP (askOver fs ats c ((worldsL n).take (everyC n).length))
  rw [el]
  rfl
end Go.Proofs.YtnoohlibgaeklaaGreatDoor
namespace Go.Proofs.YtnoohlibgaeklaaGreatDoor
open Go.ChangeShapes Go.WideShapes Go.ChangeAt Go.RowKit
set_option maxRecDepth 100000
set_option maxHeartbeats 4000000 in
theorem askof_wrong (lo : Option Addr) (ln lcap : Nat) (ao : Option Addr) (al acap : Nat) (co : Option Addr) (cl ccap : Nat) (u m : Int) (w : World)
    (HC : Hid (∀ W, Below w.heap.size w W → Calls Tryz.prog 96 #[.slice lo ln lcap, .agg #[.slice ao al acap, .slice co cl ccap], .int .i64 u] W (Bk W (.iface 91 (.int .i64 m))))) :
    Calls Tryz.prog 63 #[.slice lo ln lcap, .agg #[.slice ao al acap, .slice co cl ccap], .int .i64 u] w (Bk w (.tuple #[.int .i64 0, .iface 91 (.int .i64 m)])) := by
 go_enter Tryz.func63, Tryz.ntmps63
 go_wp2_with fail
 go_at_call 96
 refine (HC.out _ (below_alloc1 _ _)).mono ?_
 rintro e w2 ⟨rfl, hb⟩
 have HB : Hid (Below w.heap.size w w2) := (below_alloc1 w _).trans (hb.mono (by simp))
 clear hb
 go_wp2
 go_ret2
 exact ⟨rfl, HB.out⟩
set_option maxHeartbeats 4000000 in
theorem askof_right (lo : Option Addr) (ln lcap : Nat) (ao : Option Addr) (al acap : Nat) (co : Option Addr) (cl ccap : Nat) (u k : Int) (E : Value) (a b : Bool) (w : World)
    (HC : Hid (∀ W, Below w.heap.size w W → Calls Tryz.prog 96 #[.slice lo ln lcap, .agg #[.slice ao al acap, .slice co cl ccap], .int .i64 u] W (Bk W .nilIface)))
    (HL : Hid (∀ W, Below w.heap.size w W → Calls Tryz.prog 97 #[.slice lo ln lcap, .agg #[.slice ao al acap, .slice co cl ccap], .int .i64 u] W (Bk W (.tuple #[.agg #[.bool a, .bool b], .nilIface]))))
    (HA : Hid (∀ W, Calls Tryz.prog 98 #[.agg #[.bool a, .bool b]] W (Bk W (.tuple #[.int .i64 k, E])))) :
    Calls Tryz.prog 63 #[.slice lo ln lcap, .agg #[.slice ao al acap, .slice co cl ccap], .int .i64 u] w (Bk w (.tuple #[.int .i64 k, E])) := by
 obtain ⟨w1, hw1⟩ := nm (w.alloc (.cells #[.slice ao al acap, .slice co cl ccap] 78))
 have HB1 : Hid (Below w.heap.size w w1) := by unfold Hid; rw [hw1]; exact below_alloc1 _ _
 have HQ : Hid (Blk w1 w.heap.size 78 #[.slice ao al acap, .slice co cl ccap]) := by unfold Hid; rw [hw1]; exact Blk.new _ _ _
 go_enter Tryz.func63, Tryz.ntmps63
 go_upto_region 1 with fail
 rw [← hw1]
 clear hw1
 have x0 : w1.cell? ⟨w.heap.size, 0, none⟩ = some (.slice ao al acap) := HQ.out.cell 0
 have x1 : w1.cell? ⟨w.heap.size, 1, none⟩ = some (.slice co cl ccap) := HQ.out.cell 1
 go_wp2_with fail
 go_at_call 96
 refine (HC.out _ HB1.out).mono ?_
 rintro e w2 ⟨rfl, hb⟩
 have HB2 := hide (HB1.out.trans (hb.mono HB1.out.size))
 have y0 : w2.cell? ⟨w.heap.size, 0, none⟩ = some (.slice ao al acap) := (HQ.out.below hb).cell 0
 have y1 : w2.cell? ⟨w.heap.size, 1, none⟩ = some (.slice co cl ccap) := (HQ.out.below hb).cell 1
 clear hb x0 x1
 go_wp2_with fail
 go_at_call 97
 refine (HL.out _ HB2.out).mono ?_
 rintro e w3 ⟨rfl, hb⟩
 have HB3 := hide (HB2.out.trans (hb.mono HB2.out.size))
 clear hb y0 y1
 obtain ⟨w4, hw4⟩ := nm (w3.alloc (.cells #[.bool a, .bool b] 161))
 obtain ⟨G, hG⟩ := nm w3.heap.size
 have HB4 : Hid (Below w.heap.size w w4) := by unfold Hid; rw [hw4]; exact HB3.out.alloc HB3.out.size _
 have HS : Hid (Blk w4 G 161 #[.bool a, .bool b]) := by unfold Hid; rw [hw4, hG]; exact Blk.new _ _ _
 go_upto_region 5 with fail
 rw [← hw4, ← hG]
 clear hw4 hG
 have y0 : w4.cell? ⟨G, 0, none⟩ = some (.bool a) := HS.out.cell 0
 have y1 : w4.cell? ⟨G, 1, none⟩ = some (.bool b) := HS.out.cell 1
 go_wp2_with fail
 go_at_call 98
 refine (HA.out _).mono ?_
 rintro e w5 ⟨rfl, hb⟩
 have HB5 := hide (HB4.out.trans (hb.mono HB4.out.size))
 clear hb y0 y1
 go_wp2
 go_ret2
 exact ⟨rfl, HB5.out⟩
theorem askOf_any (v va vc : Value) (fs : List Fm) (ats : List At) (c : List Int) (u : Int) (w : World) (hF : ReadsF w v fs) (hA : ReadsA w va ats) (hC : Reads w vc c) (hK : KindsLaid w) :
    Calls Tryz.prog 63 #[v, .agg #[va, vc], .int .i64 u] w (Bk w (.tuple #[.int .i64 (askN fs ats c u), errV (askFault fs ats c u)])) := by
 have hCk := fun W (hW : Below w.heap.size w W) => askCheck_any v va vc fs ats c u W (hF.below hW) (hA.below hW) (hC.below hW) (hK.below hW)
 have hLo := fun (n : Nat) (hn : n ≤ 6) (hg : ∀ f ∈ fs, f.fault = 0) (hf : formFault ats c = 0) W (hW : Below w.heap.size w W) => look_any v va vc fs ats c n hn hg hf W (hF.below hW) (hA.below hW) (hC.below hW) (hK.below hW)
 obtain ⟨lo, lcap, rfl, _⟩ := hF.slice
 obtain ⟨ao, acap, rfl, _⟩ := hA.slice
 obtain ⟨co, ccap, rfl, _⟩ := hC.slice
 by_cases h0 : askCheckN fs ats c u = 0
 ·rw [h0] at hCk
  have hgood : formsFault fs u = 0 ∧ formFault ats c = 0 := by
   unfold askCheckN at h0
   by_cases h1 : formsFault fs u = 0
   ·rw [if_pos h1] at h0; exact ⟨h1, h0⟩
   ·rw [if_neg h1] at h0; exact absurd h0 h1
  obtain ⟨h1, h2⟩ := hgood
  obtain ⟨_, hg, hu⟩ := forms_zero.1 h1
  obtain ⟨n, rfl⟩ := Int.eq_ofNat_of_zero_le hu.1
  have hn : n ≤ 6 := by omega
  obtain ⟨e1, e2⟩ := seen_is (ask_range fs ats c (worldsL n)).1
  have f2 : askFault fs ats c (n : Int) = seenE (seenP (askP fs ats c n)).1 (seenP (askP fs ats c n)).2 := by
   unfold askFault; rw [if_pos h1, if_pos h2, Int.toNat_natCast]; exact e2.symm
  have f1 : askN fs ats c (n : Int) = seenN (seenP (askP fs ats c n)).1 (seenP (askP fs ats c n)).2 := by
   refine Eq.trans ?_ e1.symm
   unfold askN askFault
   rw [if_pos h1, if_pos h2, Int.toNat_natCast]
   show (if (if (askP fs ats c n).1 + (askP fs ats c n).2 = 0 then (6 : Int) else 0) = 0 then answerN (askP fs ats c n) else 0) = if (askP fs ats c n).1 + (askP fs ats c n).2 = 0 then 0 else answerN (askP fs ats c n)
   by_cases hz : (askP fs ats c n).1 + (askP fs ats c n).2 = 0
   ·rw [if_pos hz, if_pos hz, if_neg (by decide)]
   ·rw [if_neg hz, if_neg hz, if_pos rfl]
  rw [f1, f2]
  exact askof_right lo _ lcap ao _ acap co _ ccap n _ _ _ _ w hCk (hLo n hn hg h2) fun W => seenAnswer_any _ _ W
 ·rw [errV_no h0] at hCk
  have e0 : askFault fs ats c u = askCheckN fs ats c u := by
   unfold askCheckN at h0 ⊢
   unfold askFault
   by_cases h1 : formsFault fs u = 0
   ·rw [if_pos h1] at h0 ⊢
    rw [if_pos h1, if_neg h0]
   ·rw [if_neg h1, if_neg h1]
  have e1 : askN fs ats c u = 0 := by unfold askN; rw [if_neg (by rw [e0]; exact h0)]
  rw [e0, e1, errV_no h0]
  exact askof_wrong lo _ lcap ao _ acap co _ ccap u _ w hCk
end Go.Proofs.YtnoohlibgaeklaaGreatDoor
namespace Go.Proofs.YtnoohlibgaeklaaGreatDoor
open Go.ChangeShapes Go.WideShapes Go.ChangeAt Go.RowKit Go.Deep
set_option maxRecDepth 100000
theorem kdG : Tryz.prog.globalNamed "vennhouse/atom.kinds" = some 1 := by kernel_rfl
theorem kdT : (Tryz.prog.globals[1]?).map (·.type) = some 155 := by kernel_rfl
theorem kdC : Tryz.prog.cellsOf 154 = 3 := by kernel_rfl
theorem kdA : Tryz.prog.cellsOf 155 = 18 := by kernel_rfl
theorem kdS : Tryz.prog.cellsOf 9 = 1 := by kernel_rfl
theorem kdB : Tryz.prog.cellsOf 4 = 1 := by kernel_rfl
theorem kind_of_trod {w : World} {cs : List Value} {fuel : Nat} {text : List UInt8} {b1 b2 : Bool} {y : DataW Unit × List MemPlace} (hy : y.1 = .agg [.lit (.string text), .lit (.bool b1), .lit (.bool b2)])
    (h : DataW.trod (fun _ => ()) Tryz.prog w 0 (fun _ => true) false fuel 154 cs = some y) : cs = [.string ⟨text.toArray⟩, .bool b1, .bool b2] := by
 obtain ⟨y0, y1, y2, n, e, hl, t0, t1, t2⟩ := trod_struct3 Tryz.underlying154 h
 rw [kdC] at hl
 obtain ⟨c0, c1, c2, rfl⟩ : ∃ c0 c1 c2, cs = [c0, c1, c2] := by
  match cs, hl with
  | [a, b, c], _ => exact ⟨a, b, c, rfl⟩
 ·simp only [kdS, kdB] at t0 t1 t2
  obtain ⟨s, e0, f0, _⟩ := DataW.trod_string Tryz.underlying9 t0
  obtain ⟨x1, e1, f1⟩ := DataW.trod_bool Tryz.underlying4 t1
  obtain ⟨x2, e2, f2⟩ := DataW.trod_bool Tryz.underlying4 t2
  simp at e0 e1 e2
  subst e0 e1 e2
  subst f0 f1 f2
  subst e
  simp at hy
  obtain ⟨rfl, rfl, rfl⟩ := hy
  rfl
theorem kinds_of_head {r : List (String × DataW Unit)} {W : World} (h : laidMet Tryz.prog (("vennhouse/atom.kinds", Rows.laid_vennhouse_atom_kinds) :: r) W) : KindsLaid W := by
 obtain ⟨ps, ⟨g0, t0, cs0, f0, p0, q0, hg0, ht0, hv0, hd0, _, e0⟩, _, hrows⟩ := h
 obtain rfl := Option.some.inj (kdG.symm.trans hg0)
 obtain rfl := Option.some.inj (kdT.symm.trans ht0)
 obtain ⟨xs, m, _, hx, hlen, hxl, hi⟩ := DataW.trod_array Tryz.underlying155 hd0
 simp only [kdC] at hi
 rw [kdA] at hlen
 have hx1 : Rows.laid_vennhouse_atom_kinds = .agg (xs.map (·.1)) := congrArg Prod.fst hx
 obtain ⟨a0, a1, a2, a3, a4, a5, rfl⟩ : ∃ a0 a1 a2 a3 a4 a5, xs = [a0, a1, a2, a3, a4, a5] := by
  match xs, hxl with
  | [a, b, c, d, e, f], _ => exact ⟨a, b, c, d, e, f, rfl⟩
 ·unfold Rows.laid_vennhouse_atom_kinds at hx1
  simp only [List.map, DataW.agg.injEq, List.cons.injEq, and_true] at hx1
  obtain ⟨g0, g1, g2, g3, g4, g5⟩ := hx1
  have k0 := kind_of_trod g0.symm (hi 0 (by decide))
  have k1 := kind_of_trod g1.symm (hi 1 (by decide))
  have k2 := kind_of_trod g2.symm (hi 2 (by decide))
  have k3 := kind_of_trod g3.symm (hi 3 (by decide))
  have k4 := kind_of_trod g4.symm (hi 4 (by decide))
  have k5 := kind_of_trod g5.symm (hi 5 (by decide))
  have hl : cs0.toList = kindCells := by
   have e : cs0.toList = (cs0.toList.drop (0 * 3)).take 3 ++ ((cs0.toList.drop (1 * 3)).take 3 ++ ((cs0.toList.drop (2 * 3)).take 3 ++ ((cs0.toList.drop (3 * 3)).take 3 ++ ((cs0.toList.drop (4 * 3)).take 3 ++ ((cs0.toList.drop (5 * 3)).take 3))))) := by
    match cs0.toList, hlen with
    | [_, _, _, _, _, _, _, _, _, _, _, _, _, _, _, _, _, _], _ => rfl
   rw [e, k0, k1, k2, k3, k4, k5]
   rfl
  intro j hj
  have hc := World.var?_cell kdG hv0 j
  rw [hc]
  have : cs0[j]? = cs0.toList[j]? := by simp
  rw [this, hl]
  have hj' : j < kindCells.length := hj
  simp [List.getElem?_eq_getElem hj']
end Go.Proofs.YtnoohlibgaeklaaGreatDoor
namespace Go.Proofs.YtnoohlibgaeklaaGreatDoor
open Go.ChangeShapes Go.WideShapes Go.ChangeAt Go.RowKit
set_option maxRecDepth 100000
theorem ownB : ownKnob Tryz.prog.godebug = none := by kernel_rfl
theorem p10G : Tryz.prog.globalNamed "internal/strconv.uint64pow10" = some 3 := by kernel_rfl
theorem p10T : (Tryz.prog.globals[3]?).map (·.type) = some 228 := by kernel_rfl
theorem p10C : Tryz.prog.cellsOf 200 = 1 := by kernel_rfl
theorem p10A : Tryz.prog.cellsOf 228 = 20 := by kernel_rfl
theorem p10D : (Rows.laid_internal_strconv_uint64pow10 : DataW Unit) = Lib.tabData .u64 Lib.pow10Tab := by kernel_rfl
theorem esG : Tryz.prog.globalNamed "strconv.ErrSyntax" = some 6 := by kernel_rfl
theorem esT : (Tryz.prog.globals[6]?).map (·.type) = some 34 := by kernel_rfl
theorem esC : Tryz.prog.cellsOf 275 = 1 := by kernel_rfl
theorem esS : Tryz.prog.cellsOf 9 = 1 := by kernel_rfl
theorem starE : "*" ++ "errors.errorString" = "*errors.errorString" := by decide
theorem rowE (u : TypeId) (h : Tryz.prog.typeName? 3 u = some "*errors.errorString") : u = 273 :=
 typeName_ptr_named (nm := "errors.errorString") (by rw [starE]; kernel_rfl) (by kernel_rfl) (by decide) u (by rw [starE]; exact h)
def laidB : List (String × DataW Unit) := [("math/bits.deBruijn32tab", Rows.laid_math_bits_deBruijn32tab), ("math/bits.deBruijn64tab", Rows.laid_math_bits_deBruijn64tab), ("internal/strconv.uint64pow10", Rows.laid_internal_strconv_uint64pow10), ("unicode/utf8.acceptRanges", Rows.laid_unicode_utf8_acceptRanges), ("strconv.ErrRange", Rows.laid_strconv_ErrRange), ("strconv.ErrSyntax", Rows.laid_strconv_ErrSyntax), ("vennhouse/atom.kinds", Rows.laid_vennhouse_atom_kinds), ("unicode/utf8.first", Rows.laid_unicode_utf8_first)]
theorem back_of_met {W : World} (h : laidMetH Tryz.prog laidB W) : KindsLaid W ∧ LibLaid W := by
 have h' : laidMet Tryz.prog laidB W := h
 unfold laidB at h'
 refine ⟨kinds_of_head h'.tail.tail.tail.tail.tail.tail, ?_, ?_⟩
 ·have h2 := h'.tail.tail
  rw [p10D] at h2
  exact Lib.tabIs_of_head p10G p10T Tryz.underlying228 Tryz.underlying200 p10C p10A h2
 ·obtain ⟨a, s, hv, _⟩ := laid_sentinel h'.tail.tail.tail.tail.tail esG esT Tryz.underlying34 rowE Tryz.underlying273 Tryz.underlying275 rfl rfl Tryz.underlying9 esC esS
  exact ⟨_, _, hv⟩
theorem doorB_met (os : Os) (args : Array Value) : laidMetH Tryz.prog laidB ((World.laidAll Tryz.prog os laidB).forCall (fun _ _ => 0) ⟨#[], args, []⟩).memory := by
 rw [MakeChecks.laidMetH_plain _ _ _ (by kernel_rfl)]
 exact laidMet_laidAll _ (by kernel_rfl) (by kernel_rfl)
theorem startB_shaped (os : Os) (args : Array Value) : ((World.laidAll Tryz.prog os laidB).forCall (fun _ _ => 0) ⟨#[], args, []⟩).Shaped Tryz.prog := World.shaped_of_ZipB (by kernel_rfl) (by kernel_rfl)
end Go.Proofs.YtnoohlibgaeklaaGreatDoor
namespace Go.Proofs.YtnoohlibgaeklaaGreatDoor
open Go.ChangeShapes Go.WideShapes Go.ChangeAt Go.RowKit
theorem ownK : ownKnob Tryz.prog.godebug = none := by kernel_rfl
theorem etG : Tryz.prog.globalNamed "errors.errorType" = some 0 := by kernel_rfl
theorem rtT : (Tryz.prog.cutTypes.find? (·.1 == "internal/reflectlite.rtype")).map (·.2) = some 172 := by kernel_rfl
theorem oneRow : ((List.range 303).filter fun t => Tryz.prog.rowNamed t [101, 114, 114, 111, 114]) = [34] := by kernel_rfl
theorem sizeT : Tryz.prog.types.size = 303 := by kernel_rfl
theorem handleE : typeHandle Tryz.prog 34 = .pointer (some ⟨10, 34, none⟩) := by kernel_rfl
def laidE : List (String × DataW Unit) := [("errors.errorType", Rows.laid_errors_errorType)]
theorem laid_of_met {W : World} (h : laidMetH Tryz.prog laidE W) : Laid W := by
 have h' : laidMet Tryz.prog [] W ∧ handlesMet Tryz.prog laidE W := h
 obtain ⟨name, u, ty, e1, e2, e3, e4, e5⟩ := h'.2 _ (List.mem_singleton.2 rfl)
 have en : name = [101, 114, 114, 111, 114] := (Option.some.inj e1).symm
 subst en
 obtain rfl := Option.some.inj (rtT.symm.trans e2)
 have hm : ty ∈ (List.range 303).filter fun t => Tryz.prog.rowNamed t [101, 114, 114, 111, 114] := List.mem_filter.2 ⟨List.mem_range.2 (by rw [← sizeT]; exact e3), e4⟩
 rw [oneRow] at hm
 obtain rfl := List.mem_singleton.1 hm
 rw [handleE] at e5
 simpa [Laid] using World.var?_cell etG e5 0
theorem door_met (os : Os) (args : Array Value) : laidMetH Tryz.prog laidE ((World.doorLaid Tryz.prog 400 os).forCall (fun _ _ => 0) ⟨#[], args, []⟩).memory :=
 laidMetH_of_parts3 (fuel := 8) (laidMet_of_run' 8 (by kernel_rfl) (by kernel_rfl)) (by kernel_rfl) (by kernel_rfl)
end Go.Proofs.YtnoohlibgaeklaaGreatDoor
namespace Go.Proofs.YtnoohlibgaeklaaGreatDoor
open Go.ChangeShapes Go.WideShapes Go.ChangeAt Go.RowKit
set_option maxRecDepth 100000
def laidN : List (String × DataW Unit) := [("math/bits.deBruijn32tab", Rows.laid_math_bits_deBruijn32tab), ("math/bits.deBruijn64tab", Rows.laid_math_bits_deBruijn64tab), ("internal/strconv.uint64pow10", Rows.laid_internal_strconv_uint64pow10), ("unicode/utf8.acceptRanges", Rows.laid_unicode_utf8_acceptRanges), ("errors.errorType", Rows.laid_errors_errorType), ("strconv.ErrRange", Rows.laid_strconv_ErrRange), ("strconv.ErrSyntax", Rows.laid_strconv_ErrSyntax), ("vennhouse/atom.kinds", Rows.laid_vennhouse_atom_kinds), ("unicode/utf8.first", Rows.laid_unicode_utf8_first)]
theorem tells_of_met {W : World} (h : laidMetH Tryz.prog laidN W) : Laid W ∧ KindsLaid W ∧ LibLaid W := by
 have h' : laidMet Tryz.prog laidB W ∧ handlesMet Tryz.prog laidE W := h
 have h1 : laidMetH Tryz.prog laidE W := (show laidMet Tryz.prog [] W ∧ handlesMet Tryz.prog laidE W from ⟨laidMet_nil _ _, h'.2⟩)
 have h2 : laidMetH Tryz.prog laidB W := (show laidMet Tryz.prog laidB W from h'.1)
 exact ⟨laid_of_met h1, back_of_met h2⟩
theorem laidMet_over {P : Program} {w0 : World} {laid : List (String × DataW Unit)} (args : Array Value) (hf : w0.layFits P laid [] = true) (hi : w0.layIfaces P laid (w0.layVars P laid) = true) :
    laidMet P laid ((w0.layVars P laid).forCall (fun _ _ => 0) ⟨#[], args, []⟩).memory := by
 have all : ∀ x, x ∈ laid → (laid.map (·.1)).contains x.1 = true := fun x hx => List.contains_iff_mem.2 (List.mem_map.2 ⟨x, hx, rfl⟩)
 have yes : (laid.filter fun x => (laid.map (·.1)).contains x.1) = laid := List.filter_eq_self.2 all
 have no : (laid.filter fun x => !(laid.map (·.1)).contains x.1) = [] := List.filter_eq_nil_iff.2 fun x hx => by rw [all x hx]; simp
 have h := laidMet_layVars (P := P) (w0 := w0) (w' := w0.layVars P laid) (laid := laid) (laid.map (·.1)) [] (by rw [yes]) (by rw [yes]; exact hf) (by rw [yes]; exact hi) (by rw [no]; exact LaidIn.none)
 exact h.of_heap (by simp [World.memory, World.forCall, Input.heap])
noncomputable def startN (os : Os) : World := (World.doorLaid Tryz.prog 400 os).layVars Tryz.prog laidB
theorem startN_os (os : Os) : (startN os).os = os := World.layVars_os _ _ _
theorem doorN_met (os : Os) (args : Array Value) : laidMetH Tryz.prog laidN ((startN os).forCall (fun _ _ => 0) ⟨#[], args, []⟩).memory :=
 laidMetH_of_parts3 (fuel := 8) (laidMet_over (laid := laidB) args (by kernel_rfl) (by kernel_rfl)) (by kernel_rfl) (by kernel_rfl)
theorem startN_shaped (os : Os) : (startN os).Shaped Tryz.prog := World.shaped_of_ZipB (by kernel_rfl) (by kernel_rfl)
end Go.Proofs.YtnoohlibgaeklaaGreatDoor
namespace Go.Proofs.YtnoohlibgaeklaaGreatDoor
open Go.ChangeShapes Go.WideShapes Go.ChangeAt Go.RowKit Go.WideMaps Go.WideElems
open Go.ChangeMaps (open_string)
theorem laidOutA : laidOutB Tryz.prog = true := by kernel_rfl
theorem cellsInt : Tryz.prog.cellsOf 3 = 1 := by kernel_rfl
theorem cellsWorld : Tryz.prog.cellsOf 58 = 4 := by kernel_rfl
theorem cellsArr : Tryz.prog.cellsOf 56 = 3 := by kernel_rfl
set_option maxRecDepth 100000 in
theorem reads_arg {H : Type} {enc : TypeId × Value → H} {W : World} {v : Value} {d : DataW H} {p : List MemPlace} {r : Reach} {b0 : Nat} (hv : Value.okWide Tryz.prog W r b0 62 v) (h : DataW.Trod enc Tryz.prog W 0 (fun _ => true) true 62 v d p) :
    ∃ t, Reads W v t := by
 obtain ⟨a0, len, cap, rfl⟩ := okWide_slice Tryz.underlying62 hv
 obtain ⟨fuel, hf⟩ := h
 rcases open_ints Tryz.underlying62 Tryz.underlying3 cellsInt hf with ⟨hcs, hx⟩ | ⟨a, len', cap', zs, hcs, _, hl, hm, hz, hx, hcell, hwz⟩
 ·simp [Value.cells] at hcs
  obtain ⟨rfl, rfl, rfl⟩ := hcs
  exact ⟨[], Or.inl ⟨none, 0, rfl, rfl⟩⟩
 ·simp [Value.cells] at hcs
  obtain ⟨rfl, rfl, rfl⟩ := hcs
  rw [if_pos rfl] at hz
  rcases Nat.eq_zero_or_pos len with h0 | h0
  ·subst h0; exact ⟨[], Or.inl ⟨_, _, rfl, rfl⟩⟩
  ·obtain ⟨b, off, rfl, hc⟩ := _root_.Go.ints_at hcell (by omega)
   have hlen : (zs.take len).length = len := by rw [List.length_take]; omega
   unfold maxLen at hm
   refine ⟨zs.take len, Or.inr ⟨b, off, cap, by rw [hlen], ?_, by omega, ⟨by omega, by omega⟩, fun k hk => ?_⟩⟩
   ·exact World.block_lt_of_cell? W ⟨b, off, none⟩ (hc 0 (by omega))
   ·rw [hc k (by omega)]
    rw [hlen] at hk
    simp [hk]
set_option maxRecDepth 100000 in
theorem world_arg {H : Type} {enc : TypeId × Value → H} {W : World} {v : Value} {d : DataW H} {p : List MemPlace} {r : Reach} {b0 : Nat} (hv : Value.okWide Tryz.prog W r b0 58 v) (h : DataW.Trod enc Tryz.prog W 0 (fun _ => true) true 58 v d p) :
    ∃ u a b c : Int, v = .agg #[.int .i64 u, .int .i64 a, .int .i64 b, .int .i64 c] := by
 obtain ⟨cs, rfl, hsz⟩ := okWide_struct Tryz.underlying58 hv
 obtain ⟨c0, c1, c2, c3, rfl⟩ := Go.Joins.array4 (hsz.trans cellsWorld)
 obtain ⟨fuel, hf⟩ := h
 obtain ⟨y0, y1, n, _, _, h0, h1⟩ := trod_struct2 Tryz.underlying58 hf
 simp only [Value.cells, cellsInt, cellsArr] at h0 h1
 obtain ⟨u, e0, _, _⟩ := DataW.trod_int Tryz.underlying3 h0
 obtain ⟨xs, m, _, _, _, hxl, hx⟩ := DataW.trod_array Tryz.underlying56 h1
 have g0 := hx 0 (by omega)
 have g1 := hx 1 (by omega)
 have g2 := hx 2 (by omega)
 simp only [cellsInt] at g0 g1 g2
 rw [List.getElem?_eq_getElem (show 0 < xs.length by omega)] at g0
 rw [List.getElem?_eq_getElem (show 1 < xs.length by omega)] at g1
 rw [List.getElem?_eq_getElem (show 2 < xs.length by omega)] at g2
 obtain ⟨a, ea, _, _⟩ := DataW.trod_int Tryz.underlying3 g0
 obtain ⟨b, eb, _, _⟩ := DataW.trod_int Tryz.underlying3 g1
 obtain ⟨c, ec, _, _⟩ := DataW.trod_int Tryz.underlying3 g2
 simp at e0 ea eb ec
 subst e0 ea eb ec
 exact ⟨u, a, b, c, rfl⟩
set_option maxRecDepth 100000 in
theorem string_arg {H : Type} {enc : TypeId × Value → H} {W : World} {v : Value} {d : DataW H} {p : List MemPlace} {r : Reach} {b0 : Nat} (hv : Value.okWide Tryz.prog W r b0 9 v) (h : DataW.Trod enc Tryz.prog W 0 (fun _ => true) true 9 v d p) :
    ∃ s : ByteArray, v = .string s ∧ s.size ≤ 9223372036854775807 := by
 obtain ⟨s, rfl, _, _, hs⟩ := open_string Tryz.underlying9 hv h
 exact ⟨s, rfl, hs⟩
set_option maxRecDepth 100000 in
theorem int_arg {H : Type} {enc : TypeId × Value → H} {W : World} {v : Value} {d : DataW H} {p : List MemPlace} {r : Reach} {b0 : Nat} (hv : Value.okWide Tryz.prog W r b0 3 v) (h : DataW.Trod enc Tryz.prog W 0 (fun _ => true) true 3 v d p) :
    ∃ n : Int, v = .int .i64 n := by
 obtain ⟨n, rfl, _⟩ := open_int Tryz.underlying3 hv h
 exact ⟨n, rfl⟩
set_option maxRecDepth 100000 in
theorem cap_arg {H : Type} {enc : TypeId × Value → H} {W : World} {v : Value} {d : DataW H} {p : List MemPlace} {r : Reach} {b0 : Nat} (hv : Value.okWide Tryz.prog W r b0 62 v) (h : DataW.Trod enc Tryz.prog W 0 (fun _ => true) true 62 v d p) :
    ∃ ao len cap, v = .slice ao len cap ∧ len ≤ cap := by
 obtain ⟨a0, len, cap, rfl⟩ := okWide_slice Tryz.underlying62 hv
 obtain ⟨fuel, hf⟩ := h
 rcases open_ints Tryz.underlying62 Tryz.underlying3 cellsInt hf with ⟨hcs, hx⟩ | ⟨a, len', cap', zs, hcs, _, hl, _⟩
 ·simp [Value.cells] at hcs
  obtain ⟨rfl, rfl, rfl⟩ := hcs
  exact ⟨_, _, _, rfl, Nat.le_refl _⟩
 ·simp [Value.cells] at hcs
  obtain ⟨rfl, rfl, rfl⟩ := hcs
  exact ⟨_, _, _, rfl, hl⟩
end Go.Proofs.YtnoohlibgaeklaaGreatDoor
namespace Go.Proofs.YtnoohlibgaeklaaGreatDoor
open Go.ChangeShapes Go.WideShapes Go.ChangeAt Go.RowKit Go.WideMaps Go.WideElems
set_option maxRecDepth 100000
theorem cellsAtom : Tryz.prog.cellsOf 71 = 4 := by kernel_rfl
theorem cellsInts : Tryz.prog.cellsOf 62 = 1 := by kernel_rfl
theorem reads_trod {H : Type} {enc : TypeId × Value → H} {W : World} {fuel : Nat} {cs : List Value} {x : DataW H × List MemPlace} (h : DataW.trod enc Tryz.prog W 0 (fun _ => true) true fuel 62 cs = some x) :
    ∃ v t, cs = [v] ∧ Reads W v t := by
 rcases open_ints Tryz.underlying62 Tryz.underlying3 cellsInt h with ⟨hcs, hx⟩ | ⟨a, len, cap, zs, hcs, _, hl, hm, hz, hx, hcell, hwz⟩
 ·exact ⟨_, [], hcs, Or.inl ⟨none, 0, rfl, rfl⟩⟩
 ·refine ⟨_, zs.take len, hcs, ?_⟩
  rw [if_pos rfl] at hz
  rcases Nat.eq_zero_or_pos len with h0 | h0
  ·subst h0; exact Or.inl ⟨_, _, rfl, rfl⟩
  ·obtain ⟨b, off, rfl, hc⟩ := _root_.Go.ints_at hcell (by omega)
   have hlen : (zs.take len).length = len := by rw [List.length_take]; omega
   unfold maxLen at hm
   refine Or.inr ⟨b, off, cap, by rw [hlen], ?_, by omega, ⟨by omega, by omega⟩, fun k hk => ?_⟩
   ·exact World.block_lt_of_cell? W ⟨b, off, none⟩ (hc 0 (by omega))
   ·rw [hc k (by omega)]
    rw [hlen] at hk
    simp [hk]
theorem atom_trod {H : Type} {enc : TypeId × Value → H} {W : World} {fuel : Nat} {cs : List Value} {x : DataW H × List MemPlace} (h : DataW.trod enc Tryz.prog W 0 (fun _ => true) true fuel 71 cs = some x) :
    ∃ k vs vt n s t, cs = [.int .i64 k, vs, vt, .int .i64 n] ∧ Reads W vs s ∧ Reads W vt t := by
 obtain ⟨y0, y1, y2, y3, n, _, hl, h0, h1, h2, h3⟩ := Go.Joins.trod_struct4 Tryz.underlying71 h
 rw [cellsAtom] at hl
 obtain ⟨c0, c1, c2, c3, rfl⟩ : ∃ c0 c1 c2 c3, cs = [c0, c1, c2, c3] := by
  match cs, hl with
  | [a, b, c, d], _ => exact ⟨a, b, c, d, rfl⟩
 simp only [cellsInt, cellsInts] at h0 h1 h2 h3
 obtain ⟨k, e0, _, _⟩ := DataW.trod_int Tryz.underlying3 h0
 obtain ⟨vs, s, e1, r1⟩ := reads_trod h1
 obtain ⟨vt, t, e2, r2⟩ := reads_trod h2
 obtain ⟨m, e3, _, _⟩ := DataW.trod_int Tryz.underlying3 h3
 simp at e0 e1 e2 e3
 subst e0 e1 e2 e3
 exact ⟨k, _, _, m, s, t, rfl, r1, r2⟩
theorem atom_arg {H : Type} {enc : TypeId × Value → H} {W : World} {v : Value} {d : DataW H} {p : List MemPlace} {r : Reach} {b0 : Nat} (hv : Value.okWide Tryz.prog W r b0 71 v) (h : DataW.Trod enc Tryz.prog W 0 (fun _ => true) true 71 v d p) :
    ∃ k n vs vt s t, v = .agg #[.int .i64 k, vs, vt, .int .i64 n] ∧ Reads W vs s ∧ Reads W vt t := by
 obtain ⟨cs, rfl, hsz⟩ := okWide_struct Tryz.underlying71 hv
 obtain ⟨c0, c1, c2, c3, rfl⟩ := Go.Joins.array4 (hsz.trans cellsAtom)
 obtain ⟨fuel, hf⟩ := h
 obtain ⟨k, vs, vt, n, s, t, e, r1, r2⟩ := atom_trod hf
 simp [Value.cells] at e
 obtain ⟨rfl, rfl, rfl, rfl⟩ := e
 exact ⟨k, n, _, _, s, t, rfl, r1, r2⟩
end Go.Proofs.YtnoohlibgaeklaaGreatDoor