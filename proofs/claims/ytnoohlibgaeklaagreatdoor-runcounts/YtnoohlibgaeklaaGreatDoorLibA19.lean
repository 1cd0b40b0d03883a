/-
  Facts and contracts that the statement leans on.
-/
import Derived.Test.YtnoohlibgaeklaaGreatDoorLibA17
import Derived.Test.YtnoohlibgaeklaaGreatDoorLibA14
import Derived.Test.YtnoohlibgaeklaaGreatDoorLibA18
import Derived.Test.YtnoohlibgaeklaaGreatDoorLibA12
import Derived.Shelf.Abstract
import Derived.Deep.LoopGhost
import Derived.Deep.CutRange
import Derived.Deep.RegionWith
import Derived.OwnWalk
import Derived.Test.YtnoohlibgaeklaaGreatDoorLibA10
import Derived.Test.YtnoohlibgaeklaaGreatDoorLibA1
import Derived.Stop.RegionWithIn
import Derived.Sort.CutIn
import Derived.Test.YtnoohlibgaeklaaGreatDoorLibA9
import Derived.Test.YtnoohlibgaeklaaGreatDoorLibA2
namespace Go.Proofs.YtnoohlibgaeklaaGreatDoor
open Go.ChangeShapes Go.WideShapes Go.ChangeAt Go.RowKit
set_option maxRecDepth 100000
theorem shl_pw : ∀ k : Nat, k ≤ 6 → wrap64 (1 * 2 ^ k) = pw k := by decide +kernel
theorem coreBit_any (k : Nat) (hk : k ≤ 6) (w : World) : Calls Tryz.prog 193 #[.int .i64 k] w (Sk w (.int .i64 (pw k))) := by
 have HS : Hid (wrap64 (1 * 2 ^ k) = pw k) := shl_pw k hk
 go_enter Tryz.func193, Tryz.ntmps193
 go_wp2
 go_ret
 exact ⟨by have := HS.out; simp at this ⊢; exact this, rfl⟩
theorem coreAll_any (lo : Option Addr) (n cap : Nat) (hn : n ≤ 6) (w : World) : Calls Tryz.prog 174 #[.slice lo n cap] w (Sk w (.int .i64 (maskTo (fun _ => true) n))) := by
 have HS : Hid (wrap64 (pw n - 1) = maskTo (fun _ => true) n) := by
  unfold Hid
  rw [mask_all]
  obtain ⟨m, hm, h64, _⟩ := bits_at (fun _ => true) hn
  rw [hm]; unfold wrap64; omega
 go_enter Tryz.func174, Tryz.ntmps174
 go_wp2_with fail
 go_at_call 193
 refine (coreBit_any n hn _).mono ?_
 rintro e w' ⟨rfl, rfl⟩
 go_wp2
 go_ret
 exact ⟨by first | (rw [HS.out]; done) | (rw [HS.out]; rfl), rfl⟩
theorem isOpenIn_any (h s : Int) (P : Nat) (w : World) (hP : w.cell? ⟨P, 0, none⟩ = some (.int .i64 s)) :
    Calls Tryz.prog 192 #[.int .i64 h, .pointer (some ⟨P, 0, none⟩)] w (Bk w (.bool (decide (bits .and .i64 h s = s)))) := by
 go_enter Tryz.func192, Tryz.ntmps192
 go_wp2
 go_ret
 exact ⟨by first | rfl | simp, Below.refl _ _⟩
set_option maxHeartbeats 2000000 in
theorem coreIdx (n b off cap P : Nat) (us : Nat → Int) (s : Int) (w : World) (hl : n ≤ 9223372036854775807) (hB : b < w.heap.size) (hc : ∀ k, k < n → w.cell? ⟨b, off + k, none⟩ = some (.int .i64 (us k))) (hP : w.cell? ⟨P, 0, none⟩ = some (.int .i64 s)) :
    Calls Tryz.prog 153 #[.slice (some ⟨b, off, none⟩) n cap, .func (.func 192) #[] #[.pointer (some ⟨P, 0, none⟩)]] w fun e w' => (∃ r : Int, e = .returned (.int .i64 r) ∧ (0 ≤ r ↔ ∃ k, k < n ∧ decide (bits .and .i64 (us k) s = s) = true)) ∧ Below w.heap.size w w' := by
 have HC : Hid (∀ W k, Below w.heap.size w W → k < n → W.cell? ⟨b, off + k, none⟩ = some (.int .i64 (us k))) := fun W k hW hk => by rw [hW.cell (show (⟨b, off + k, none⟩ : Addr).block < w.heap.size from hB)]; exact hc k hk
 have HP : Hid (∀ W k, Below w.heap.size w W → k < n → Calls Tryz.prog 192 #[.int .i64 (us k), .pointer (some ⟨P, 0, none⟩)] W (Bk W (.bool (decide (bits .and .i64 (us k) s = s))))) := fun W k hW _ => isOpenIn_any (us k) s P W (by rw [hW.cell (World.block_lt_of_cell? _ _ hP)]; exact hP)
 obtain ⟨p, hp⟩ : ∃ p : Nat → Bool, p = fun k => decide (bits .and .i64 (us k) s = s) := ⟨_, rfl⟩
 have HP : Hid (∀ W k, Below w.heap.size w W → k < n → Calls Tryz.prog 192 #[.int .i64 (us k), .pointer (some ⟨P, 0, none⟩)] W (Bk W (.bool (p k)))) := by rw [hp]; exact HP
 have hg : ∀ k, decide (bits .and .i64 (us k) s = s) = p k := fun k => by rw [hp]
 simp only [hg]
 clear hc hB hP hp hg
 go_enter Tryz.func153, Tryz.ntmps153
 go_wp2
 go_loopw [5, 8] (fun _ i wr => ∃ k : Nat, k ≤ n ∧ i = .int .i64 k ∧ Below w.heap.size w wr ∧ Hid (∀ j, j < k → p j = false)) (fun _ i _ => n - (intOf i).toNat)
 case atStart => exact ⟨0, Nat.zero_le _, rfl, Below.refl _ _, fun j hj => absurd hj (Nat.not_lt_zero _)⟩
 case round =>
  obtain ⟨k, hk, rfl, hb0, A⟩ := hrel
  have HB := hide hb0
  clear hb0
  by_cases hlt : k < n
  ·have hcell := HC.out wr k HB.out hlt
   have hcall := HP.out wr k HB.out hlt
   obtain ⟨x, hx⟩ := nm (us k)
   rw [← hx] at hcell hcall
   clear hx
   have hltz : (k : Int) < (n : Int) := by omega
   cases hq : p k with
   | true =>
    rw [hq] at hcall
    have HQ := hide hq
    have HCl := hide hcall
    clear hcall hq
    go_wp2_with fail
    go_at_call 192
    refine HCl.out.mono ?_
    rintro e w' ⟨rfl, hb'⟩
    have HB' := hide (HB.out.trans (hb'.mono HB.out.size))
    clear hb'
    go_wp2
    go_ret
    exact ⟨⟨_, rfl, fun _ => ⟨k, hlt, HQ.out⟩, fun _ => by omega⟩, HB'.out⟩
   | false =>
    rw [hq] at hcall
    have HQ := hide hq
    have HCl := hide hcall
    clear hcall hq
    go_wp2_with fail
    go_at_call 192
    refine HCl.out.mono ?_
    rintro e w' ⟨rfl, hb'⟩
    have HB' := hide (HB.out.trans (hb'.mono HB.out.size))
    clear hb'
    go_wp2
    go_roundw
    case rel =>
     refine ⟨k + 1, by omega, by go_num, HB'.out, fun j hj => ?_⟩
     by_cases e : j = k
     ·rw [e]; exact HQ.out
     ·exact A.out j (by omega)
    case measure => simp [intOf]; omega
  ·have hltz : ¬ (k : Int) < (n : Int) := by omega
   go_wp2
   go_ret
   refine ⟨⟨_, rfl, fun h => absurd h (by decide), fun ⟨j, hj, hpj⟩ => ?_⟩, HB.out⟩
   rw [A.out j (by omega)] at hpj; cases hpj
theorem coreIdx_none (a : Option Addr) (cap : Nat) (fv : Value) (w : World) : Calls Tryz.prog 153 #[.slice a 0 cap, fv] w (Sk w (.int .i64 (-1))) := by
 go_enter Tryz.func153, Tryz.ntmps153
 go_wp2
 go_loopw [5, 8] (fun _ i wr => i = .int .i64 0 ∧ w = wr) (fun _ _ _ => 0)
 case atStart => exact ⟨rfl, rfl⟩
 case round =>
  obtain ⟨rfl, rfl⟩ := hrel
  go_wp2
  go_ret
  exact ⟨rfl, rfl⟩
set_option maxHeartbeats 2000000 in
theorem coreHas (v : Value) (t : List Int) (P : Nat) (s : Int) (w : World) (hR : Reads w v t) (hP : w.cell? ⟨P, 0, none⟩ = some (.int .i64 s)) :
    Calls Tryz.prog 116 #[v, .func (.func 192) #[] #[.pointer (some ⟨P, 0, none⟩)]] w (Bk w (.bool (t.any fun h => decide (bits .and .i64 h s = s)))) := by
 obtain ⟨ao, m, cap, rfl, c⟩ : ∃ ao m cap, v = .slice ao m cap ∧ Calls Tryz.prog 153 #[.slice ao m cap, .func (.func 192) #[] #[.pointer (some ⟨P, 0, none⟩)]] w fun e w' => (∃ r : Int, e = .returned (.int .i64 r) ∧ (0 ≤ r ↔ (t.any fun h => decide (bits .and .i64 h s = s)) = true)) ∧ Below w.heap.size w w' := by
  rcases hR with ⟨ao, cap, rfl, rfl⟩ | ⟨b, off, cap, rfl, hB, h0, ⟨hl, hcp⟩, hc⟩
  ·refine ⟨_, _, _, rfl, (coreIdx_none ao cap _ w).mono ?_⟩
   rintro e w' ⟨rfl, rfl⟩
   exact ⟨⟨_, rfl, by simp⟩, Below.refl _ _⟩
  ·refine ⟨_, _, _, rfl, (coreIdx t.length b off cap P (fun k => t.getD k 0) s w hl hB hc hP).mono ?_⟩
   rintro e w' ⟨⟨r, rfl, hr⟩, hb⟩
   refine ⟨⟨r, rfl, ?_⟩, hb⟩
   rw [hr, List.any_eq_true]
   constructor
   ·rintro ⟨k, hk, h⟩
    refine ⟨t.getD k 0, ?_, h⟩
    rw [List.getD_eq_getElem?_getD, List.getElem?_eq_getElem hk]
    exact List.getElem_mem hk
   ·rintro ⟨x, hx, h⟩
    obtain ⟨k, hk⟩ := List.mem_iff_getElem?.1 hx
    refine ⟨k, (List.getElem?_eq_some_iff.1 hk).1, ?_⟩
    rw [List.getD_eq_getElem?_getD, hk]; exact h
 obtain ⟨R, hRd⟩ := nm (t.any fun h => decide (bits .and .i64 h s = s))
 rw [← hRd] at c ⊢
 have HCl := hide c
 clear c hRd hR hP
 go_enter Tryz.func116, Tryz.ntmps116
 go_wp2_with fail
 go_at_call 153
 refine HCl.out.mono ?_
 rintro e w' ⟨⟨r, rfl, hr⟩, hb⟩
 have HB := hide hb
 have HR : Hid (R = decide (0 ≤ r)) := by
  unfold Hid
  rw [Bool.eq_iff_iff, decide_eq_true_eq, hr]
 clear hb hr
 go_wp2
 go_ret
 exact ⟨back_b HR.out.symm, HB.out⟩
theorem isOpen_any (v : Value) (t : List Int) (s : Int) (w : World) (hR : Reads w v t) :
    Calls Tryz.prog 173 #[v, .int .i64 s] w (Bk w (.bool (t.any fun h => decide (bits .and .i64 h s = s)))) := by
 have hb1 := below_alloc1 w (.cells #[.int .i64 s] 3)
 have HCl : Hid (Calls Tryz.prog 116 #[v, .func (.func 192) #[] #[.pointer (some ⟨w.heap.size, 0, none⟩)]] (w.alloc (.cells #[.int .i64 s] 3)) (Bk w (.bool (t.any fun h => decide (bits .and .i64 h s = s))))) :=
  (coreHas v t w.heap.size s _ (hR.below hb1) ((Blk.new w 3 #[.int .i64 s]).cell 0)).mono fun e w' ⟨h1, h2⟩ => ⟨h1, hb1.trans (h2.mono hb1.size)⟩
 obtain ⟨R, hRd⟩ := nm (t.any fun h => decide (bits .and .i64 h s = s))
 rw [← hRd] at HCl ⊢
 clear hRd hb1 hR
 go_enter Tryz.func173, Tryz.ntmps173
 go_wp2_with fail
 go_at_call 116
 refine HCl.out.mono ?_
 rintro e w' ⟨rfl, hb⟩
 have HB := hide hb
 clear hb
 go_wp2
 go_ret
 exact ⟨rfl, HB.out⟩
end Go.Proofs.YtnoohlibgaeklaaGreatDoor
namespace Go.Proofs.YtnoohlibgaeklaaGreatDoor
open Go.ChangeShapes Go.WideShapes Go.ChangeAt Go.RowKit
set_option maxRecDepth 100000
set_option maxHeartbeats 8000000 in
theorem holding_any (v : Value) (fs : List Fm) (hgood : ∀ f ∈ fs, f.fault = 0) (h6 : fs.length ≤ 6) (D : Wd) (hok : D.ok = true) (w : World) (hF : ReadsF w v fs) (hK : KindsLaid w) :
    Calls Tryz.prog 191 #[v, .agg #[.int .i64 D.u, .int .i64 D.a, .int .i64 D.b, .int .i64 D.c]] w (Bk w (.tuple #[.int .i64 (maskTo (holdsAt fs D) fs.length), .nilIface])) := by
 obtain ⟨lo, lcap, rfl, hl63⟩ := hF.slice
 have HF := hide hF
 have HHo : Hid (∀ (k : Nat) f va vc W, fs[k]? = some f → Below w.heap.size w W → ReadsA W va f.ats → Reads W vc f.c → Calls Tryz.prog 122 #[.agg #[va, vc], .agg #[.int .i64 D.u, .int .i64 D.a, .int .i64 D.b, .int .i64 D.c]] W (Bk W (.tuple #[.bool (holdsAt fs D k), .nilIface]))) := fun k f va vc W hf hW hA hC => by
  have h := fholds_any va vc f.ats f.c D.u D.a D.b D.c W hA hC (hK.below hW)
  have e : (Wd.mk D.u D.a D.b D.c).formFault f.ats f.c = 0 := wdForm_zero.2 ⟨hgood f (List.mem_of_getElem? hf), hok⟩
  rw [e] at h
  rw [holds_at hf]
  exact h
 have HOr : Hid (∀ k, k < fs.length → holdsAt fs D k = true → bits .or .i64 (maskTo (holdsAt fs D) k) (pw k) = maskTo (holdsAt fs D) (k + 1)) := fun k hk h => mask_or _ (by omega) h
 have HNo : Hid (∀ k, holdsAt fs D k = false → maskTo (holdsAt fs D) (k + 1) = maskTo (holdsAt fs D) k) := fun k h => mask_not _ h
 obtain ⟨L, hL⟩ := nm (holdsAt fs D)
 rw [← hL] at HHo HOr HNo ⊢
 obtain ⟨n, hn⟩ := nm fs.length
 rw [← hn] at HF hl63 HOr h6 ⊢
 have HN := hide hn
 obtain ⟨w1, hw1⟩ := nm (w.alloc (.cells #[.int .i64 D.u, .int .i64 D.a, .int .i64 D.b, .int .i64 D.c] 58))
 have HB1 : Hid (Below w.heap.size w w1) := by unfold Hid; rw [hw1]; exact below_alloc1 _ _
 have HQ1 : Hid (Blk w1 w.heap.size 58 (arrW D)) := by unfold Hid; rw [hw1]; exact Blk.new _ _ _
 clear hF hL hn hgood hok hK
 go_enter Tryz.func191, Tryz.ntmps191
 go_wp2
 rw [← hw1]
 clear hw1
 go_loopw [6, 13] (fun h i wr => ∃ k : Nat, k ≤ n ∧ i = .int .i64 k ∧ h = .int .i64 (maskTo L k) ∧ Below w1.heap.size w1 wr) (fun _ i _ => n - (intOf i).toNat)
 case atStart => exact ⟨0, Nat.zero_le _, rfl, rfl, Below.refl _ _⟩
 case round =>
  obtain ⟨k, hk, rfl, rfl, hbr⟩ := hrel
  have HBr := hide hbr
  have HBw := hide (HB1.out.trans (hbr.mono HB1.out.size))
  clear hbr
  by_cases hlt : k < n
  ·obtain ⟨f, hf⟩ : ∃ f, fs[k]? = some f := ⟨_, List.getElem?_eq_getElem (by rw [← HN.out]; exact hlt)⟩
   obtain ⟨bL, oL, cL, hv⟩ := HF.out.place (by rw [← HN.out]; omega)
   obtain ⟨hlo, hx1, hx2⟩ := Value.slice.inj hv
   clear hx1 hx2
   subst hlo
   obtain ⟨hbL, va, vc, c0, c1, hA, hC⟩ := HF.out.at hf
   obtain ⟨ao, acap, rfl, _⟩ := hA.slice
   obtain ⟨co, ccap, rfl, _⟩ := hC.slice
   have x0 : wr.cell? ⟨bL, oL + k * 2, none⟩ = some (.slice ao f.ats.length acap) := (HBw.out.cell hbL).trans c0
   have x1 : wr.cell? ⟨bL, oL + k * 2 + 1, none⟩ = some (.slice co f.c.length ccap) := (HBw.out.cell hbL).trans c1
   have HH1 : Hid (∀ W, Below wr.heap.size wr W → Calls Tryz.prog 122 #[.agg #[.slice ao f.ats.length acap, .slice co f.c.length ccap], .agg #[.int .i64 D.u, .int .i64 D.a, .int .i64 D.b, .int .i64 D.c]] W (Bk w1 (.tuple #[.bool (L k), .nilIface]))) := fun W hW => by
    have hb' := HBw.out.trans (hW.mono HBw.out.size)
    have hb1 := HBr.out.trans (hW.mono HBr.out.size)
    exact (HHo.out k f _ _ W hf hb' (hA.below hb') (hC.below hb')).mono fun e w' ⟨he, hb⟩ => ⟨he, hb1.trans (hb.mono hb1.size)⟩
   obtain ⟨al, hal⟩ := nm f.ats.length
   obtain ⟨cl, hcl⟩ := nm f.c.length
   rw [← hal] at x0 HH1
   rw [← hcl] at x1 HH1
   obtain ⟨wf, hwf⟩ := nm (wr.alloc (.cells #[.slice ao al acap, .slice co cl ccap] 78))
   have HBf : Hid (Below wr.heap.size wr wf) := by unfold Hid; rw [hwf]; exact below_alloc1 _ _
   have HQf : Hid (Blk wf wr.heap.size 78 #[.slice ao al acap, .slice co cl ccap]) := by unfold Hid; rw [hwf]; exact Blk.new _ _ _
   have HH2 : Hid (Calls Tryz.prog 122 #[.agg #[.slice ao al acap, .slice co cl ccap], .agg #[.int .i64 D.u, .int .i64 D.a, .int .i64 D.b, .int .i64 D.c]] wf (Bk w1 (.tuple #[.bool (L k), .nilIface]))) := HH1.out _ HBf.out
   clear hf hv hbL c0 c1 hA hC hal hcl HH1
   have hkn : (k : Int) < (n : Int) := by omega
   obtain ⟨q, hq⟩ := nm (L k)
   have HQ := hide hq
   rw [← hq] at HH2
   clear hq
   go_upto_region 5 with fail
   rw [← hwf]
   clear hwf x0 x1
   have y0 : wf.cell? ⟨wr.heap.size, 0, none⟩ = some (.slice ao al acap) := HQf.out.cell 0
   have y1 : wf.cell? ⟨wr.heap.size, 1, none⟩ = some (.slice co cl ccap) := HQf.out.cell 1
   obtain ⟨d0, d1, d2, d3⟩ := ((HQ1.out.below HBr.out).below HBf.out).cells4
   go_wp2_with fail
   go_at_call 122
   refine HH2.out.mono ?_
   rintro e w8 ⟨rfl, hb8⟩
   have HB8 := hide hb8
   clear hb8 y0 y1 d0 d1 d2 d3
   cases q with
   | true =>
    have HS := hide (HOr.out k hlt HQ.out.symm)
    obtain ⟨m, hm⟩ := nm (maskTo L k)
    rw [← hm] at HS ⊢
    clear hm
    go_wp2_with fail
    go_at_call 193
    refine (coreBit_any k (by omega) _).mono ?_
    rintro e w' ⟨rfl, rfl⟩
    go_wp2
    go_roundw
    case rel => exact ⟨k + 1, by omega, by go_num, by rw [HS.out], HB8.out⟩
    case measure => simp [intOf]; omega
   | false =>
    have HS := hide (HNo.out k HQ.out.symm)
    go_wp2
    go_roundw
    case rel => exact ⟨k + 1, by omega, by go_num, by rw [HS.out], HB8.out⟩
    case measure => simp [intOf]; omega
  ·obtain rfl : k = n := by omega
   go_wp2
   go_ret2
   exact ⟨rfl, HBw.out⟩
end Go.Proofs.YtnoohlibgaeklaaGreatDoor
namespace Go.Proofs.YtnoohlibgaeklaaGreatDoor
open Go.RowKit
structure Over (B : Nat) (W W' : World) : Prop where
 size : W.heap.size ≤ W'.heap.size
 same : ∀ b, B ≤ b → b < W.heap.size → W'.heap[b]? = W.heap[b]?
theorem Over.refl (B : Nat) (W : World) : Over B W W := ⟨Nat.le_refl _, fun _ _ _ => rfl⟩
theorem Over.trans {B : Nat} {X Y Z : World} (h : Over B X Y) (k : Over B Y Z) : Over B X Z :=
 ⟨Nat.le_trans h.size k.size, fun b hb hl => (k.same b hb (Nat.lt_of_lt_of_le hl h.size)).trans (h.same b hb hl)⟩
theorem Over.mono {B B' : Nat} {W W' : World} (h : Over B W W') (hB : B ≤ B') : Over B' W W' := ⟨h.size, fun b hb hl => h.same b (Nat.le_trans hB hb) hl⟩
theorem Over.of_below {B : Nat} {W W' : World} (h : Below W.heap.size W W') : Over B W W' := ⟨h.size, fun b _ hl => h.block b hl⟩
theorem Over.alloc {B : Nat} {X W : World} (h : Over B X W) (o : Obj) : Over B X (W.alloc o) := h.trans (.of_below ((Below.refl _ _).alloc (Nat.le_refl _) _))
theorem Over.setCell {B : Nat} {X W : World} (h : Over B X W) {p : Addr} (hp : p.block < B) (u : Value) : Over B X (W.setCell p u) :=
 h.trans ⟨by simp [World.setCell], fun b hb _ => Below.heap_setCell _ _ _ _ (by omega)⟩
theorem Over.setNew {B : Nat} {X W : World} (h : Over B X W) {p : Addr} (hp : X.heap.size ≤ p.block) (u : Value) : Over B X (W.setCell p u) :=
 ⟨Nat.le_trans h.size (by simp [World.setCell]), fun b hb hl => (Below.heap_setCell _ _ _ _ (by omega)).trans (h.same b hb hl)⟩
theorem below_putObj {B l : Nat} (W : World) (o : Obj) (h : B ≤ l) : Below B W (W.putObj l o) :=
 ⟨rfl, rfl, rfl, by simp, fun k hk => World.putObj_heap_other (by omega)⟩
structure OverR (R : Nat → Prop) (B : Nat) (W W' : World) : Prop where
 size : W.heap.size ≤ W'.heap.size
 same : ∀ b, B ≤ b → b < W.heap.size → ¬ R b → W'.heap[b]? = W.heap[b]?
theorem OverR.of {R : Nat → Prop} {B : Nat} {W W' : World} (h : Over B W W') : OverR R B W W' := ⟨h.size, fun b hb hl _ => h.same b hb hl⟩
theorem OverR.trans {R : Nat → Prop} {B : Nat} {X Y Z : World} (h : OverR R B X Y) (k : OverR R B Y Z) : OverR R B X Z :=
 ⟨Nat.le_trans h.size k.size, fun b hb hl hr => (k.same b hb (Nat.lt_of_lt_of_le hl h.size) hr).trans (h.same b hb hl hr)⟩
structure KeepR (R : Nat → Prop) (B : Nat) (W W' : World) : Prop where
 below : Below B W W'
 own : ∀ b, R b → b < W.heap.size → W'.heap[b]? = W.heap[b]?
theorem KeepR.of_below {R : Nat → Prop} {B : Nat} {W W' : World} (h : Below W.heap.size W W') (hB : B ≤ W.heap.size) : KeepR R B W W' := ⟨h.mono hB, fun b _ hl => h.block b hl⟩
theorem KeepR.putObj {R : Nat → Prop} {B l : Nat} (W : World) (o : Obj) (h : B ≤ l) (hr : ¬ R l) : KeepR R B W (W.putObj l o) :=
 ⟨below_putObj _ _ h, fun _ hb _ => World.putObj_heap_other (fun e => hr (e ▸ hb))⟩
def SeqR {α : Type} (n : Nat) (P : Program) (g : Nat) (lb : Array Value) (encs : α → Array Value) (A : List α) (W : World) : Prop :=
 ∀ (l : Nat) (J : Nat → (Nat → Prop) → World → Prop) (Jx : Nat → World → Prop),
  (∀ k R W1 W2, J k R W1 → KeepR R W.heap.size W1 W2 → J k R W2) →
  (∀ k x R W1, A[k]? = some x → J k R W1 → YieldAt Fence.wide (n - 1) P l (encs x) W1 fun e W' =>
   (e = .returned (.bool true) ∧ ∃ R', J (k + 1) R' W' ∧ OverR R W.heap.size W1 W' ∧ ∀ b, R' b → R b ∨ W1.heap.size ≤ b) ∨ (e = .returned (.bool false) ∧ Jx (k + 1) W')) →
  J 0 (fun _ => False) W →
  CallsIn Fence.wide n P g (#[.func (.yield l) #[] #[]] ++ lb) W fun e W' => (∃ v, e = .returned v) ∧ ((∃ R, J A.length R W') ∨ ∃ k, k < A.length ∧ Jx (k + 1) W')
def roundPostR (R : Nat → Prop) (B : Nat) (I : Nat → (Nat → Prop) → World → Prop) (Ix : Nat → World → Prop) (k : Nat) (W : World) : Exit → Act → World → Prop
 | .normal, _, W' => OverR R B W W' ∧ ∃ R', I (k + 1) R' W' ∧ ∀ b, R' b → R b ∨ W.heap.size ≤ b
 | .ret, _, W' => OverR R B W W' ∧ Ix (k + 1) W'
 | _, _, _ => False
theorem SeqR.toS {α : Type} {n : Nat} {P : Program} {g : Nat} {lb : Array Value} {encs : α → Array Value} {A : List α} {W : World} (h : SeqR n P g lb encs A W) : SeqS n P g lb encs A (fun _ => False) W :=
 fun l J Jx hJ hY h0 => h l J Jx (fun k R W1 W2 j hk => hJ k R W1 W2 j ⟨hk.below.mono (Nat.zero_le _), fun b hb _ => hk.below.block b hb, hk.own⟩)
  (fun k x R W1 hx hj => by
   obtain ⟨fn, t, ac, bo, hy, hR⟩ := hY k x R W1 hx hj
   exact ⟨fn, t, ac, bo, hy, hR.mono fun e W' h => h.imp (fun ⟨h1, R', h2, h3, h4⟩ => ⟨h1, R', h2, ⟨h3.size, fun b hb hl hr => h3.same b (Or.inl hb) hl hr⟩, h4⟩) id⟩) h0
theorem wpIn_range_ownR {α : Type} {P : Program} {n : Nat} {g : Operand} {ps : Array Tmp} {assign body : Code} {Q : Exit → Act → World → Prop} {a : Act} {w : World}
    (h1 : 1 ≤ n) {gf : Nat} {lb : Array Value} (hg : a.eval g = .func (.func gf) #[] lb) (eg : ∀ args w, (callFunc gf args).run P w = .ok (.enter gf args) w)
    {encs : α → Array Value} {A : List α} (hseq : ∀ W, Below w.heap.size w W → SeqR (n - 1) P gf lb encs A W) (hps : ∀ x, (encs x).size = ps.size)
    (I : Nat → (Nat → Prop) → World → Prop) (Ix : Nat → World → Prop) (hI : ∀ k R W1 W2, I k R W1 → KeepR R w.heap.size W1 W2 → I k R W2) (hIx : ∀ k W1 W2, Ix k W1 → Below w.heap.size W1 W2 → Ix k W2) (h0 : I 0 (fun _ => False) w)
    (hround : ∀ (l k : Nat) (x : α) (R : Nat → Prop) (W : World), A[k]? = some x → w.heap.size ≤ l → l < W.heap.size → ¬ R l → I k R W →
     assign.wpIn (Fence.wide.inRound l) (n - 1 - 1) P (Exit.then (fun a1 W1 => Over w.heap.size W W1 ∧ ∀ o, body.wpIn (Fence.wide.inRound l) (n - 1 - 1) P (roundPostR R w.heap.size I Ix k (W1.putObj l o)) a1 (W1.putObj l o)) (fun _ _ _ => False))
      { tmps := (ps.zip (encs x)).foldl (fun t (p, v) => t.setIfInBounds p v) a.tmps, defers := [] } W)
    (hdone : ∀ (D : Nat) (R : Nat → Prop) (W : World), w.heap.size ≤ D → ¬ R D → I A.length R W → W.heap[D]? = some (.deferred (some [])) → Q .normal { a with defers := { target := .collected D, args := #[] } :: a.defers } W)
    (hstop : ∀ (D k : Nat) (W : World), w.heap.size ≤ D → k < A.length → Ix (k + 1) W → W.heap[D]? = some (.deferred (some [])) → Code.ret.wpIn Fence.wide n P Q { a with defers := { target := .collected D, args := #[] } :: a.defers } W) :
    (Code.rangeFunc g ps assign body).wpIn Fence.wide n P Q a w := by
 refine wpIn_range_ownS h1 hg eg (S := fun _ => False) (fun _ h => h.elim) (fun W hW => (hseq W hW).toS) hps I Ix
  (fun k R W1 W2 h hk => hI k R W1 W2 h ⟨⟨hk.rest.os, hk.rest.tape, hk.rest.output, hk.rest.size, fun b hb => hk.old b hb id⟩, hk.own⟩) hIx h0
  (fun l k x R W hx hl hlt hr hi => wpIn_mono (hround l k x R W hx hl hlt hr hi) fun e a1 W1 h => ?_) hdone hstop
 cases e with
 | normal =>
  refine ⟨⟨h.1.size, fun b hb hl _ => h.1.same b (hb.resolve_right id) hl⟩, fun o => wpIn_mono (h.2 o) fun e a W h => ?_⟩
  cases e with
  | normal => exact ⟨⟨h.1.size, fun b hb hl hr => h.1.same b (hb.resolve_right id) hl hr⟩, h.2⟩
  | ret => exact ⟨⟨h.1.size, fun b hb hl hr => h.1.same b (hb.resolve_right id) hl hr⟩, h.2⟩
  | _ => exact h
 | _ => exact h
def roundPostG (B : Nat) (I Ix : Nat → World → Prop) (k : Nat) (W : World) : Exit → Act → World → Prop
 | .normal, _, W' => Over B W W' ∧ I (k + 1) W'
 | .ret, _, W' => Over B W W' ∧ Ix (k + 1) W'
 | _, _, _ => False
theorem wpIn_range_own {α : Type} {P : Program} {n : Nat} {g : Operand} {ps : Array Tmp} {assign body : Code} {Q : Exit → Act → World → Prop} {a : Act} {w : World}
    (h1 : 1 ≤ n) {gf : Nat} {lb : Array Value} (hg : a.eval g = .func (.func gf) #[] lb) (eg : ∀ args w, (callFunc gf args).run P w = .ok (.enter gf args) w)
    {encs : α → Array Value} {A : List α} (hseq : ∀ W, Below w.heap.size w W → SeqR (n - 1) P gf lb encs A W) (hps : ∀ x, (encs x).size = ps.size)
    (I Ix : Nat → World → Prop) (hI : ∀ k W1 W2, I k W1 → Below w.heap.size W1 W2 → I k W2) (hIx : ∀ k W1 W2, Ix k W1 → Below w.heap.size W1 W2 → Ix k W2) (h0 : I 0 w)
    (hround : ∀ (l k : Nat) (x : α) (W : World), A[k]? = some x → w.heap.size ≤ l → l < W.heap.size → I k W →
     assign.wpIn (Fence.wide.inRound l) (n - 1 - 1) P (Exit.then (fun a1 W1 => Over w.heap.size W W1 ∧ ∀ o, body.wpIn (Fence.wide.inRound l) (n - 1 - 1) P (roundPostG w.heap.size I Ix k (W1.putObj l o)) a1 (W1.putObj l o)) (fun _ _ _ => False))
      { tmps := (ps.zip (encs x)).foldl (fun t (p, v) => t.setIfInBounds p v) a.tmps, defers := [] } W)
    (hdone : ∀ (D : Nat) (W : World), w.heap.size ≤ D → I A.length W → W.heap[D]? = some (.deferred (some [])) → Q .normal { a with defers := { target := .collected D, args := #[] } :: a.defers } W)
    (hstop : ∀ (D k : Nat) (W : World), w.heap.size ≤ D → k < A.length → Ix (k + 1) W → W.heap[D]? = some (.deferred (some [])) → Code.ret.wpIn Fence.wide n P Q { a with defers := { target := .collected D, args := #[] } :: a.defers } W) :
    (Code.rangeFunc g ps assign body).wpIn Fence.wide n P Q a w := by
 refine wpIn_range_ownR h1 hg eg hseq hps (fun k _ W => I k W) Ix (fun k R W1 W2 h hk => hI k W1 W2 h hk.below) hIx h0
  (fun l k x R W hx hl hlt hr hi => wpIn_mono (hround l k x W hx hl hlt hi) fun e a1 W1 h => ?_) (fun D R W hD _ h hd => hdone D W hD h hd) hstop
 cases e with
 | normal =>
  refine ⟨h.1, fun o => wpIn_mono (h.2 o) fun e a W h => ?_⟩
  cases e with
  | normal => exact ⟨.of h.1, fun _ => False, h.2, fun _ h => h.elim⟩
  | ret => exact ⟨.of h.1, h.2⟩
  | _ => exact h
 | _ => exact h
theorem arr8_put (N : Nat → Int) {f : Nat} (hf : f < 8) (x : Int) : (arr8 N).setIfInBounds f (.int .i64 x) = arr8 (putN N f x) := by
 rcases eight hf with rfl | rfl | rfl | rfl | rfl | rfl | rfl | rfl <;> simp [arr8, putN]
theorem Blk.putN {w : World} {G : Nat} {T : TypeId} {N : Nat → Int} (h : Blk w G T (arr8 N)) {f : Nat} (hf : f < 8) (x : Int) : Blk (w.setCell ⟨G, f, none⟩ (.int .i64 x)) G T (arr8 (putN N f x)) := by
 have := h.set f (.int .i64 x)
 rw [arr8_put N hf] at this
 exact this
theorem Blk.at8 {w : World} {G : Nat} {T : TypeId} {N : Nat → Int} (h : Blk w G T (arr8 N)) {f : Nat} (hf : f < 8) : w.cell? ⟨G, f, none⟩ = some (.int .i64 (N f)) := by rw [h.cell, arr8_get _ hf]
set_option maxHeartbeats 4000000 in
theorem after_any (N : Nat → Int) (w : World) (hN : ∀ f, f < 8 → 0 ≤ N f ∧ N f ≤ 6) :
    Calls Tryz.prog 120 #[.agg #[.int .i64 (N 0), .int .i64 (N 1), .int .i64 (N 2), .int .i64 (N 3), .int .i64 (N 4), .int .i64 (N 5), .int .i64 (N 6), .int .i64 (N 7)]] w (Bk w (.tuple #[.agg (arr8 (afterO N)), .bool (!(lastTo N 8 == 0))])) := by
 obtain ⟨Z, hZ⟩ : ∃ Z : Nat → Int, Z = zeroC := ⟨_, rfl⟩
 obtain ⟨w1, hw1⟩ := nm ((w.alloc (.cells #[.int .i64 (N 0), .int .i64 (N 1), .int .i64 (N 2), .int .i64 (N 3), .int .i64 (N 4), .int .i64 (N 5), .int .i64 (N 6), .int .i64 (N 7)] 60)).alloc (.cells #[.int .i64 0, .int .i64 0, .int .i64 0, .int .i64 0, .int .i64 0, .int .i64 0, .int .i64 0, .int .i64 0] 60))
 have HW : Hid (Below w.heap.size w w1) := by unfold Hid; rw [hw1]; exact (below_alloc1 _ _).alloc (by simp) _
 have HK0 : Hid (Blk w1 w.heap.size 60 (arr8 N)) := by unfold Hid; rw [hw1]; exact (Blk.new _ _ _).old _
 have HK1 : Hid (Blk w1 (w.heap.size + 1) 60 (arr8 Z)) := by
  unfold Hid; rw [hw1, hZ]
  have := Blk.new (w.alloc (.cells (arr8 N) 60)) 60 (arr8 zeroC)
  simp only [World.size_alloc] at this
  exact this
 have HX : Hid (∀ k, k < 8 → w1.cell? ⟨w.heap.size, k, none⟩ = some (.int .i64 (N k))) := fun k hk => HK0.out.at8 hk
 have HN := hide hN
 have HZ := hide hZ
 clear hN hZ
 go_enter Tryz.func120, Tryz.ntmps120
 go_wp2_with fail
 rw [← hw1]
 clear hw1
 go_loop [4, 7] (fun l i => ∃ k : Nat, k ≤ 8 ∧ i = .int .i64 k ∧ l = .int .i64 (lastTo N k)) (fun _ i => 8 - (intOf i).toNat)
 case atStart => exact ⟨0, Nat.zero_le _, rfl, rfl⟩
 case round =>
  obtain ⟨k, hk, rfl, rfl⟩ := hrel
  by_cases hlt : k < 8
  ·have hc := HX.out k hlt
   have hp0 := HN.out k hlt
   obtain ⟨x, hx⟩ := nm (N k)
   rw [← hx] at hc hp0
   have HXk := hide hx
   clear hx
   by_cases hp : 0 < x
   ·have HS : Hid (lastTo N (k + 1) = k) := by unfold Hid lastTo; rw [if_pos (by rw [← HXk.out]; exact hp)]
    go_wp2
    go_round
    case rel => exact ⟨k + 1, by omega, by go_num, by rw [HS.out]⟩
    case measure => simp [intOf]; omega
   ·have HS : Hid (lastTo N (k + 1) = lastTo N k) := by unfold Hid; rw [lastTo, if_neg (by rw [← HXk.out]; exact hp)]
    go_wp2
    go_round
    case rel => exact ⟨k + 1, by omega, by go_num, by rw [HS.out]⟩
    case measure => simp [intOf]; omega
  ·obtain rfl : k = 8 := by omega
   have hL8 := lastTo_lt N 8
   have HO : Hid (afterO N = if lastTo N 8 = 0 then zeroC else afterL N (lastTo N 8)) := rfl
   obtain ⟨L, hL⟩ := nm (lastTo N 8)
   rw [← hL] at hL8 HO ⊢
   have HLL := hide hL
   clear hL
   by_cases h0 : L = 0
   ·subst h0
    have HO2 : Hid (afterO N = Z) := by unfold Hid; rw [HO.out, HZ.out]; rfl
    obtain ⟨r0, r1, r2, r3, r4, r5, r6, r7⟩ := HK1.out.cells8
    obtain ⟨f0, f1, f2, f3, f4, f5, f6, f7⟩ := HK1.out.frozen8
    go_wp2
    have hld := load8 (put8_blk HK1.out zeroC)
    refine bodyPost_ret (v := .tuple #[.agg (arr8 zeroC), .bool false]) ?_ rfl ⟨?_, ?_⟩
    ·rw [results_cell_tmp rfl]
     unfold put8 at hld
     simp [asAddr, Result.andThen, hld, zeroC] at hld ⊢
    ·rw [HO2.out, HZ.out, ← HLL.out]; rfl
    ·exact put8_below HW.out (by omega) zeroC
   ·obtain ⟨m, hm⟩ : ∃ m, L = m + 1 := ⟨L - 1, by omega⟩
    subst hm
    have hm8 : m + 1 < 8 := hL8 (by omega)
    clear hL8 h0
    have HO2 : Hid (afterO N = putN (putN (putN N (m + 1) 0) m (N m + 1)) 7 (N (m + 1) - 1)) := by
     unfold Hid; rw [HO.out, if_neg (by omega)]; rfl
    have eL : ((m + 1 : Nat) : Int) = (m : Int) + 1 := by omega
    rw [eL]
    clear eL
    have hx1 := HN.out (m + 1) hm8
    have hx2 := HN.out m (by omega)
    have c1 : w1.cell? ⟨w.heap.size, m + 1, none⟩ = some (.int .i64 (N (m + 1))) := HX.out _ hm8
    have z1 : w1.frozen? ⟨w.heap.size, m + 1, none⟩ = false := HK0.out.frozen _
    obtain ⟨x, hx⟩ := nm (N (m + 1))
    obtain ⟨y, hy⟩ := nm (N m)
    rw [← hx] at c1 hx1
    rw [← hy] at hx2
    have HXx := hide hx
    have HXy := hide hy
    clear hx hy
    obtain ⟨w2, hw2⟩ := nm (w1.setCell ⟨w.heap.size, m + 1, none⟩ (.int .i64 0))
    have HB2 : Hid (Below w.heap.size w w2) := by unfold Hid; rw [hw2]; exact HW.out.setCell (by simp) _
    have H2 : Hid (Blk w2 w.heap.size 60 (arr8 (putN N (m + 1) 0))) := by unfold Hid; rw [hw2]; exact HK0.out.putN hm8 0
    have R2 : Hid (Blk w2 (w.heap.size + 1) 60 (arr8 Z)) := by unfold Hid; rw [hw2]; exact HK1.out.far (by omega) _ _
    go_upto_region 12 with fail
    rw [← hw2]
    clear hw2 c1 z1
    have c2 : w2.cell? ⟨w.heap.size, m, none⟩ = some (.int .i64 y) := by rw [H2.out.at8 (by omega), putN_other _ (by omega), HXy.out]
    have z2 : w2.frozen? ⟨w.heap.size, m, none⟩ = false := H2.out.frozen _
    obtain ⟨w3, hw3⟩ := nm (w2.setCell ⟨w.heap.size, m, none⟩ (.int .i64 (y + 1)))
    have HB3 : Hid (Below w.heap.size w w3) := by unfold Hid; rw [hw3]; exact HB2.out.setCell (by simp) _
    have H3 : Hid (Blk w3 w.heap.size 60 (arr8 (putN (putN N (m + 1) 0) m (y + 1)))) := by unfold Hid; rw [hw3]; exact H2.out.putN (by omega) _
    have R3 : Hid (Blk w3 (w.heap.size + 1) 60 (arr8 Z)) := by unfold Hid; rw [hw3]; exact R2.out.far (by omega) _ _
    go_upto_region 13 with fail
    rw [← hw3]
    clear hw3 c2 z2
    have c3 := H3.out.at8 (f := 7) (by omega)
    have z3 : w3.frozen? ⟨w.heap.size, 7, none⟩ = false := H3.out.frozen _
    obtain ⟨w4, hw4⟩ := nm (w3.setCell ⟨w.heap.size, 7, none⟩ (.int .i64 (x - 1)))
    have HB4 : Hid (Below w.heap.size w w4) := by unfold Hid; rw [hw4]; exact HB3.out.setCell (by simp) _
    obtain ⟨M, hM⟩ := nm (afterO N)
    have H4 : Hid (Blk w4 w.heap.size 60 (arr8 M)) := by
     unfold Hid; rw [hw4, hM, HO2.out, ← HXx.out, ← HXy.out]; exact H3.out.putN (by omega) _
    have R4 : Hid (Blk w4 (w.heap.size + 1) 60 (arr8 Z)) := by unfold Hid; rw [hw4]; exact R3.out.far (by omega) _ _
    go_upto_region 14 with fail
    rw [← hw4]
    clear hw4 c3 z3
    have HM := hide hM
    clear hM
    obtain ⟨n0, n1, n2, n3, n4, n5, n6, n7⟩ := H4.out.cells8
    obtain ⟨r0, r1, r2, r3, r4, r5, r6, r7⟩ := R4.out.cells8
    obtain ⟨f0, f1, f2, f3, f4, f5, f6, f7⟩ := R4.out.frozen8
    go_wp2
    have hld := load8 (put8_blk R4.out M)
    refine bodyPost_ret (v := .tuple #[.agg (arr8 M), .bool true]) ?_ rfl ⟨?_, ?_⟩
    ·rw [results_cell_tmp rfl]
     unfold put8 at hld
     simp [asAddr, Result.andThen, hld]
    ·rw [← HM.out, ← HLL.out]; rfl
    ·exact put8_below HB4.out (by omega) M
end Go.Proofs.YtnoohlibgaeklaaGreatDoor
namespace Go.Proofs.YtnoohlibgaeklaaGreatDoor
open Go.ChangeShapes Go.WideShapes Go.ChangeAt Go.RowKit
set_option maxRecDepth 100000
theorem fitCheck_ok (n : Nat) (hn : n ≤ 6) (w : World) : Calls Tryz.prog 119 #[.int .i64 n] w (Sk w .nilIface) := by
 have h : okB (n : Int) 0 = true := ok_zero (by omega) (by omega)
 go_enter Tryz.func119, Tryz.ntmps119
 go_wp2_with fail
 go_at_call 32
 refine (check_ok _ _ h _).mono ?_
 rintro e w' ⟨rfl, rfl⟩
 go_wp2
 go_ret
 exact ⟨rfl, rfl⟩
theorem fitCheck_no (u : Int) (hu : ¬ (0 ≤ u ∧ u ≤ 6)) (w : World) : Calls Tryz.prog 119 #[.int .i64 u] w (Sk w (.iface 91 (.int .i64 1))) := by
 have h : okB u 0 = false := okB_not.2 fun h => hu ⟨h.1, h.2.1⟩
 go_enter Tryz.func119, Tryz.ntmps119
 go_wp2_with fail
 go_at_call 32
 refine (check_no _ _ h _).mono ?_
 rintro e w' ⟨rfl, rfl⟩
 go_wp2
 go_ret
 exact ⟨rfl, rfl⟩
theorem fitAll_any (u : Int) (w : World) : Calls Tryz.prog 80 #[.int .i64 u] w fun e w' => e = .returned (.func (.func 118) #[] #[.pointer (some ⟨w.heap.size, 0, none⟩)]) ∧ w' = w.alloc (.cells #[.int .i64 u] 3) := by
 go_enter Tryz.func80, Tryz.ntmps80
 go_wp2
 go_ret
 exact ⟨rfl, rfl⟩
end Go.Proofs.YtnoohlibgaeklaaGreatDoor
namespace Go.Proofs.YtnoohlibgaeklaaGreatDoor
open Go.ChangeShapes Go.WideShapes Go.ChangeAt Go.RowKit
set_option maxRecDepth 100000
theorem every_first (u : Nat) : ∃ M, (everyC u)[0]? = some M ∧ ∀ g, g < 8 → M g = if g = 7 then (u : Int) else 0 := by
 obtain ⟨M, h1, h2⟩ := allF_head 7 u fun _ => 0
 have hl : (allF 7 u fun _ => 0) = everyC u := rfl
 rw [hl] at h1
 refine ⟨M, h1, fun g hg => ?_⟩
 obtain ⟨h3, h4⟩ := everyC_sum (List.mem_of_getElem? h1)
 have e : sumN M 8 = M 0 + M 1 + M 2 + M 3 + M 4 + M 5 + M 6 + M 7 := by
  show (((((((((0 : Int) + M 0) + M 1) + M 2) + M 3) + M 4) + M 5) + M 6) + M 7) = _
  omega
 have a0 := h3 0 (by omega)
 have a1 := h3 1 (by omega)
 have a2 := h3 2 (by omega)
 have a3 := h3 3 (by omega)
 have a4 := h3 4 (by omega)
 have a5 := h3 5 (by omega)
 have a6 := h3 6 (by omega)
 rcases eight hg with rfl | rfl | rfl | rfl | rfl | rfl | rfl | rfl
 ·rw [if_neg (by omega)]; omega
 ·rw [if_neg (by omega)]; omega
 ·rw [if_neg (by omega)]; omega
 ·rw [if_neg (by omega)]; omega
 ·rw [if_neg (by omega)]; omega
 ·rw [if_neg (by omega)]; omega
 ·rw [if_neg (by omega)]; omega
 ·rw [if_pos rfl]; exact h2
def enc8 (M : Nat → Int) : Array Value := #[.agg #[.int .i64 (M 0), .int .i64 (M 1), .int .i64 (M 2), .int .i64 (M 3), .int .i64 (M 4), .int .i64 (M 5), .int .i64 (M 6), .int .i64 (M 7)]]
theorem Blk.over {B G : Nat} {W W' : World} {T : TypeId} {cs : Array Value} (h : Blk W G T cs) (hO : Over B W W') (hB : B ≤ G) : Blk W' G T cs := by
 unfold Blk; rw [hO.same G hB h.lt]; exact h
set_option maxHeartbeats 4000000 in
theorem iter_any (u : Nat) (hu : u ≤ 6) (n : Nat) (hn : 1 ≤ n) (Bu : Nat) (W : World) (hB : W.cell? ⟨Bu, 0, none⟩ = some (.int .i64 u)) :
    SeqR n Tryz.prog 118 #[.pointer (some ⟨Bu, 0, none⟩)] enc8 (everyC u) W := by
 intro l J Jx hJ hY h0
 obtain ⟨M0, hM0, hM0'⟩ := every_first u
 obtain ⟨A, hA⟩ := nm (everyC u)
 have HST : Hid (∀ (i : Nat) (M : Nat → Int), A[i]? = some M → (lastTo M 8 ≠ 0 ∧ ∃ M', A[i + 1]? = some M' ∧ ∀ f, f < 8 → afterN M f = M' f) ∨ (lastTo M 8 = 0 ∧ i + 1 = A.length)) := fun i M hi => by
  rw [hA] at hi ⊢; exact every_steps hu hi
 have HBO : Hid (∀ (i : Nat) (M : Nat → Int), A[i]? = some M → ∀ f, f < 8 → 0 ≤ M f ∧ M f ≤ 6) := fun i M hi f hf => by
  rw [hA] at hi
  have := (everyC_sum (List.mem_of_getElem? hi)).1 f hf
  omega
 have HCk : Hid (∀ W, Calls Tryz.prog 119 #[.int .i64 u] W (Sk W .nilIface)) := fun W => fitCheck_ok u hu W
 rw [← hA] at hM0 hY ⊢
 clear hA hu
 have HY : Hid (∀ (k : Nat) (x : Nat → Int) (R : Nat → Prop) (W1 : World), A[k]? = some x → J k R W1 → YieldAt Fence.wide (n - 1) Tryz.prog l #[.agg #[.int .i64 (x 0), .int .i64 (x 1), .int .i64 (x 2), .int .i64 (x 3), .int .i64 (x 4), .int .i64 (x 5), .int .i64 (x 6), .int .i64 (x 7)]] W1 fun e W' =>
     (e = .returned (.bool true) ∧ ∃ R', J (k + 1) R' W' ∧ OverR R W.heap.size W1 W' ∧ ∀ b, R' b → R b ∨ W1.heap.size ≤ b) ∨ (e = .returned (.bool false) ∧ Jx (k + 1) W')) := hY
 have HJ := hide hJ
 clear hY hJ
 have e8 : Hid (arr8 M0 = #[.int .i64 0, .int .i64 0, .int .i64 0, .int .i64 0, .int .i64 0, .int .i64 0, .int .i64 0, .int .i64 u]) := by
  unfold Hid arr8
  rw [hM0' 0 (by omega), hM0' 1 (by omega), hM0' 2 (by omega), hM0' 3 (by omega), hM0' 4 (by omega), hM0' 5 (by omega), hM0' 6 (by omega), hM0' 7 (by omega)]
  rfl
 have H0 := hide h0
 have HM0 := hide hM0
 clear hM0' h0 hM0
 refine callsIn_of_wp Tryz.func118 rfl trivial ?_ rfl
 simp only [Tryz.ntmps118, List.size_toArray, List.length_cons, List.length_nil, Nat.reduceAdd, Nat.reduceSub, Array.replicate_succ, Array.replicate_zero, List.push_toArray, List.append_toArray, List.nil_append, List.cons_append]
 have hBu : Bu < W.heap.size := World.block_lt_of_cell? _ _ hB
 have hBa : (W.drew.alloc (.cells #[.int .i64 0, .int .i64 0, .int .i64 0, .int .i64 0, .int .i64 0, .int .i64 0, .int .i64 0, .int .i64 0] 60)).cell? ⟨Bu, 0, none⟩ = some (.int .i64 u) := (World.cell?_alloc_lt _ _ _ hBu).trans hB
 gi_upto_region 0 with fail
 gi_cut [3, 4] from 5 (fun p ok wr => p = .pointer (some ⟨W.heap.size, 0, none⟩) ∧ ok = .bool true ∧ Below W.heap.size W wr ∧ Blk wr W.heap.size 60 (arr8 M0))
 case first =>
  gi_region_with (refine ⟨trivial, ?_⟩; gi_at_call 119; refine (callsIn_wide.2 (HCk.out _)).mono ?_; rintro e w8 ⟨rfl, rfl⟩)
  all_goals (try gi_wp2)
  all_goals gi_meet
  all_goals exact ⟨rfl, rfl, (below_alloc1 W _).drew, by rw [e8.out]; exact (Blk.new W _ _).drew⟩
 case rest =>
 obtain ⟨rfl, rfl, hb1, hk1⟩ := hcut
 have HK1 : Hid (Blk wc W.heap.size 60 (arr8 M0)) := hk1
 have HJ1 : Hid (J 0 (fun _ => False) wc) := HJ.out _ _ _ _ H0.out ⟨hb1, fun _ h _ => h.elim⟩
 clear hb1 hk1
 gi_wp2
 gi_loopg [4] (A.length) (fun gk ok wr => (∃ (k : Nat) (M : Nat → Int) (R : Nat → Prop), ok = .bool true ∧ A[k]? = some M ∧ gk = A.length - k ∧ (J k R wr ∧ ¬ R W.heap.size) ∧ Blk wr W.heap.size 60 (arr8 M)) ∨ (ok = .bool false ∧ ∃ R, J A.length R wr))
 case atStart => exact Or.inl ⟨0, M0, _, rfl, HM0.out, rfl, ⟨HJ1.out, fun h => h⟩, HK1.out⟩
 case round =>
  rcases hrel with ⟨k, M, R, rfl, hM, hg, ⟨hj, hr⟩, hk⟩ | ⟨rfl, hj⟩
  ·have HM := hide hM
   have HG := hide hg
   have HKk : Hid (Blk wr W.heap.size 60 (arr8 M)) := hk
   have HL : Hid (k < A.length) := (List.getElem?_eq_some_iff.1 hM).1
   have HRn := hide hr
   obtain ⟨fn, tmps, assign, body, hy, hR⟩ := HY.out k M R wr hM hj
   obtain ⟨x0, x1, x2, x3, x4, x5, x6, x7⟩ := hk.cells8
   clear hM hg hk hj hr
   gi_wp2
   refine hR.mono ?_
   rintro e W3 (⟨rfl, R', hJ3, hO3, hR3⟩ | ⟨rfl, hJx3⟩)
   ·have HJ3 := hide hJ3
    have HK3 : Hid (Blk W3 W.heap.size 60 (arr8 M)) := by
     unfold Hid Blk; rw [hO3.same _ (Nat.le_refl _) HKk.out.lt HRn.out]; exact HKk.out
    have HR' : Hid (¬ R' W.heap.size) := fun h => by
     rcases hR3 _ h with h | h
     ·exact HRn.out h
     ·have := HKk.out.lt; omega
    obtain ⟨M', hM'⟩ := nm (afterO M)
    obtain ⟨ok, hok⟩ : ∃ b, b = !(lastTo M 8 == 0) := ⟨_, rfl⟩
    have HAf : Hid (∀ W, Calls Tryz.prog 120 #[.agg #[.int .i64 (M 0), .int .i64 (M 1), .int .i64 (M 2), .int .i64 (M 3), .int .i64 (M 4), .int .i64 (M 5), .int .i64 (M 6), .int .i64 (M 7)]] W (Bk W (.tuple #[.agg #[.int .i64 (M' 0), .int .i64 (M' 1), .int .i64 (M' 2), .int .i64 (M' 3), .int .i64 (M' 4), .int .i64 (M' 5), .int .i64 (M' 6), .int .i64 (M' 7)], .bool ok]))) := fun W => by
     rw [hM', hok]; exact after_any M W (HBO.out k M HM.out)
    have HM' := hide hM'
    have Hok := hide hok
    clear hJ3 hO3 hR3 x0 x1 x2 x3 x4 x5 x6 x7 hy hR hM' hok
    obtain ⟨x0, x1, x2, x3, x4, x5, x6, x7⟩ := HK3.out.cells8
    gi_wp2_with fail
    refine ⟨trivial, ?_⟩
    gi_at_call 120
    refine (callsIn_wide.2 (HAf.out _)).mono ?_
    rintro e W4 ⟨rfl, hb4⟩
    have HK4 := hide (HK3.out.below hb4)
    have HJ4 : Hid (J (k + 1) R' W4) := HJ.out _ _ _ _ HJ3.out (.of_below hb4 (Nat.le_of_lt HK3.out.lt))
    clear hb4 x0 x1 x2 x3 x4 x5 x6 x7
    obtain ⟨x0, x1, x2, x3, x4, x5, x6, x7⟩ := HK4.out.cells8
    obtain ⟨f0, f1, f2, f3, f4, f5, f6, f7⟩ := HK4.out.frozen8
    gi_wp2
    have hJ5 : J (k + 1) R' (put8 W4 W.heap.size M') := HJ.out _ _ _ _ HJ4.out ⟨put8_below (Below.refl _ _) (Nat.le_refl _) _, fun b hb _ => by
     have hne : b ≠ W.heap.size := fun e => HR'.out (e ▸ hb)
     unfold put8
     repeat rw [Below.heap_setCell _ _ _ _ (by exact hne)]⟩
    rcases HST.out k M HM.out with ⟨h0, M2, hM2, he⟩ | ⟨h0, he⟩
    ·gi_roundg (A.length - (k + 1))
     case rel =>
      refine Or.inl ⟨k + 1, M2, R', ?_, hM2, rfl, ⟨hJ5, HR'.out⟩, ?_⟩
      ·rw [Hok.out]; simp [h0]
      ·have hb := put8_blk HK4.out M'
       have e : arr8 M' = arr8 M2 := arr8_same fun f hf => by rw [HM'.out]; unfold afterO; rw [if_neg h0]; exact he f hf
       rw [e] at hb
       exact hb
     case measure => have := HL.out; rw [HG.out]; omega
    ·gi_roundg 0
     case rel => exact Or.inr ⟨by rw [Hok.out, h0]; rfl, R', by rw [← he]; exact hJ5⟩
     case measure => have := HL.out; rw [HG.out]; omega
   ·gi_wp2
    go_end0
    exact ⟨⟨_, rfl⟩, .inr ⟨k, HL.out, hJx3⟩⟩
  ·have HJe := hide hj
   clear hj
   gi_wp2
   refine ⟨fun _ _ => trivial, ?_⟩
   gi_wp2
   go_end0
   exact ⟨⟨_, rfl⟩, .inl HJe.out⟩
theorem Blk.keep {B G : Nat} {W W' : World} {T : TypeId} {cs : Array Value} (h : Blk W G T cs) (hb : Below B W W') (hG : G < B) : Blk W' G T cs := by
 unfold Blk; rw [hb.block G hG]; exact h
theorem Blk.putO {G l : Nat} {W : World} {T : TypeId} {cs : Array Value} (h : Blk W G T cs) (o : Obj) (hl : G ≠ l) : Blk (W.putObj l o) G T cs := by
 unfold Blk; rw [World.putObj_heap_other hl]; exact h
theorem results_two {fn : Func} {p q : Tmp} {ty tz : TypeId} (h : fn.results = #[.cell p ty, .cell q tz]) (tmps : Array Value) (P : Program) (w : World) :
    (results fn tmps).run P w = ((asAddr (tmps.getD p undef)).run P w).andThen fun a w1 => ((loadVar ty a).run P w1).andThen fun v w2 => ((asAddr (tmps.getD q undef)).run P w2).andThen fun b w3 => ((loadVar tz b).run P w3).andThen fun u w4 => .ok (.tuple #[v, u]) w4 := by
 simp only [results, h]
 simp [Sem.run_bind, Result.andThen]
theorem loadI {W : World} {R : Nat} {v : Value} (h : Blk W R 3 #[v]) : (loadVar 3 ⟨R, 0, none⟩).run Tryz.prog W = .ok v W := by
 have hc : W.cell? ⟨R, 0, none⟩ = some v := h.cell 0
 simp [loadVar, Tryz.isAgg3, Result.andThen, hc]
theorem loadE {W : World} {R : Nat} {v : Value} (h : Blk W R 34 #[v]) : (loadVar 34 ⟨R, 0, none⟩).run Tryz.prog W = .ok v W := by
 have hc : W.cell? ⟨R, 0, none⟩ = some v := h.cell 0
 simp [loadVar, Tryz.isAgg34, Result.andThen, hc]
theorem five_new (w : World) (o0 o1 o2 o3 o4 : Obj) :
    (((((w.alloc o0).alloc o1).alloc o2).alloc o3).alloc o4).heap.size = w.heap.size + 5 ∧
    (((((w.alloc o0).alloc o1).alloc o2).alloc o3).alloc o4).heap[w.heap.size]? = some o0 ∧
    (((((w.alloc o0).alloc o1).alloc o2).alloc o3).alloc o4).heap[w.heap.size + 1]? = some o1 ∧
    (((((w.alloc o0).alloc o1).alloc o2).alloc o3).alloc o4).heap[w.heap.size + 1 + 1]? = some o2 ∧
    (((((w.alloc o0).alloc o1).alloc o2).alloc o3).alloc o4).heap[w.heap.size + 1 + 1 + 1]? = some o3 ∧
    (((((w.alloc o0).alloc o1).alloc o2).alloc o3).alloc o4).heap[w.heap.size + 1 + 1 + 1 + 1]? = some o4 ∧
    Below w.heap.size w (((((w.alloc o0).alloc o1).alloc o2).alloc o3).alloc o4) := by
 have s1 : (w.alloc o0).heap.size = w.heap.size + 1 := World.size_alloc _ _
 have s2 : ((w.alloc o0).alloc o1).heap.size = w.heap.size + 1 + 1 := by rw [World.size_alloc, s1]
 have s3 : (((w.alloc o0).alloc o1).alloc o2).heap.size = w.heap.size + 1 + 1 + 1 := by rw [World.size_alloc, s2]
 have s4 : ((((w.alloc o0).alloc o1).alloc o2).alloc o3).heap.size = w.heap.size + 1 + 1 + 1 + 1 := by rw [World.size_alloc, s3]
 refine ⟨by rw [World.size_alloc, s4], ?_, ?_, ?_, ?_, ?_, ?_⟩
 ·rw [Below.heap_alloc _ _ _ (by omega), Below.heap_alloc _ _ _ (by omega), Below.heap_alloc _ _ _ (by omega), Below.heap_alloc _ _ _ (by omega)]; exact World.alloc_heap_new _ _
 ·rw [Below.heap_alloc _ _ _ (by omega), Below.heap_alloc _ _ _ (by omega), Below.heap_alloc _ _ _ (by omega), ← s1]; exact World.alloc_heap_new _ _
 ·rw [Below.heap_alloc _ _ _ (by omega), Below.heap_alloc _ _ _ (by omega), ← s2]; exact World.alloc_heap_new _ _
 ·rw [Below.heap_alloc _ _ _ (by omega), ← s3]; exact World.alloc_heap_new _ _
 ·rw [← s4]; exact World.alloc_heap_new _ _
 ·exact (((((Below.refl _ w).alloc (Nat.le_refl _) _).alloc (by omega) _).alloc (by omega) _).alloc (by omega) _).alloc (by omega) _
end Go.Proofs.YtnoohlibgaeklaaGreatDoor
namespace Go.Proofs.YtnoohlibgaeklaaGreatDoor
open Go.ChangeShapes Go.WideShapes Go.ChangeAt Go.RowKit
set_option maxRecDepth 100000 in
set_option maxHeartbeats 4000000 in
theorem fcounts_any (N : Nat → Int) (w : World) :
    Calls Tryz.prog 148 #[.agg #[.int .i64 (N 0), .int .i64 (N 1), .int .i64 (N 2), .int .i64 (N 3), .int .i64 (N 4), .int .i64 (N 5), .int .i64 (N 6), .int .i64 (N 7)]] w (Bk w (errV (countsFault N))) := by
 obtain ⟨w1, hw1⟩ := nm (w.alloc (.cells #[.int .i64 (N 0), .int .i64 (N 1), .int .i64 (N 2), .int .i64 (N 3), .int .i64 (N 4), .int .i64 (N 5), .int .i64 (N 6), .int .i64 (N 7)] 60))
 have HW : Hid (Below w.heap.size w w1) := by unfold Hid; rw [hw1]; exact below_alloc1 _ _
 have HX : Hid (∀ k, k < 8 → w1.cell? ⟨w.heap.size, k, none⟩ = some (.int .i64 (N k))) := fun k hk => by
  rw [hw1]
  rcases eight hk with rfl | rfl | rfl | rfl | rfl | rfl | rfl | rfl <;> simp
 obtain ⟨F, hF⟩ := nm (countsFault N)
 have HF1 : Hid (∀ k, k < 8 → ¬ (0 ≤ N k ∧ N k ≤ 6) → errV F = .iface 91 (.int .i64 1)) := fun k hk h => by
  rw [hF]; unfold countsFault; rw [if_neg (by rw [eachB_no hk h]; decide)]; rfl
 have HF2 : Hid ((∀ f, f < 8 → 0 ≤ N f ∧ N f ≤ 6) → (sumN N 8 ≤ 6 → errV F = .nilIface) ∧ (6 < sumN N 8 → errV F = .iface 91 (.int .i64 4))) := fun h => by
  rw [hF]; unfold countsFault; rw [if_pos (eachB_iff.2 h)]
  exact ⟨fun h' => by rw [if_pos h']; rfl, fun h' => by rw [if_neg (by omega)]; rfl⟩
 rw [← hF]
 clear hF
 go_enter Tryz.func148, Tryz.ntmps148
 go_wp2
 rw [← hw1]
 clear hw1
 go_loop [6] (fun i => ∃ k : Nat, k ≤ 8 ∧ i = .int .i64 k ∧ ∀ f, f < k → 0 ≤ N f ∧ N f ≤ 6) (fun i => 8 - (intOf i).toNat)
 case atStart => exact ⟨0, Nat.zero_le _, rfl, fun f hf => by omega⟩
 case round =>
  obtain ⟨k, hk, rfl, hall⟩ := hrel
  have HA := hide hall
  clear hall
  by_cases hlt : k < 8
  ·have hc := HX.out k hlt
   obtain ⟨x, hx⟩ := nm (N k)
   rw [← hx] at hc
   have HXk := hide hx
   clear hx
   by_cases h0 : x < 0
   ·have HE : Hid (errV F = .iface 91 (.int .i64 1)) := HF1.out k hlt (by rw [← HXk.out]; omega)
    go_wp2
    go_ret
    exact ⟨back_v HE.out.symm, HW.out⟩
   by_cases h6 : 6 < x
   ·have HE : Hid (errV F = .iface 91 (.int .i64 1)) := HF1.out k hlt (by rw [← HXk.out]; omega)
    go_wp2
    go_ret
    exact ⟨back_v HE.out.symm, HW.out⟩
   ·have HN : Hid (∀ f, f < k + 1 → 0 ≤ N f ∧ N f ≤ 6) := fun f hf => by
     rcases Nat.lt_or_ge f k with h' | h'
     ·exact HA.out f h'
     ·obtain rfl : f = k := by omega
      rw [← HXk.out]; omega
    go_wp2
    go_round
    case rel => exact ⟨k + 1, by omega, by go_num, HN.out⟩
    case measure => simp [intOf]; omega
  ·obtain rfl : k = 8 := by omega
   go_wp2
   go_loop [4, 21] (fun s i => ∃ k : Nat, k ≤ 8 ∧ i = .int .i64 k ∧ s = .int .i64 (sumN N k)) (fun _ i => 8 - (intOf i).toNat)
   case atStart => exact ⟨0, Nat.zero_le _, rfl, rfl⟩
   case round =>
    obtain ⟨k, hk, rfl, rfl⟩ := hrel
    by_cases hlt2 : k < 8
    ·have hc := HX.out k hlt2
     have p1 := sumN_le (N := N) (k := k) fun f hf => HA.out f (by omega)
     have p2 := HA.out k (by omega)
     have HS : Hid (sumN N (k + 1) = sumN N k + N k) := rfl
     go_wp2
     go_round
     case rel => exact ⟨k + 1, by omega, by go_num, by rw [HS.out]⟩
     case measure => simp [intOf]; omega
    ·obtain rfl : k = 8 := by omega
     by_cases h6 : sumN N 8 ≤ 6
     ·have HE : Hid (errV F = .nilIface) := (HF2.out HA.out).1 h6
      go_wp2
      go_ret
      exact ⟨back_v HE.out.symm, HW.out⟩
     ·have h6' : 6 < sumN N 8 := by omega
      have HE : Hid (errV F = .iface 91 (.int .i64 4)) := (HF2.out HA.out).2 h6'
      go_wp2
      go_ret
      exact ⟨back_v HE.out.symm, HW.out⟩
end Go.Proofs.YtnoohlibgaeklaaGreatDoor