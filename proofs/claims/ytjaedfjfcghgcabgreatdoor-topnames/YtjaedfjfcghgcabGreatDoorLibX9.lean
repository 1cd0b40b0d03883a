/-
  Facts and contracts that the statement leans on.
-/
import Derived.Test.YtjaedfjfcghgcabGreatDoorLibX6
import Derived.Test.YtjaedfjfcghgcabGreatDoorLibX8
import Derived.Deep.Cut
import Derived.Test.YtjaedfjfcghgcabGreatDoorLibX7
import Derived.RangeFuncNested
import Derived.RangeFuncBound
import Derived.RangeFuncCalls
import Derived.Test.YtjaedfjfcghgcabGreatDoorLibX4
import Derived.Test.YtjaedfjfcghgcabGreatDoorLibX2
import Derived.Handy
import Derived.Shelf.Abstract
import Derived.WalkKit
import Derived.OwnWalkIn
import Derived.TacticsInMore
import Derived.LoopNIn
import Derived.LoopIn
import Derived.Sort.LoopGhostIn
import Derived.Test.YtjaedfjfcghgcabGreatDoorLibX3
import Derived.Stop.RegionWithIn
import Derived.Sort.CutIn
namespace Go.Proofs.YtjaedfjfcghgcabGreatDoor
open Go.ChangeShapes Go.WideShapes Go.ChangeAt Go.RowKit
set_option maxRecDepth 100000
theorem fholds_bad (va vc : Value) (ats : List At) (c : List Int) (u a b d : Int) (w : World) (hA : ReadsA w va ats) (hC : Reads w vc c) (hK : KindsLaid w) (hf : ¬ formFault ats c = 0) :
    Calls Tryz.prog 76 #[.agg #[va, vc], .agg #[.int .i64 u, .int .i64 a, .int .i64 b, .int .i64 d]] w (Bk w (.tuple #[.bool false, .iface 75 (.int .i64 (formFault ats c))])) := by
 obtain ⟨ao, acap, rfl, _⟩ := hA.slice
 obtain ⟨co, ccap, rfl, _⟩ := hC.slice
 obtain ⟨w1, hw1⟩ := nm ((w.alloc (.cells #[.slice ao ats.length acap, .slice co c.length ccap] 25)).alloc (.cells #[.int .i64 u, .int .i64 a, .int .i64 b, .int .i64 d] 34))
 have HB1 : Hid (Below w.heap.size w w1) := by unfold Hid; rw [hw1]; exact (below_alloc1 _ _).trans ((below_alloc1 _ _).mono (by simp))
 have HC : Hid (Calls Tryz.prog 14 #[.agg #[.slice ao ats.length acap, .slice co c.length ccap]] w1 (Bk w1 (.iface 75 (.int .i64 (formFault ats c))))) := by
  have := fcheck_any _ _ ats c w1 (hA.below HB1.out) (hC.below HB1.out) (hK.below HB1.out)
  rw [errV_no hf] at this
  exact this
 clear hA hC hK
 obtain ⟨F, hF⟩ := nm (formFault ats c)
 rw [← hF] at HC ⊢
 clear hF hf
 obtain ⟨m, hm⟩ := nm ats.length
 obtain ⟨n, hn⟩ := nm c.length
 rw [← hm, ← hn] at HC hw1 ⊢
 clear hm hn
 have x0 : ((w.alloc (.cells #[.slice ao m acap, .slice co n ccap] 25)).alloc (.cells #[.int .i64 u, .int .i64 a, .int .i64 b, .int .i64 d] 34)).cell? ⟨w.heap.size, 0, none⟩ = some (.slice ao m acap) := by
  rw [World.cell?_alloc_lt _ _ ⟨w.heap.size, 0, none⟩ (by simp)]; simp
 have x1 : ((w.alloc (.cells #[.slice ao m acap, .slice co n ccap] 25)).alloc (.cells #[.int .i64 u, .int .i64 a, .int .i64 b, .int .i64 d] 34)).cell? ⟨w.heap.size, 1, none⟩ = some (.slice co n ccap) := by
  rw [World.cell?_alloc_lt _ _ ⟨w.heap.size, 1, none⟩ (by simp)]; simp
 go_enter Tryz.func76, Tryz.ntmps76
 go_wp2_with fail
 rw [← hw1]
 clear hw1 x0 x1
 go_at_call 14
 refine HC.out.mono ?_
 rintro e w2 ⟨rfl, hb⟩
 have HB2 := hide (HB1.out.trans (hb.mono HB1.out.size))
 clear hb
 go_wp2
 go_ret2
 exact ⟨rfl, HB2.out⟩
theorem fholds_right (ao co : Option Addr) (acap ccap : Nat) (ats : List At) (c : List Int) (u a b d : Int) (w : World) (hA : ReadsA w (.slice ao ats.length acap) ats) (hC : Reads w (.slice co c.length ccap) c) (hK : KindsLaid w) (hf : formFault ats c = 0) (ok : Bool) (hok : (Wd.mk u a b d).ok = ok) :
    Calls Tryz.prog 76 #[.agg #[.slice ao ats.length acap, .slice co c.length ccap], .agg #[.int .i64 u, .int .i64 a, .int .i64 b, .int .i64 d]] w fun e w' => (if ok = true then e = .returned (.tuple #[.bool (valF ((Wd.mk u a b d).heldL ats) c), .nilIface]) else e = .returned (.tuple #[.bool false, .iface 75 (.int .i64 1)])) ∧ Below w.heap.size w w' := by
 obtain ⟨i0, hi, hz0, hz1, hz2⟩ := info_parts infoBool
 obtain ⟨⟨m1, m6⟩, ⟨n1, n20⟩, hall, hsg, hone⟩ := formFault_zero.1 hf
 obtain ⟨w1, hw1⟩ := nm ((w.alloc (.cells #[.slice ao ats.length acap, .slice co c.length ccap] 25)).alloc (.cells #[.int .i64 u, .int .i64 a, .int .i64 b, .int .i64 d] 34))
 have HB1 : Hid (Below w.heap.size w w1) := by unfold Hid; rw [hw1]; exact (below_alloc1 _ _).trans ((below_alloc1 _ _).mono (by simp))
 have HS1 : Hid (w1.heap.size = w.heap.size + 2) := by unfold Hid; rw [hw1]; simp
 have HCk : Hid (Calls Tryz.prog 14 #[.agg #[.slice ao ats.length acap, .slice co c.length ccap]] w1 (Bk w1 .nilIface)) := by
  have := fcheck_any _ _ ats c w1 (hA.below HB1.out) (hC.below HB1.out) (hK.below HB1.out)
  rw [hf, errV_0] at this
  exact this
 have HA := hide (hA.below HB1.out)
 have HC := hide (hC.below HB1.out)
 have HK := hide (hK.below HB1.out)
 clear hA hC hK
 have HX : Hid (∀ W, Below w1.heap.size w1 W → (W.cell? ⟨w.heap.size, 0, none⟩ = some (.slice ao ats.length acap) ∧ W.cell? ⟨w.heap.size, 1, none⟩ = some (.slice co c.length ccap)) ∧ (W.cell? ⟨w.heap.size + 1, 0, none⟩ = some (.int .i64 u) ∧ W.cell? ⟨w.heap.size + 1, 1, none⟩ = some (.int .i64 a) ∧ W.cell? ⟨w.heap.size + 1, 2, none⟩ = some (.int .i64 b) ∧ W.cell? ⟨w.heap.size + 1, 3, none⟩ = some (.int .i64 d))) := fun W hc => by
  have l0 : w.heap.size < w1.heap.size := by have := HS1.out; omega
  have l1 : w.heap.size + 1 < w1.heap.size := by have := HS1.out; omega
  have e0 : ∀ j, W.cell? ⟨w.heap.size, j, none⟩ = w1.cell? ⟨w.heap.size, j, none⟩ := fun j => hc.cell (show (⟨w.heap.size, j, none⟩ : Addr).block < _ from l0)
  have e1 : ∀ j, W.cell? ⟨w.heap.size + 1, j, none⟩ = w1.cell? ⟨w.heap.size + 1, j, none⟩ := fun j => hc.cell (show (⟨w.heap.size + 1, j, none⟩ : Addr).block < _ from l1)
  simp only [e0, e1]
  rw [hw1]
  have q : w.heap.size + 1 = (w.alloc (.cells #[.slice ao ats.length acap, .slice co c.length ccap] 25)).heap.size := by simp
  have r : ∀ o j, ((w.alloc (.cells #[.slice ao ats.length acap, .slice co c.length ccap] 25)).alloc o).cell? ⟨w.heap.size, j, none⟩ = (w.alloc (.cells #[.slice ao ats.length acap, .slice co c.length ccap] 25)).cell? ⟨w.heap.size, j, none⟩ := fun o j => World.cell?_alloc_lt _ _ ⟨w.heap.size, j, none⟩ (by simp)
  simp only [r]
  rw [q]
  simp
 have HH : Hid (∀ (x : At) vs vt W, x ∈ ats → Reads W vs x.s → Reads W vt x.t → Below w1.heap.size w1 W → Calls Tryz.prog 113 #[.agg #[.int .i64 x.k, vs, vt, .int .i64 x.n], .agg #[.int .i64 u, .int .i64 a, .int .i64 b, .int .i64 d]] W (Bk W (.tuple #[.bool (if ok = true then (Wd.mk u a b d).holds x.k x.s x.t x.n else false), if ok = true then .nilIface else .iface 75 (.int .i64 1)]))) := fun x vs vt W hx h1 h2 hW => by
  have := aholds_any x.k x.n vs vt x.s x.t u a b d W h1 h2 (HK.out.below hW)
  have hxf : atomFault x.k x.s x.t x.n = 0 := hall x hx
  have e0 : (Wd.mk u a b d).holdsFault x.k x.s x.t x.n = if ok = true then 0 else 1 := by unfold Wd.holdsFault; rw [if_pos hxf, hok]
  have e1 : (Wd.mk u a b d).holdsIs x.k x.s x.t x.n = if ok = true then (Wd.mk u a b d).holds x.k x.s x.t x.n else false := by
   unfold Wd.holdsIs; rw [e0]; cases ok <;> rfl
  rw [e0, e1] at this
  cases ok <;> exact this
 have HWk : Hid (∀ G W, ok = true → Below w1.heap.size w1 W → ReadsB W G 0 ((Wd.mk u a b d).heldL ats) → Calls Tryz.prog 114 #[.slice co c.length ccap, .slice (some ⟨G, 0, none⟩) ats.length ats.length] W (Bk W (.bool (valF ((Wd.mk u a b d).heldL ats) c)))) := fun G W _ hW hR => by
  have hlen : ((Wd.mk u a b d).heldL ats).length = ats.length := by simp [Wd.heldL]
  rcases HC.out.below hW with ⟨_, _, hv, hcn⟩ | ⟨B, off, cap, hv, hb, _, _, hc⟩
  ·rw [hcn] at n1; simp at n1
  cases hv
  have := fwork_any c B off ccap ((Wd.mk u a b d).heldL ats) G 0 ats.length W (by rw [hlen]; exact hsg) hone n20 (by rw [hlen]; exact m6) hb hc hR
  rw [hlen] at this
  exact this
 clear hall hsg hone hf hok
 obtain ⟨Hd, hHd⟩ : ∃ Hd : At → Bool, Hd = fun x => (Wd.mk u a b d).holds x.k x.s x.t x.n := ⟨_, rfl⟩
 have HHd : Hid ((Wd.mk u a b d).heldL ats = ats.map Hd) := by unfold Hid; rw [hHd]; rfl
 have HH' : Hid (∀ (x : At) vs vt W, x ∈ ats → Reads W vs x.s → Reads W vt x.t → Below w1.heap.size w1 W → Calls Tryz.prog 113 #[.agg #[.int .i64 x.k, vs, vt, .int .i64 x.n], .agg #[.int .i64 u, .int .i64 a, .int .i64 b, .int .i64 d]] W (Bk W (.tuple #[.bool (if ok = true then Hd x else false), if ok = true then .nilIface else .iface 75 (.int .i64 1)]))) := by
  rw [hHd]; exact HH
 rw [HHd.out] at HWk ⊢
 obtain ⟨V, hV⟩ := nm (valF (ats.map Hd) c)
 rw [← hV] at HWk ⊢
 clear hHd HH hV HHd
 obtain ⟨m, hm⟩ := nm ats.length
 obtain ⟨n, hn⟩ := nm c.length
 rw [← hm] at m1 m6 HCk HA HX HWk hw1 ⊢
 rw [← hn] at n1 n20 HCk HX HWk hw1 HC ⊢
 have HM := hide hm
 clear hm hn
 obtain ⟨f, hf⟩ : ∃ f : Nat → Value, f = fun j => .bool ((ats.map Hd).getD j false) := ⟨_, rfl⟩
 have HF := hide hf
 clear hf
 obtain ⟨⟨x0, x1⟩, ⟨y0, y1, y2, y3⟩⟩ := HX.out w1 (Below.refl _ _)
 rw [hw1] at x0 x1 y0 y1 y2 y3
 go_enter Tryz.func76, Tryz.ntmps76
 go_wp2_with fail
 rw [← hw1]
 clear hw1 x0 x1 y0 y1 y2 y3
 go_at_call 14
 refine HCk.out.mono ?_
 rintro e w2 ⟨rfl, hb⟩
 have HB2 := hide hb
 clear hb HCk
 obtain ⟨⟨x0, x1⟩, ⟨y0, y1, y2, y3⟩⟩ := HX.out w2 HB2.out
 obtain ⟨G, hG⟩ := nm w2.heap.size
 have HG := hide hG
 go_wp2_with (first | (at_make; refine wpList_make_full _ rfl _ _ 115 rfl G 4 i0 (.bool false) 1 Tryz.underlying115 hi hz0 hz1 .i64 .i64 _ _ m rfl rfl ?m0 ?m1 ?m2 ?m3 ?m4 ?_))
 case m0 => rfl
 case m1 => rfl
 case m2 => rw [hz2]; omega
 case m3 => unfold maxLen; omega
 case m4 => omega
 intro w3 hown1 hgrow1
 have HO : Hid (w3.ownsRow G 4 1 (.slice (some ⟨G, 0, none⟩) m m) m (fill f (.bool false) m 0) ∧ Below G w2 w3) := by
  refine ⟨?_, ?_⟩
  ·rw [fill_zero, ← toList_madeCells_one, hG]
   simpa [Value.cells, hG] using hown1
  ·exact (Below.refl _ _).grown hgrow1 (by omega) (fun k hk => by cases hk)
 rw [← hG]
 clear hown1 hgrow1 hG x0 x1 y0 y1 y2 y3
 have HB3 : Hid (∀ W, Below G w2 W → Below w1.heap.size w1 W) := fun W h => HB2.out.trans (h.mono (by rw [HG.out]; exact HB2.out.size))
 obtain ⟨⟨x0, x1⟩, ⟨y0, y1, y2, y3⟩⟩ := HX.out w3 (HB3.out _ HO.out.2)
 go_wp2
 go_loopw [24] (fun i wr => ∃ k : Nat, k ≤ m ∧ i = .int .i64 k ∧ wr.ownsRow G 4 1 (.slice (some ⟨G, 0, none⟩) m m) m (fill f (.bool false) m k) ∧ Below G w2 wr ∧ (0 < k → ok = true)) (fun i _ => m - (intOf i).toNat)
 case atStart => exact ⟨0, Nat.zero_le _, rfl, HO.out.1, HO.out.2, fun h => by omega⟩
 case round =>
  clear x0 x1 y0 y1 y2 y3
  obtain ⟨k, hk, rfl, hown, hbel, hkok⟩ := hrel
  have HB := hide hbel
  have HOW := hide hown
  clear hbel hown
  obtain ⟨⟨x0, x1⟩, ⟨y0, y1, y2, y3⟩⟩ := HX.out wr (HB3.out _ HB.out)
  by_cases hlt : k < m
  ·obtain ⟨x, hx⟩ : ∃ x, ats[k]? = some x := ⟨_, List.getElem?_eq_getElem (by have := HM.out; omega)⟩
   have HXm : Hid (x ∈ ats ∧ f k = .bool (Hd x)) := by
    refine ⟨List.mem_of_getElem? hx, ?_⟩
    rw [HF.out]; simp [hx]
   rcases HA.out.below (HB3.out _ HB.out) with ⟨_, _, _, hn0⟩ | ⟨B, off, cap, hv, hb, _, _, hatm⟩
   ·have := HM.out; rw [hn0] at this; simp at this; omega
   obtain rfl : ao = some ⟨B, off, none⟩ := by cases hv; rfl
   obtain ⟨vs, vt, c0, c1, c2, c3, r1, r2⟩ := hatm k x hx
   obtain ⟨sao, scap, rfl, _⟩ := r1.slice
   obtain ⟨tao, tcap, rfl, _⟩ := r2.slice
   clear hv hatm
   obtain ⟨w4, hw4⟩ := nm (wr.alloc (.cells #[.int .i64 x.k, .slice sao x.s.length scap, .slice tao x.t.length tcap, .int .i64 x.n] 50))
   have HB4 : Hid (Below wr.heap.size wr w4) := by unfold Hid; rw [hw4]; exact below_alloc1 wr _
   have HGr : Hid (G < wr.heap.size) := (ownsRow_block HOW.out).2.1
   have HBw : Hid (∀ W, Below wr.heap.size wr W → Below G w2 W) := fun W h => HB.out.trans (h.mono (by have := HGr.out; omega))
   have HCa : Hid (Calls Tryz.prog 113 #[.agg #[.int .i64 x.k, .slice sao x.s.length scap, .slice tao x.t.length tcap, .int .i64 x.n], .agg #[.int .i64 u, .int .i64 a, .int .i64 b, .int .i64 d]] w4 (Bk w4 (.tuple #[.bool (if ok = true then Hd x else false), if ok = true then .nilIface else .iface 75 (.int .i64 1)]))) :=
    HH'.out x _ _ w4 HXm.out.1 (r1.below HB4.out) (r2.below HB4.out) (HB3.out _ (HBw.out _ HB4.out))
   clear r1 r2 x0 x1 y0 y1 y2 y3
   obtain ⟨⟨x0, x1⟩, ⟨y0, y1, y2, y3⟩⟩ := HX.out w4 (HB3.out _ (HBw.out _ HB4.out))
   rw [hw4] at x0 x1 y0 y1 y2 y3
   go_wp2_with fail
   rw [← hw4]
   clear hw4 x0 x1 y0 y1 y2 y3
   go_at_call 113
   refine HCa.out.mono ?_
   rintro e w5 ⟨rfl, hb5⟩
   have HB5 := hide (HB4.out.trans (hb5.mono HB4.out.size))
   clear hb5 HCa
   cases ok
   ·simp only [Bool.false_eq_true, if_false]
    go_wp2
    go_ret2
    exact ⟨by simp, HB1.out.trans ((HB3.out _ (HBw.out _ HB5.out)).mono HB1.out.size)⟩
   ·simp only [if_true]
    have hown5 := ownsRow_below HOW.out HB5.out
    have hfr : w5.frozen? ⟨G, k, none⟩ = false := hown5.frozenAt k
    have hcg : w5.cell? ⟨G, k, none⟩ = some (.bool false) := by rw [hown5.cellAt k (by omega), fill_get _ _ _ _ _ hlt, if_neg (by omega)]
    have HR : Hid ((w5.setCell ⟨G, k, none⟩ (.bool (Hd x))).ownsRow G 4 1 (.slice (some ⟨G, 0, none⟩) m m) m (fill f (.bool false) m (k + 1)) ∧ Below G w2 (w5.setCell ⟨G, k, none⟩ (.bool (Hd x)))) := by
     have := hown5.stored k (f k)
     rw [fill_set, HXm.out.2] at this
     exact ⟨this.1, (HBw.out _ HB5.out).setCell (Nat.le_refl _) _⟩
    clear hown5
    go_wp2
    go_roundw
    case rel => exact ⟨k + 1, by omega, by go_num, HR.out.1, HR.out.2, fun _ => by first | rfl | trivial⟩
    case measure => simp [intOf]; omega
  ·have hok : ok = true := hkok (by omega)
   subst hok
   have HRb : Hid (ReadsB wr G 0 (ats.map Hd)) := by
    refine ⟨(ownsRow_block HOW.out).2.1, fun j hj => ?_⟩
    have hj' : j < m := by rw [HM.out]; simpa using hj
    rw [Nat.zero_add, HOW.out.cellAt j (by omega), fill_get _ _ _ _ _ hj', if_pos (by omega), HF.out]
   have HCw := HWk.out G wr rfl (HB3.out _ HB.out) HRb.out
   go_wp2_with (go_at_call 114; refine HCw.mono ?_; rintro e w' ⟨rfl, hb⟩)
   go_ret2
   exact ⟨by simp, HB1.out.trans ((HB3.out _ (HB.out.trans (hb.mono (by have := (ownsRow_block HOW.out).2.1; omega)))).mono HB1.out.size)⟩
theorem fholds_any (va vc : Value) (ats : List At) (c : List Int) (u a b d : Int) (w : World) (hA : ReadsA w va ats) (hC : Reads w vc c) (hK : KindsLaid w) :
    Calls Tryz.prog 76 #[.agg #[va, vc], .agg #[.int .i64 u, .int .i64 a, .int .i64 b, .int .i64 d]] w (Bk w (.tuple #[.bool ((Wd.mk u a b d).formIs ats c), errV ((Wd.mk u a b d).formFault ats c)])) := by
 by_cases hf : formFault ats c = 0
 ·obtain ⟨ao, acap, rfl, _⟩ := hA.slice
  obtain ⟨co, ccap, rfl, _⟩ := hC.slice
  have := fholds_right ao co acap ccap ats c u a b d w hA hC hK hf _ rfl
  by_cases ho : (Wd.mk u a b d).ok = true
  ·have e0 : (Wd.mk u a b d).formFault ats c = 0 := wdForm_zero.2 ⟨hf, ho⟩
   have e1 : (Wd.mk u a b d).formIs ats c = valF ((Wd.mk u a b d).heldL ats) c := by unfold Wd.formIs; rw [if_pos e0]
   rw [e0, e1, errV_0]
   exact this.mono fun e w' h => ⟨by have := h.1; rw [if_pos ho] at this; exact this, h.2⟩
  ·have e0 : (Wd.mk u a b d).formFault ats c = 1 := by unfold Wd.formFault; rw [if_pos hf, if_neg ho]
   have e1 : (Wd.mk u a b d).formIs ats c = false := by unfold Wd.formIs; rw [e0]; rfl
   rw [e0, e1]
   exact this.mono fun e w' h => ⟨by have := h.1; rw [if_neg ho] at this; exact this, h.2⟩
 ·have e0 : (Wd.mk u a b d).formFault ats c = formFault ats c := by unfold Wd.formFault; rw [if_neg hf]
  have e1 : (Wd.mk u a b d).formIs ats c = false := by unfold Wd.formIs; rw [e0, if_neg hf]
  rw [e0, e1, errV_no hf]
  exact fholds_bad va vc ats c u a b d w hA hC hK hf
end Go.Proofs.YtjaedfjfcghgcabGreatDoor
namespace Go.Proofs.YtjaedfjfcghgcabGreatDoor
open Go.ChangeShapes Go.WideShapes Go.ChangeAt Go.RowKit
set_option maxRecDepth 100000
set_option maxHeartbeats 4000000 in
theorem wholds_in (ao : Option Addr) (al acap : Nat) (co : Option Addr) (cl ccap : Nat) (N : Nat → Int) (D : Wd) (q : Bool) (w : World)
    (hW : ∀ W, Calls Tryz.prog 72 #[.agg #[.int .i64 (N 0), .int .i64 (N 1), .int .i64 (N 2), .int .i64 (N 3), .int .i64 (N 4), .int .i64 (N 5), .int .i64 (N 6), .int .i64 (N 7)]] W (Bk W (.tuple #[.agg #[.int .i64 D.u, .int .i64 D.a, .int .i64 D.b, .int .i64 D.c], .nilIface])))
    (hH : ∀ W, Below w.heap.size w W → Calls Tryz.prog 76 #[.agg #[.slice ao al acap, .slice co cl ccap], .agg #[.int .i64 D.u, .int .i64 D.a, .int .i64 D.b, .int .i64 D.c]] W (Bk W (.tuple #[.bool q, .nilIface]))) :
    Calls Tryz.prog 29 #[.agg #[.slice ao al acap, .slice co cl ccap], .agg #[.int .i64 (N 0), .int .i64 (N 1), .int .i64 (N 2), .int .i64 (N 3), .int .i64 (N 4), .int .i64 (N 5), .int .i64 (N 6), .int .i64 (N 7)]] w (Bk w (.tuple #[.bool q, .nilIface])) := by
 have HWo := hide hW
 have HH := hide hH
 clear hW hH
 obtain ⟨w1, hw1⟩ := nm ((w.alloc (.cells #[.slice ao al acap, .slice co cl ccap] 25)).alloc (.cells #[.int .i64 (N 0), .int .i64 (N 1), .int .i64 (N 2), .int .i64 (N 3), .int .i64 (N 4), .int .i64 (N 5), .int .i64 (N 6), .int .i64 (N 7)] 44))
 have HB1 : Hid (Below w.heap.size w w1) := by unfold Hid; rw [hw1]; exact (below_alloc1 _ _).alloc (by simp) _
 have HF1 : Hid (Blk w1 w.heap.size 25 #[.slice ao al acap, .slice co cl ccap]) := by unfold Hid; rw [hw1]; exact (Blk.new _ _ _).old _
 have HN1 : Hid (Blk w1 (w.heap.size + 1) 44 (arr8 N)) := by
  unfold Hid; rw [hw1]
  have := Blk.new (w.alloc (.cells #[.slice ao al acap, .slice co cl ccap] 25)) 44 (arr8 N)
  simp only [World.size_alloc] at this
  exact this
 go_enter Tryz.func29, Tryz.ntmps29
 go_upto_region 1 with fail
 rw [← hw1]
 clear hw1
 obtain ⟨x0, x1, x2, x3, x4, x5, x6, x7⟩ := HN1.out.cells8
 go_wp2_with fail
 go_at_call 72
 refine (HWo.out _).mono ?_
 rintro e w3 ⟨rfl, hb3⟩
 have HB3 := hide (HB1.out.trans (hb3.mono HB1.out.size))
 have HF3 := hide (HF1.out.below hb3)
 clear hb3 x0 x1 x2 x3 x4 x5 x6 x7
 obtain ⟨w4, hw4⟩ := nm (w3.alloc (.cells #[.int .i64 D.u, .int .i64 D.a, .int .i64 D.b, .int .i64 D.c] 34))
 obtain ⟨G, hG⟩ := nm w3.heap.size
 have HB4 : Hid (Below w.heap.size w w4) := by unfold Hid; rw [hw4]; exact HB3.out.alloc HB3.out.size _
 have HF4 : Hid (Blk w4 w.heap.size 25 #[.slice ao al acap, .slice co cl ccap]) := by unfold Hid; rw [hw4]; exact HF3.out.old _
 have HG4 : Hid (Blk w4 G 34 #[.int .i64 D.u, .int .i64 D.a, .int .i64 D.b, .int .i64 D.c]) := by unfold Hid; rw [hw4, hG]; exact Blk.new _ _ _
 go_upto_region 2 with fail
 rw [← hw4, ← hG]
 clear hw4 hG
 have y0 : w4.cell? ⟨w.heap.size, 0, none⟩ = some (.slice ao al acap) := HF4.out.cell 0
 have y1 : w4.cell? ⟨w.heap.size, 1, none⟩ = some (.slice co cl ccap) := HF4.out.cell 1
 have z0 : w4.cell? ⟨G, 0, none⟩ = some (.int .i64 D.u) := HG4.out.cell 0
 have z1 : w4.cell? ⟨G, 1, none⟩ = some (.int .i64 D.a) := HG4.out.cell 1
 have z2 : w4.cell? ⟨G, 2, none⟩ = some (.int .i64 D.b) := HG4.out.cell 2
 have z3 : w4.cell? ⟨G, 3, none⟩ = some (.int .i64 D.c) := HG4.out.cell 3
 go_wp2_with fail
 go_at_call 76
 refine (HH.out _ HB4.out).mono ?_
 rintro e w5 ⟨rfl, hb5⟩
 have HB5 := hide (HB4.out.trans (hb5.mono HB4.out.size))
 go_wp2
 go_ret2
 exact ⟨rfl, HB5.out⟩
theorem wholds_any (va vc : Value) (ats : List At) (c : List Int) (N : Nat → Int) (w : World) (hA : ReadsA w va ats) (hC : Reads w vc c) (hK : KindsLaid w) (hf : formFault ats c = 0) (h0 : countsFault N = 0) :
    Calls Tryz.prog 29 #[.agg #[va, vc], .agg #[.int .i64 (N 0), .int .i64 (N 1), .int .i64 (N 2), .int .i64 (N 3), .int .i64 (N 4), .int .i64 (N 5), .int .i64 (N 6), .int .i64 (N 7)]] w (Bk w (.tuple #[.bool ((madeN N 8).formIs ats c), .nilIface])) := by
 have hH := fun (D : Wd) W hW => fholds_any va vc ats c D.u D.a D.b D.c W (hA.below hW) (hC.below hW) (hK.below hW)
 obtain ⟨ao, acap, rfl, _⟩ := hA.slice
 obtain ⟨co, ccap, rfl, _⟩ := hC.slice
 refine wholds_in ao _ acap co _ ccap N (madeN N 8) _ w (fun W => ?_) fun W hW => ?_
 ·have h := fworld_any N W
  have e : madeW N = madeN N 8 := by unfold madeW; rw [if_pos h0]
  rw [h0, e] at h
  exact h
 ·have h := hH (madeN N 8) W hW
  have eD : ∀ D : Wd, Wd.mk D.u D.a D.b D.c = D := fun _ => rfl
  have e : (madeN N 8).formFault ats c = 0 := wdForm_zero.2 ⟨hf, made_ok h0⟩
  rw [eD, e] at h
  exact h
end Go.Proofs.YtjaedfjfcghgcabGreatDoor
namespace Go.Proofs.YtjaedfjfcghgcabGreatDoor
open Go.ChangeShapes Go.WideShapes Go.ChangeAt Go.RowKit
set_option maxRecDepth 100000
end Go.Proofs.YtjaedfjfcghgcabGreatDoor
namespace Go.Proofs.YtjaedfjfcghgcabGreatDoor
open Go.RowKit
structure Over (B : Nat) (W W' : World) : Prop where
 size : W.heap.size ≤ W'.heap.size
 same : ∀ b, B ≤ b → b < W.heap.size → W'.heap[b]? = W.heap[b]?
theorem Over.refl (B : Nat) (W : World) : Over B W W := ⟨Nat.le_refl _, fun _ _ _ => rfl⟩
theorem Over.trans {B : Nat} {X Y Z : World} (h : Over B X Y) (k : Over B Y Z) : Over B X Z :=
 ⟨Nat.le_trans h.size k.size, fun b hb hl => (k.same b hb (Nat.lt_of_lt_of_le hl h.size)).trans (h.same b hb hl)⟩
theorem Over.mono {B B' : Nat} {W W' : World} (h : Over B W W') (hB : B ≤ B') : Over B' W W' := ⟨h.size, fun b hb hl => h.same b (Nat.le_trans hB hb) hl⟩
theorem Over.of_below {B : Nat} {W W' : World} (h : Below W.heap.size W W') : Over B W W' := ⟨h.size, fun b _ hl => h.block b hl⟩
theorem Over.alloc {B : Nat} {X W : World} (h : Over B X W) (o : Obj) : Over B X (W.alloc o) := h.trans (.of_below ((Below.refl _ _).alloc (Nat.le_refl _) _))
theorem Over.setCell {B : Nat} {X W : World} (h : Over B X W) {p : Addr} (hp : p.block < B) (u : Value) : Over B X (W.setCell p u) :=
 h.trans ⟨by simp [World.setCell], fun b hb _ => Below.heap_setCell _ _ _ _ (by omega)⟩
theorem below_putObj {B l : Nat} (W : World) (o : Obj) (h : B ≤ l) : Below B W (W.putObj l o) :=
 ⟨rfl, rfl, rfl, by simp, fun k hk => World.putObj_heap_other (by omega)⟩
def SeqG {α : Type} (n : Nat) (P : Program) (g : Nat) (lb : Array Value) (encs : α → Array Value) (A : List α) (W : World) : Prop :=
 ∀ (l : Nat) (J Jx : Nat → World → Prop),
  (∀ k W1 W2, J k W1 → Below W.heap.size W1 W2 → J k W2) →
  (∀ k x W1, A[k]? = some x → J k W1 → YieldAt Fence.wide (n - 1) P l (encs x) W1 fun e W' =>
   (e = .returned (.bool true) ∧ J (k + 1) W' ∧ Over W.heap.size W1 W') ∨ (e = .returned (.bool false) ∧ Jx (k + 1) W')) →
  J 0 W →
  CallsIn Fence.wide n P g (#[.func (.yield l) #[] #[]] ++ lb) W fun e W' => (∃ v, e = .returned v) ∧ (J A.length W' ∨ ∃ k, k < A.length ∧ Jx (k + 1) W')
def roundPostG (B : Nat) (I Ix : Nat → World → Prop) (k : Nat) (W : World) : Exit → Act → World → Prop
 | .normal, _, W' => Over B W W' ∧ I (k + 1) W'
 | .ret, _, W' => Over B W W' ∧ Ix (k + 1) W'
 | _, _, _ => False
theorem wpIn_range_own {α : Type} {P : Program} {n : Nat} {g : Operand} {ps : Array Tmp} {assign body : Code} {Q : Exit → Act → World → Prop} {a : Act} {w : World}
    (h1 : 1 ≤ n) {gf : Nat} {lb : Array Value} (hg : a.eval g = .func (.func gf) #[] lb) (eg : ∀ args w, (callFunc gf args).run P w = .ok (.enter gf args) w)
    {encs : α → Array Value} {A : List α} (hseq : ∀ W, Below w.heap.size w W → SeqG (n - 1) P gf lb encs A W) (hps : ∀ x, (encs x).size = ps.size)
    (I Ix : Nat → World → Prop) (hI : ∀ k W1 W2, I k W1 → Below w.heap.size W1 W2 → I k W2) (hIx : ∀ k W1 W2, Ix k W1 → Below w.heap.size W1 W2 → Ix k W2) (h0 : I 0 w)
    (hround : ∀ (l k : Nat) (x : α) (W : World), A[k]? = some x → w.heap.size ≤ l → l < W.heap.size → I k W →
     assign.wpIn (Fence.wide.inRound l) (n - 1 - 1) P (Exit.then (fun a1 W1 => Over w.heap.size W W1 ∧ ∀ o, body.wpIn (Fence.wide.inRound l) (n - 1 - 1) P (roundPostG w.heap.size I Ix k (W1.putObj l o)) a1 (W1.putObj l o)) (fun _ _ _ => False))
      { tmps := (ps.zip (encs x)).foldl (fun t (p, v) => t.setIfInBounds p v) a.tmps, defers := [] } W)
    (hdone : ∀ (D : Nat) (W : World), w.heap.size ≤ D → I A.length W → W.heap[D]? = some (.deferred (some [])) → Q .normal { a with defers := { target := .collected D, args := #[] } :: a.defers } W)
    (hstop : ∀ (D k : Nat) (W : World), w.heap.size ≤ D → k < A.length → Ix (k + 1) W → W.heap[D]? = some (.deferred (some [])) → Code.ret.wpIn Fence.wide n P Q { a with defers := { target := .collected D, args := #[] } :: a.defers } W) :
    (Code.rangeFunc g ps assign body).wpIn Fence.wide n P Q a w := by
 refine wpIn_rangeFunc ?_
 intro fn hfn
 rw [show Fence.wide.round = none from rfl]
 obtain ⟨rec, hrec⟩ : ∃ rec : LoopState → Option Code → Loop, rec = fun st pe => { state := st, pending := pe, fn, tmps := a.tmps, params := ps, assign, body, defers := w.heap.size } := ⟨_, rfl⟩
 obtain ⟨W1, hW1⟩ : ∃ W1, (w.alloc (.deferred (some []))).alloc (.loop (rec .ready none)) = W1 := ⟨_, rfl⟩
 have hs1 : W1.heap.size = w.heap.size + 1 + 1 := by rw [← hW1, World.size_alloc, World.size_alloc]
 have hL1 : W1.heap[w.heap.size + 1]? = some (.loop (rec .ready none)) := by
  rw [← hW1]; have := World.alloc_heap_new (w.alloc (.deferred (some []))) (.loop (rec .ready none)); rwa [World.size_alloc] at this
 have hK1 : W1.heap[w.heap.size]? = some (.deferred (some [])) := by
  rw [← hW1]; exact (Below.heap_alloc _ _ _ (by simp)).trans (World.alloc_heap_new w _)
 have hb1 : Below w.heap.size w W1 := by
  rw [← hW1]; exact ((Below.refl _ w).alloc (Nat.le_refl _) _).alloc (by simp) _
 have hI1 : I 0 W1 := hI _ _ _ h0 hb1
 refine ⟨w.heap.size + 1, [{ target := .collected w.heap.size, args := #[] }], W1, { target := .fn (.func gf) lb, args := #[.func (.yield (w.heap.size + 1)) #[] #[]] }, W1, gf,
  #[.func (.yield (w.heap.size + 1)) #[] #[]] ++ lb, W1, ?_, ?_, ?_, ?_, fun _ => h1, ?_⟩
 ·rw [← hW1, hrec]; exact run_enterLoop_outer _ _ _ _ _
 ·simp only [resolve, hg]
  simp [go_sem]
 ·intro f' _; exact trivial
 ·simp [invoke, go_sem, eg]
 ·refine (hseq W1 hb1 (w.heap.size + 1)
   (fun k W => I k W ∧ W.heap[w.heap.size + 1]? = some (.loop (rec .ready none)) ∧ W.heap[w.heap.size]? = some (.deferred (some [])))
   (fun k W => Ix k W ∧ W.heap[w.heap.size + 1]? = some (.loop (rec .done (some .ret))) ∧ W.heap[w.heap.size]? = some (.deferred (some [])))
   (fun k X Y hs hb => ⟨hI k X Y hs.1 (hb.mono (by omega)), (hb.block _ (by omega)).trans hs.2.1, (hb.block _ (by omega)).trans hs.2.2⟩)
   ?_ ⟨hI1, hL1, hK1⟩).mono ?_
  ·rintro k x W hx ⟨hi, hl, hk⟩
   have hlt : w.heap.size + 1 < W.heap.size := (Array.getElem?_eq_some_iff.1 hl).1
   have hy := run_yield (P := P) (args := encs x) hl (by rw [hrec]; exact hps x)
   rw [hrec] at hy
   refine ⟨fn, _, assign, body, hy, roundIn_of_wpIn hfn (wpIn_mono (hround _ k x W hx (by omega) hlt hi) ?_)⟩
   intro e a1 Wa hp
   cases e with
   | normal =>
    obtain ⟨ha, hb⟩ := hp
    have hla : Wa.heap[w.heap.size + 1]? = some (.loop (rec .ready none)) := (ha.same _ (by omega) hlt).trans hl
    have hka : Wa.heap[w.heap.size]? = some (.deferred (some [])) := (ha.same _ (by omega) (by omega)).trans hk
    have hlta : w.heap.size + 1 < Wa.heap.size := (Array.getElem?_eq_some_iff.1 hla).1
    refine ⟨_, run_beginRound hla (by rw [hrec]), ?_⟩
    have hl2 : (Wa.putObj (w.heap.size + 1) (.loop { rec .ready none with state := .busy })).heap[w.heap.size + 1]? = some (.loop { rec .ready none with state := .busy }) := World.putObj_heap_same hlta
    have hk2 : (Wa.putObj (w.heap.size + 1) (.loop { rec .ready none with state := .busy })).heap[w.heap.size]? = some (.deferred (some [])) := (World.putObj_heap_other (by omega)).trans hka
    refine wpIn_mono (hb _) ?_
    have fin : ∀ (jump : Option Code) (W3 : World), Over w.heap.size (Wa.putObj (w.heap.size + 1) (.loop { rec .ready none with state := .busy })) W3 →
        (Instr.endRound (w.heap.size + 1) jump).run P W3 = .ok (.bool jump.isNone) (W3.putObj (w.heap.size + 1) (.loop (rec (if jump.isNone then .ready else .done) jump))) ∧
        (W3.putObj (w.heap.size + 1) (.loop (rec (if jump.isNone then .ready else .done) jump))).heap[w.heap.size + 1]? = some (.loop (rec (if jump.isNone then .ready else .done) jump)) ∧
        (W3.putObj (w.heap.size + 1) (.loop (rec (if jump.isNone then .ready else .done) jump))).heap[w.heap.size]? = some (.deferred (some [])) := fun jump W3 hk3 => by
     have hl3 := (hk3.same _ (by omega) (by simpa using hlta)).trans hl2
     have := run_endRound (P := P) jump hl3
     rw [hrec] at this ⊢
     exact ⟨this, World.putObj_heap_same (Array.getElem?_eq_some_iff.1 hl3).1, (World.putObj_heap_other (by omega)).trans ((hk3.same _ (by omega) (by simp; omega)).trans hk2)⟩
    rintro e a3 W3 hp
    cases e with
    | normal =>
     obtain ⟨hk3, hi3⟩ := hp
     obtain ⟨hr, hl4, hk4⟩ := fin none W3 hk3
     refine ⟨_, _, hr, .inl ⟨rfl, ⟨hI _ _ _ hi3 (below_putObj _ _ (by omega)), hl4, hk4⟩, ?_⟩⟩
     refine ⟨?_, fun b hb1 hb2 => ?_⟩
     ·have := ha.size
      have := hk3.size
      simp at this
      simp
      omega
     ·rw [hs1] at hb1
      have s1 := ha.size
      refine (World.putObj_heap_other (by omega)).trans ((hk3.same b (by omega) (by simp; omega)).trans ((World.putObj_heap_other (by omega)).trans (ha.same b (by omega) hb2)))
    | ret =>
     obtain ⟨hk3, hi3⟩ := hp
     obtain ⟨hr, hl4, hk4⟩ := fin (some .ret) W3 hk3
     exact ⟨_, _, hr, .inr ⟨rfl, hIx _ _ _ hi3 (below_putObj _ _ (by omega)), hl4, hk4⟩⟩
    | exit id => exact hp.elim
    | goto t => exact hp.elim
    | panic ch => exact hp.elim
    | outgrown => exact hp.elim
   | ret => exact hp.elim
   | exit id => exact hp.elim
   | goto t => exact hp.elim
   | panic ch => exact hp.elim
   | outgrown => exact hp.elim
  ·rintro e W2 ⟨⟨v, rfl⟩, (⟨hi, hl, hk⟩ | ⟨k, hkl, hi, hl, hk⟩)⟩
   ·exact ⟨none, _, by have := run_endLoop (P := P) hl (by rw [hrec]; simp); rw [hrec] at this; exact this, hdone _ _ (Nat.le_refl _) (hI _ _ _ hi (below_putObj _ _ (by omega))) ((World.putObj_heap_other (by omega)).trans hk)⟩
   ·exact ⟨some .ret, _, by have := run_endLoop (P := P) hl (by rw [hrec]; simp); rw [hrec] at this; exact this, hstop _ k _ (Nat.le_refl _) hkl (hIx _ _ _ hi (below_putObj _ _ (by omega))) ((World.putObj_heap_other (by omega)).trans hk)⟩
end Go.Proofs.YtjaedfjfcghgcabGreatDoor
namespace Go.Proofs.YtjaedfjfcghgcabGreatDoor
open Go.ChangeShapes Go.WideShapes Go.ChangeAt Go.RowKit
set_option maxRecDepth 100000
theorem arr8_put (N : Nat → Int) {f : Nat} (hf : f < 8) (x : Int) : (arr8 N).setIfInBounds f (.int .i64 x) = arr8 (putN N f x) := by
 rcases eight hf with rfl | rfl | rfl | rfl | rfl | rfl | rfl | rfl <;> simp [arr8, putN]
theorem Blk.putN {w : World} {G : Nat} {T : TypeId} {N : Nat → Int} (h : Blk w G T (arr8 N)) {f : Nat} (hf : f < 8) (x : Int) : Blk (w.setCell ⟨G, f, none⟩ (.int .i64 x)) G T (arr8 (putN N f x)) := by
 have := h.set f (.int .i64 x)
 rw [arr8_put N hf] at this
 exact this
theorem Blk.at8 {w : World} {G : Nat} {T : TypeId} {N : Nat → Int} (h : Blk w G T (arr8 N)) {f : Nat} (hf : f < 8) : w.cell? ⟨G, f, none⟩ = some (.int .i64 (N f)) := by rw [h.cell, arr8_get _ hf]
set_option maxHeartbeats 4000000 in
theorem after_any (N : Nat → Int) (w : World) (hN : ∀ f, f < 8 → 0 ≤ N f ∧ N f ≤ 6) :
    Calls Tryz.prog 75 #[.agg #[.int .i64 (N 0), .int .i64 (N 1), .int .i64 (N 2), .int .i64 (N 3), .int .i64 (N 4), .int .i64 (N 5), .int .i64 (N 6), .int .i64 (N 7)]] w (Bk w (.tuple #[.agg (arr8 (afterO N)), .bool (!(lastTo N 8 == 0))])) := by
 obtain ⟨Z, hZ⟩ : ∃ Z : Nat → Int, Z = zeroC := ⟨_, rfl⟩
 obtain ⟨w1, hw1⟩ := nm ((w.alloc (.cells #[.int .i64 (N 0), .int .i64 (N 1), .int .i64 (N 2), .int .i64 (N 3), .int .i64 (N 4), .int .i64 (N 5), .int .i64 (N 6), .int .i64 (N 7)] 44)).alloc (.cells #[.int .i64 0, .int .i64 0, .int .i64 0, .int .i64 0, .int .i64 0, .int .i64 0, .int .i64 0, .int .i64 0] 44))
 have HW : Hid (Below w.heap.size w w1) := by unfold Hid; rw [hw1]; exact (below_alloc1 _ _).alloc (by simp) _
 have HK0 : Hid (Blk w1 w.heap.size 44 (arr8 N)) := by unfold Hid; rw [hw1]; exact (Blk.new _ _ _).old _
 have HK1 : Hid (Blk w1 (w.heap.size + 1) 44 (arr8 Z)) := by
  unfold Hid; rw [hw1, hZ]
  have := Blk.new (w.alloc (.cells (arr8 N) 44)) 44 (arr8 zeroC)
  simp only [World.size_alloc] at this
  exact this
 have HX : Hid (∀ k, k < 8 → w1.cell? ⟨w.heap.size, k, none⟩ = some (.int .i64 (N k))) := fun k hk => HK0.out.at8 hk
 have HN := hide hN
 have HZ := hide hZ
 clear hN hZ
 go_enter Tryz.func75, Tryz.ntmps75
 go_wp2_with fail
 rw [← hw1]
 clear hw1
 go_loop [4, 7] (fun l i => ∃ k : Nat, k ≤ 8 ∧ i = .int .i64 k ∧ l = .int .i64 (lastTo N k)) (fun _ i => 8 - (intOf i).toNat)
 case atStart => exact ⟨0, Nat.zero_le _, rfl, rfl⟩
 case round =>
  obtain ⟨k, hk, rfl, rfl⟩ := hrel
  by_cases hlt : k < 8
  ·have hc := HX.out k hlt
   have hp0 := HN.out k hlt
   obtain ⟨x, hx⟩ := nm (N k)
   rw [← hx] at hc hp0
   have HXk := hide hx
   clear hx
   by_cases hp : 0 < x
   ·have HS : Hid (lastTo N (k + 1) = k) := by unfold Hid lastTo; rw [if_pos (by rw [← HXk.out]; exact hp)]
    go_wp2
    go_round
    case rel => exact ⟨k + 1, by omega, by go_num, by rw [HS.out]⟩
    case measure => simp [intOf]; omega
   ·have HS : Hid (lastTo N (k + 1) = lastTo N k) := by unfold Hid; rw [lastTo, if_neg (by rw [← HXk.out]; exact hp)]
    go_wp2
    go_round
    case rel => exact ⟨k + 1, by omega, by go_num, by rw [HS.out]⟩
    case measure => simp [intOf]; omega
  ·obtain rfl : k = 8 := by omega
   have hL8 := lastTo_lt N 8
   have HO : Hid (afterO N = if lastTo N 8 = 0 then zeroC else afterL N (lastTo N 8)) := rfl
   obtain ⟨L, hL⟩ := nm (lastTo N 8)
   rw [← hL] at hL8 HO ⊢
   have HLL := hide hL
   clear hL
   by_cases h0 : L = 0
   ·subst h0
    have HO2 : Hid (afterO N = Z) := by unfold Hid; rw [HO.out, HZ.out]; rfl
    obtain ⟨r0, r1, r2, r3, r4, r5, r6, r7⟩ := HK1.out.cells8
    obtain ⟨f0, f1, f2, f3, f4, f5, f6, f7⟩ := HK1.out.frozen8
    go_wp2
    have hld := load8 (put8_blk HK1.out zeroC)
    refine bodyPost_ret (v := .tuple #[.agg (arr8 zeroC), .bool false]) ?_ rfl ⟨?_, ?_⟩
    ·rw [results_cell_tmp rfl]
     unfold put8 at hld
     simp [asAddr, Result.andThen, hld, zeroC] at hld ⊢
    ·rw [HO2.out, HZ.out, ← HLL.out]; rfl
    ·exact put8_below HW.out (by omega) zeroC
   ·obtain ⟨m, hm⟩ : ∃ m, L = m + 1 := ⟨L - 1, by omega⟩
    subst hm
    have hm8 : m + 1 < 8 := hL8 (by omega)
    clear hL8 h0
    have HO2 : Hid (afterO N = putN (putN (putN N (m + 1) 0) m (N m + 1)) 7 (N (m + 1) - 1)) := by
     unfold Hid; rw [HO.out, if_neg (by omega)]; rfl
    have eL : ((m + 1 : Nat) : Int) = (m : Int) + 1 := by omega
    rw [eL]
    clear eL
    have hx1 := HN.out (m + 1) hm8
    have hx2 := HN.out m (by omega)
    have c1 : w1.cell? ⟨w.heap.size, m + 1, none⟩ = some (.int .i64 (N (m + 1))) := HX.out _ hm8
    have z1 : w1.frozen? ⟨w.heap.size, m + 1, none⟩ = false := HK0.out.frozen _
    obtain ⟨x, hx⟩ := nm (N (m + 1))
    obtain ⟨y, hy⟩ := nm (N m)
    rw [← hx] at c1 hx1
    rw [← hy] at hx2
    have HXx := hide hx
    have HXy := hide hy
    clear hx hy
    obtain ⟨w2, hw2⟩ := nm (w1.setCell ⟨w.heap.size, m + 1, none⟩ (.int .i64 0))
    have HB2 : Hid (Below w.heap.size w w2) := by unfold Hid; rw [hw2]; exact HW.out.setCell (by simp) _
    have H2 : Hid (Blk w2 w.heap.size 44 (arr8 (putN N (m + 1) 0))) := by unfold Hid; rw [hw2]; exact HK0.out.putN hm8 0
    have R2 : Hid (Blk w2 (w.heap.size + 1) 44 (arr8 Z)) := by unfold Hid; rw [hw2]; exact HK1.out.far (by omega) _ _
    go_upto_region 12 with fail
    rw [← hw2]
    clear hw2 c1 z1
    have c2 : w2.cell? ⟨w.heap.size, m, none⟩ = some (.int .i64 y) := by rw [H2.out.at8 (by omega), putN_other _ (by omega), HXy.out]
    have z2 : w2.frozen? ⟨w.heap.size, m, none⟩ = false := H2.out.frozen _
    obtain ⟨w3, hw3⟩ := nm (w2.setCell ⟨w.heap.size, m, none⟩ (.int .i64 (y + 1)))
    have HB3 : Hid (Below w.heap.size w w3) := by unfold Hid; rw [hw3]; exact HB2.out.setCell (by simp) _
    have H3 : Hid (Blk w3 w.heap.size 44 (arr8 (putN (putN N (m + 1) 0) m (y + 1)))) := by unfold Hid; rw [hw3]; exact H2.out.putN (by omega) _
    have R3 : Hid (Blk w3 (w.heap.size + 1) 44 (arr8 Z)) := by unfold Hid; rw [hw3]; exact R2.out.far (by omega) _ _
    go_upto_region 13 with fail
    rw [← hw3]
    clear hw3 c2 z2
    have c3 := H3.out.at8 (f := 7) (by omega)
    have z3 : w3.frozen? ⟨w.heap.size, 7, none⟩ = false := H3.out.frozen _
    obtain ⟨w4, hw4⟩ := nm (w3.setCell ⟨w.heap.size, 7, none⟩ (.int .i64 (x - 1)))
    have HB4 : Hid (Below w.heap.size w w4) := by unfold Hid; rw [hw4]; exact HB3.out.setCell (by simp) _
    obtain ⟨M, hM⟩ := nm (afterO N)
    have H4 : Hid (Blk w4 w.heap.size 44 (arr8 M)) := by
     unfold Hid; rw [hw4, hM, HO2.out, ← HXx.out, ← HXy.out]; exact H3.out.putN (by omega) _
    have R4 : Hid (Blk w4 (w.heap.size + 1) 44 (arr8 Z)) := by unfold Hid; rw [hw4]; exact R3.out.far (by omega) _ _
    go_upto_region 14 with fail
    rw [← hw4]
    clear hw4 c3 z3
    have HM := hide hM
    clear hM
    obtain ⟨n0, n1, n2, n3, n4, n5, n6, n7⟩ := H4.out.cells8
    obtain ⟨r0, r1, r2, r3, r4, r5, r6, r7⟩ := R4.out.cells8
    obtain ⟨f0, f1, f2, f3, f4, f5, f6, f7⟩ := R4.out.frozen8
    go_wp2
    have hld := load8 (put8_blk R4.out M)
    refine bodyPost_ret (v := .tuple #[.agg (arr8 M), .bool true]) ?_ rfl ⟨?_, ?_⟩
    ·rw [results_cell_tmp rfl]
     unfold put8 at hld
     simp [asAddr, Result.andThen, hld]
    ·rw [← HM.out, ← HLL.out]; rfl
    ·exact put8_below HB4.out (by omega) M
end Go.Proofs.YtjaedfjfcghgcabGreatDoor
namespace Go.Proofs.YtjaedfjfcghgcabGreatDoor
open Go.ChangeShapes Go.WideShapes Go.ChangeAt Go.RowKit
set_option maxRecDepth 100000
theorem fitCheck_ok (n : Nat) (hn : n ≤ 6) (w : World) : Calls Tryz.prog 38 #[.int .i64 n] w (Sk w .nilIface) := by
 have h : okB (n : Int) 0 = true := ok_zero (by omega) (by omega)
 go_enter Tryz.func38, Tryz.ntmps38
 go_wp2_with fail
 go_at_call 24
 refine (check_ok _ _ h _).mono ?_
 rintro e w' ⟨rfl, rfl⟩
 go_wp2
 go_ret
 exact ⟨rfl, rfl⟩
theorem fitCheck_no (u : Int) (hu : ¬ (0 ≤ u ∧ u ≤ 6)) (w : World) : Calls Tryz.prog 38 #[.int .i64 u] w (Sk w (.iface 75 (.int .i64 1))) := by
 have h : okB u 0 = false := okB_not.2 fun h => hu ⟨h.1, h.2.1⟩
 go_enter Tryz.func38, Tryz.ntmps38
 go_wp2_with fail
 go_at_call 24
 refine (check_no _ _ h _).mono ?_
 rintro e w' ⟨rfl, rfl⟩
 go_wp2
 go_ret
 exact ⟨rfl, rfl⟩
theorem fitAll_any (u : Int) (w : World) : Calls Tryz.prog 28 #[.int .i64 u] w fun e w' => e = .returned (.func (.func 74) #[] #[.pointer (some ⟨w.heap.size, 0, none⟩)]) ∧ w' = w.alloc (.cells #[.int .i64 u] 3) := by
 go_enter Tryz.func28, Tryz.ntmps28
 go_wp2
 go_ret
 exact ⟨rfl, rfl⟩
end Go.Proofs.YtjaedfjfcghgcabGreatDoor
namespace Go.Proofs.YtjaedfjfcghgcabGreatDoor
open Go.ChangeShapes Go.WideShapes Go.ChangeAt Go.RowKit
set_option maxRecDepth 100000
theorem every_first (u : Nat) : ∃ M, (everyC u)[0]? = some M ∧ ∀ g, g < 8 → M g = if g = 7 then (u : Int) else 0 := by
 obtain ⟨M, h1, h2⟩ := allF_head 7 u fun _ => 0
 have hl : (allF 7 u fun _ => 0) = everyC u := rfl
 rw [hl] at h1
 refine ⟨M, h1, fun g hg => ?_⟩
 obtain ⟨h3, h4⟩ := everyC_sum (List.mem_of_getElem? h1)
 have e : sumN M 8 = M 0 + M 1 + M 2 + M 3 + M 4 + M 5 + M 6 + M 7 := by
  show (((((((((0 : Int) + M 0) + M 1) + M 2) + M 3) + M 4) + M 5) + M 6) + M 7) = _
  omega
 have a0 := h3 0 (by omega)
 have a1 := h3 1 (by omega)
 have a2 := h3 2 (by omega)
 have a3 := h3 3 (by omega)
 have a4 := h3 4 (by omega)
 have a5 := h3 5 (by omega)
 have a6 := h3 6 (by omega)
 rcases eight hg with rfl | rfl | rfl | rfl | rfl | rfl | rfl | rfl
 ·rw [if_neg (by omega)]; omega
 ·rw [if_neg (by omega)]; omega
 ·rw [if_neg (by omega)]; omega
 ·rw [if_neg (by omega)]; omega
 ·rw [if_neg (by omega)]; omega
 ·rw [if_neg (by omega)]; omega
 ·rw [if_neg (by omega)]; omega
 ·rw [if_pos rfl]; exact h2
def enc8 (M : Nat → Int) : Array Value := #[.agg #[.int .i64 (M 0), .int .i64 (M 1), .int .i64 (M 2), .int .i64 (M 3), .int .i64 (M 4), .int .i64 (M 5), .int .i64 (M 6), .int .i64 (M 7)]]
theorem Blk.over {B G : Nat} {W W' : World} {T : TypeId} {cs : Array Value} (h : Blk W G T cs) (hO : Over B W W') (hB : B ≤ G) : Blk W' G T cs := by
 unfold Blk; rw [hO.same G hB h.lt]; exact h
set_option maxHeartbeats 4000000 in
theorem iter_any (u : Nat) (hu : u ≤ 6) (n : Nat) (hn : 1 ≤ n) (Bu : Nat) (W : World) (hB : W.cell? ⟨Bu, 0, none⟩ = some (.int .i64 u)) :
    SeqG n Tryz.prog 74 #[.pointer (some ⟨Bu, 0, none⟩)] enc8 (everyC u) W := by
 intro l J Jx hJ hY h0
 obtain ⟨M0, hM0, hM0'⟩ := every_first u
 obtain ⟨A, hA⟩ := nm (everyC u)
 have HST : Hid (∀ (i : Nat) (M : Nat → Int), A[i]? = some M → (lastTo M 8 ≠ 0 ∧ ∃ M', A[i + 1]? = some M' ∧ ∀ f, f < 8 → afterN M f = M' f) ∨ (lastTo M 8 = 0 ∧ i + 1 = A.length)) := fun i M hi => by
  rw [hA] at hi ⊢; exact every_steps hu hi
 have HBO : Hid (∀ (i : Nat) (M : Nat → Int), A[i]? = some M → ∀ f, f < 8 → 0 ≤ M f ∧ M f ≤ 6) := fun i M hi f hf => by
  rw [hA] at hi
  have := (everyC_sum (List.mem_of_getElem? hi)).1 f hf
  omega
 have HCk : Hid (∀ W, Calls Tryz.prog 38 #[.int .i64 u] W (Sk W .nilIface)) := fun W => fitCheck_ok u hu W
 rw [← hA] at hM0 hY ⊢
 clear hA hu
 have HY : Hid (∀ (k : Nat) (x : Nat → Int) (W1 : World), A[k]? = some x → J k W1 → YieldAt Fence.wide (n - 1) Tryz.prog l #[.agg #[.int .i64 (x 0), .int .i64 (x 1), .int .i64 (x 2), .int .i64 (x 3), .int .i64 (x 4), .int .i64 (x 5), .int .i64 (x 6), .int .i64 (x 7)]] W1 fun e W' =>
     (e = .returned (.bool true) ∧ J (k + 1) W' ∧ Over W.heap.size W1 W') ∨ (e = .returned (.bool false) ∧ Jx (k + 1) W')) := hY
 have HJ := hide hJ
 clear hY hJ
 have e8 : Hid (arr8 M0 = #[.int .i64 0, .int .i64 0, .int .i64 0, .int .i64 0, .int .i64 0, .int .i64 0, .int .i64 0, .int .i64 u]) := by
  unfold Hid arr8
  rw [hM0' 0 (by omega), hM0' 1 (by omega), hM0' 2 (by omega), hM0' 3 (by omega), hM0' 4 (by omega), hM0' 5 (by omega), hM0' 6 (by omega), hM0' 7 (by omega)]
  rfl
 have H0 := hide h0
 have HM0 := hide hM0
 clear hM0' h0 hM0
 refine callsIn_of_wp Tryz.func74 rfl trivial ?_ rfl
 simp only [Tryz.ntmps74, List.size_toArray, List.length_cons, List.length_nil, Nat.reduceAdd, Nat.reduceSub, Array.replicate_succ, Array.replicate_zero, List.push_toArray, List.append_toArray, List.nil_append, List.cons_append]
 have hBu : Bu < W.heap.size := World.block_lt_of_cell? _ _ hB
 have hBa : (W.drew.alloc (.cells #[.int .i64 0, .int .i64 0, .int .i64 0, .int .i64 0, .int .i64 0, .int .i64 0, .int .i64 0, .int .i64 0] 44)).cell? ⟨Bu, 0, none⟩ = some (.int .i64 u) := (World.cell?_alloc_lt _ _ _ hBu).trans hB
 gi_upto_region 0 with fail
 gi_cut [3, 4] from 5 (fun p ok wr => p = .pointer (some ⟨W.heap.size, 0, none⟩) ∧ ok = .bool true ∧ Below W.heap.size W wr ∧ Blk wr W.heap.size 44 (arr8 M0))
 case first =>
  gi_region_with (refine ⟨trivial, ?_⟩; gi_at_call 38; refine (callsIn_wide.2 (HCk.out _)).mono ?_; rintro e w8 ⟨rfl, rfl⟩)
  all_goals (try gi_wp2)
  all_goals gi_meet
  all_goals exact ⟨rfl, rfl, (below_alloc1 W _).drew, by rw [e8.out]; exact (Blk.new W _ _).drew⟩
 case rest =>
 obtain ⟨rfl, rfl, hb1, hk1⟩ := hcut
 have HK1 : Hid (Blk wc W.heap.size 44 (arr8 M0)) := hk1
 have HJ1 : Hid (J 0 wc) := HJ.out _ _ _ H0.out hb1
 clear hb1 hk1
 gi_wp2
 gi_loopg [4] (A.length) (fun gk ok wr => (∃ (k : Nat) (M : Nat → Int), ok = .bool true ∧ A[k]? = some M ∧ gk = A.length - k ∧ J k wr ∧ Blk wr W.heap.size 44 (arr8 M)) ∨ (ok = .bool false ∧ J A.length wr))
 case atStart => exact Or.inl ⟨0, M0, rfl, HM0.out, rfl, HJ1.out, HK1.out⟩
 case round =>
  rcases hrel with ⟨k, M, rfl, hM, hg, hj, hk⟩ | ⟨rfl, hj⟩
  ·have HM := hide hM
   have HG := hide hg
   have HKk : Hid (Blk wr W.heap.size 44 (arr8 M)) := hk
   have HL : Hid (k < A.length) := (List.getElem?_eq_some_iff.1 hM).1
   obtain ⟨fn, tmps, assign, body, hy, hR⟩ := HY.out k M wr hM hj
   obtain ⟨x0, x1, x2, x3, x4, x5, x6, x7⟩ := hk.cells8
   clear hM hg hk hj
   gi_wp2
   refine hR.mono ?_
   rintro e W3 (⟨rfl, hJ3, hO3⟩ | ⟨rfl, hJx3⟩)
   ·have HJ3 := hide hJ3
    have HK3 : Hid (Blk W3 W.heap.size 44 (arr8 M)) := HKk.out.over hO3 (Nat.le_refl _)
    obtain ⟨M', hM'⟩ := nm (afterO M)
    obtain ⟨ok, hok⟩ : ∃ b, b = !(lastTo M 8 == 0) := ⟨_, rfl⟩
    have HAf : Hid (∀ W, Calls Tryz.prog 75 #[.agg #[.int .i64 (M 0), .int .i64 (M 1), .int .i64 (M 2), .int .i64 (M 3), .int .i64 (M 4), .int .i64 (M 5), .int .i64 (M 6), .int .i64 (M 7)]] W (Bk W (.tuple #[.agg #[.int .i64 (M' 0), .int .i64 (M' 1), .int .i64 (M' 2), .int .i64 (M' 3), .int .i64 (M' 4), .int .i64 (M' 5), .int .i64 (M' 6), .int .i64 (M' 7)], .bool ok]))) := fun W => by
     rw [hM', hok]; exact after_any M W (HBO.out k M HM.out)
    have HM' := hide hM'
    have Hok := hide hok
    clear hJ3 hO3 x0 x1 x2 x3 x4 x5 x6 x7 hy hR hM' hok
    obtain ⟨x0, x1, x2, x3, x4, x5, x6, x7⟩ := HK3.out.cells8
    gi_wp2_with fail
    refine ⟨trivial, ?_⟩
    gi_at_call 75
    refine (callsIn_wide.2 (HAf.out _)).mono ?_
    rintro e W4 ⟨rfl, hb4⟩
    have HK4 := hide (HK3.out.below hb4)
    have HJ4 : Hid (J (k + 1) W4) := HJ.out _ _ _ HJ3.out (hb4.mono (Nat.le_of_lt HK3.out.lt))
    clear hb4 x0 x1 x2 x3 x4 x5 x6 x7
    obtain ⟨x0, x1, x2, x3, x4, x5, x6, x7⟩ := HK4.out.cells8
    obtain ⟨f0, f1, f2, f3, f4, f5, f6, f7⟩ := HK4.out.frozen8
    gi_wp2
    have hJ5 : J (k + 1) (put8 W4 W.heap.size M') := HJ.out _ _ _ HJ4.out (put8_below (Below.refl _ _) (Nat.le_refl _) _)
    rcases HST.out k M HM.out with ⟨h0, M2, hM2, he⟩ | ⟨h0, he⟩
    ·gi_roundg (A.length - (k + 1))
     case rel =>
      refine Or.inl ⟨k + 1, M2, ?_, hM2, rfl, hJ5, ?_⟩
      ·rw [Hok.out]; simp [h0]
      ·have hb := put8_blk HK4.out M'
       have e : arr8 M' = arr8 M2 := arr8_same fun f hf => by rw [HM'.out]; unfold afterO; rw [if_neg h0]; exact he f hf
       rw [e] at hb
       exact hb
     case measure => have := HL.out; rw [HG.out]; omega
    ·gi_roundg 0
     case rel => exact Or.inr ⟨by rw [Hok.out, h0]; rfl, by rw [← he]; exact hJ5⟩
     case measure => have := HL.out; rw [HG.out]; omega
   ·gi_wp2
    go_end0
    exact ⟨⟨_, rfl⟩, .inr ⟨k, HL.out, hJx3⟩⟩
  ·have HJe := hide hj
   clear hj
   gi_wp2
   refine ⟨fun _ _ => trivial, ?_⟩
   gi_wp2
   go_end0
   exact ⟨⟨_, rfl⟩, .inl HJe.out⟩
theorem Blk.keep {B G : Nat} {W W' : World} {T : TypeId} {cs : Array Value} (h : Blk W G T cs) (hb : Below B W W') (hG : G < B) : Blk W' G T cs := by
 unfold Blk; rw [hb.block G hG]; exact h
theorem Blk.putO {G l : Nat} {W : World} {T : TypeId} {cs : Array Value} (h : Blk W G T cs) (o : Obj) (hl : G ≠ l) : Blk (W.putObj l o) G T cs := by
 unfold Blk; rw [World.putObj_heap_other hl]; exact h
theorem results_two {fn : Func} {p q : Tmp} {ty tz : TypeId} (h : fn.results = #[.cell p ty, .cell q tz]) (tmps : Array Value) (P : Program) (w : World) :
    (results fn tmps).run P w = ((asAddr (tmps.getD p undef)).run P w).andThen fun a w1 => ((loadVar ty a).run P w1).andThen fun v w2 => ((asAddr (tmps.getD q undef)).run P w2).andThen fun b w3 => ((loadVar tz b).run P w3).andThen fun u w4 => .ok (.tuple #[v, u]) w4 := by
 simp only [results, h]
 simp [Sem.run_bind, Result.andThen]
theorem loadI {W : World} {R : Nat} {v : Value} (h : Blk W R 3 #[v]) : (loadVar 3 ⟨R, 0, none⟩).run Tryz.prog W = .ok v W := by
 have hc : W.cell? ⟨R, 0, none⟩ = some v := h.cell 0
 simp [loadVar, Tryz.isAgg3, Result.andThen, hc]
theorem loadE {W : World} {R : Nat} {v : Value} (h : Blk W R 29 #[v]) : (loadVar 29 ⟨R, 0, none⟩).run Tryz.prog W = .ok v W := by
 have hc : W.cell? ⟨R, 0, none⟩ = some v := h.cell 0
 simp [loadVar, Tryz.isAgg29, Result.andThen, hc]
theorem five_new (w : World) (o0 o1 o2 o3 o4 : Obj) :
    (((((w.alloc o0).alloc o1).alloc o2).alloc o3).alloc o4).heap.size = w.heap.size + 5 ∧
    (((((w.alloc o0).alloc o1).alloc o2).alloc o3).alloc o4).heap[w.heap.size]? = some o0 ∧
    (((((w.alloc o0).alloc o1).alloc o2).alloc o3).alloc o4).heap[w.heap.size + 1]? = some o1 ∧
    (((((w.alloc o0).alloc o1).alloc o2).alloc o3).alloc o4).heap[w.heap.size + 1 + 1]? = some o2 ∧
    (((((w.alloc o0).alloc o1).alloc o2).alloc o3).alloc o4).heap[w.heap.size + 1 + 1 + 1]? = some o3 ∧
    (((((w.alloc o0).alloc o1).alloc o2).alloc o3).alloc o4).heap[w.heap.size + 1 + 1 + 1 + 1]? = some o4 ∧
    Below w.heap.size w (((((w.alloc o0).alloc o1).alloc o2).alloc o3).alloc o4) := by
 have s1 : (w.alloc o0).heap.size = w.heap.size + 1 := World.size_alloc _ _
 have s2 : ((w.alloc o0).alloc o1).heap.size = w.heap.size + 1 + 1 := by rw [World.size_alloc, s1]
 have s3 : (((w.alloc o0).alloc o1).alloc o2).heap.size = w.heap.size + 1 + 1 + 1 := by rw [World.size_alloc, s2]
 have s4 : ((((w.alloc o0).alloc o1).alloc o2).alloc o3).heap.size = w.heap.size + 1 + 1 + 1 + 1 := by rw [World.size_alloc, s3]
 refine ⟨by rw [World.size_alloc, s4], ?_, ?_, ?_, ?_, ?_, ?_⟩
 ·rw [Below.heap_alloc _ _ _ (by omega), Below.heap_alloc _ _ _ (by omega), Below.heap_alloc _ _ _ (by omega), Below.heap_alloc _ _ _ (by omega)]; exact World.alloc_heap_new _ _
 ·rw [Below.heap_alloc _ _ _ (by omega), Below.heap_alloc _ _ _ (by omega), Below.heap_alloc _ _ _ (by omega), ← s1]; exact World.alloc_heap_new _ _
 ·rw [Below.heap_alloc _ _ _ (by omega), Below.heap_alloc _ _ _ (by omega), ← s2]; exact World.alloc_heap_new _ _
 ·rw [Below.heap_alloc _ _ _ (by omega), ← s3]; exact World.alloc_heap_new _ _
 ·rw [← s4]; exact World.alloc_heap_new _ _
 ·exact (((((Below.refl _ w).alloc (Nat.le_refl _) _).alloc (by omega) _).alloc (by omega) _).alloc (by omega) _).alloc (by omega) _
end Go.Proofs.YtjaedfjfcghgcabGreatDoor