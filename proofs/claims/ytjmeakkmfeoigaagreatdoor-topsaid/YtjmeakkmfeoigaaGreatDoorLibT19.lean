/-
  Facts and contracts that the statement leans on.
-/
import Derived.Test.YtjmeakkmfeoigaaGreatDoorLibT6
import Derived.Test.YtjmeakkmfeoigaaGreatDoorLibT17
import Derived.Test.YtjmeakkmfeoigaaGreatDoorLibT18
import Derived.Test.YtjmeakkmfeoigaaGreatDoorLibT12
import Derived.Test.YtjmeakkmfeoigaaGreatDoorLibT11
import Derived.Laws.ResultCell
import Derived.Lib.AppendZerosOnto
import Derived.Lib.Walk
import Derived.Lib.SliceRun
namespace Go.Proofs.YtjmeakkmfeoigaaGreatDoor
open Go.ChangeShapes Go.WideShapes Go.ChangeAt Go.RowKit
set_option maxRecDepth 100000
def askCheckN (fs : List Fm) (ats : List At) (c : List Int) (u : Int) : Int := if formsFault fs u = 0 then formFault ats c else formsFault fs u
theorem askcheck_forms (lo : Option Addr) (ln lcap : Nat) (ao : Option Addr) (al acap : Nat) (co : Option Addr) (cl ccap : Nat) (u m : Int) (w : World)
    (HF : Hid (∀ W, Below w.heap.size w W → Calls Tryz.prog 76 #[.slice lo ln lcap, .int .i64 u] W (Bk W (.iface 64 (.int .i64 m))))) :
    Calls Tryz.prog 45 #[.slice lo ln lcap, .agg #[.slice ao al acap, .slice co cl ccap], .int .i64 u] w (Bk w (.iface 64 (.int .i64 m))) := by
 go_enter Tryz.func45, Tryz.ntmps45
 go_wp2_with fail
 go_at_call 76
 refine (HF.out _ (below_alloc1 _ _)).mono ?_
 rintro e w2 ⟨rfl, hb⟩
 have HB : Hid (Below w.heap.size w w2) := (below_alloc1 w _).trans (hb.mono (by simp))
 clear hb
 go_wp2
 go_ret
 exact ⟨rfl, HB.out⟩
theorem askcheck_good (lo : Option Addr) (ln lcap : Nat) (ao : Option Addr) (al acap : Nat) (co : Option Addr) (cl ccap : Nat) (u : Int) (E : Value) (w : World)
    (HF : Hid (∀ W, Below w.heap.size w W → Calls Tryz.prog 76 #[.slice lo ln lcap, .int .i64 u] W (Bk W .nilIface)))
    (HG : Hid (∀ W, Below w.heap.size w W → Calls Tryz.prog 14 #[.agg #[.slice ao al acap, .slice co cl ccap]] W (Bk W E))) :
    Calls Tryz.prog 45 #[.slice lo ln lcap, .agg #[.slice ao al acap, .slice co cl ccap], .int .i64 u] w (Bk w E) := by
 obtain ⟨w1, hw1⟩ := nm (w.alloc (.cells #[.slice ao al acap, .slice co cl ccap] 39))
 have HB1 : Hid (Below w.heap.size w w1) := by unfold Hid; rw [hw1]; exact below_alloc1 _ _
 have HQ : Hid (Blk w1 w.heap.size 39 #[.slice ao al acap, .slice co cl ccap]) := by unfold Hid; rw [hw1]; exact Blk.new _ _ _
 go_enter Tryz.func45, Tryz.ntmps45
 go_upto_region 1 with fail
 rw [← hw1]
 clear hw1
 go_wp2_with fail
 go_at_call 76
 refine (HF.out _ HB1.out).mono ?_
 rintro e w2 ⟨rfl, hb⟩
 have HB2 := hide (HB1.out.trans (hb.mono HB1.out.size))
 have y0 : w2.cell? ⟨w.heap.size, 0, none⟩ = some (.slice ao al acap) := (HQ.out.below hb).cell 0
 have y1 : w2.cell? ⟨w.heap.size, 1, none⟩ = some (.slice co cl ccap) := (HQ.out.below hb).cell 1
 clear hb
 go_wp2_with fail
 go_at_call 14
 refine (HG.out _ HB2.out).mono ?_
 rintro e w3 ⟨rfl, hb⟩
 have HB3 := hide (HB2.out.trans (hb.mono HB2.out.size))
 clear hb y0 y1
 go_wp2
 go_ret
 exact ⟨rfl, HB3.out⟩
theorem askCheck_any (v va vc : Value) (fs : List Fm) (ats : List At) (c : List Int) (u : Int) (w : World) (hF : ReadsF w v fs) (hA : ReadsA w va ats) (hC : Reads w vc c) (hK : KindsLaid w) :
    Calls Tryz.prog 45 #[v, .agg #[va, vc], .int .i64 u] w (Bk w (errV (askCheckN fs ats c u))) := by
 have hL := fun W (hW : Below w.heap.size w W) => coreCheck_any v fs u W (hF.below hW) (hK.below hW)
 have hG := fun W (hW : Below w.heap.size w W) => fcheck_any va vc ats c W (hA.below hW) (hC.below hW) (hK.below hW)
 obtain ⟨lo, lcap, rfl, _⟩ := hF.slice
 obtain ⟨ao, acap, rfl, _⟩ := hA.slice
 obtain ⟨co, ccap, rfl, _⟩ := hC.slice
 unfold askCheckN
 by_cases h : formsFault fs u = 0
 ·rw [if_pos h]
  rw [h] at hL
  exact askcheck_good lo _ lcap ao _ acap co _ ccap u _ w hL hG
 ·rw [if_neg h, errV_no h]
  rw [errV_no h] at hL
  exact askcheck_forms lo _ lcap ao _ acap co _ ccap u _ w hL
def seenN (h f : Bool) : Int := if h = true then (if f = true then 0 else 1) else (if f = true then -1 else 0)
def seenE (h f : Bool) : Int := if (h || f) = true then 0 else 6
theorem seenAnswer_any (h f : Bool) (w : World) : Calls Tryz.prog 47 #[.agg #[.bool h, .bool f]] w (Bk w (.tuple #[.int .i64 (seenN h f), errV (seenE h f)])) := by
 cases h <;> cases f
 ·show Calls _ _ _ _ fun e w' => e = .returned (.tuple #[.int .i64 0, .iface 64 (.int .i64 6)]) ∧ _
  go_enter Tryz.func47, Tryz.ntmps47
  go_wp2
  go_ret2
  exact ⟨rfl, below_alloc1 _ _⟩
 ·show Calls _ _ _ _ fun e w' => e = .returned (.tuple #[.int .i64 (-1), .nilIface]) ∧ _
  go_enter Tryz.func47, Tryz.ntmps47
  go_wp2
  go_ret2
  exact ⟨rfl, below_alloc1 _ _⟩
 ·show Calls _ _ _ _ fun e w' => e = .returned (.tuple #[.int .i64 1, .nilIface]) ∧ _
  go_enter Tryz.func47, Tryz.ntmps47
  go_wp2
  go_ret2
  exact ⟨rfl, below_alloc1 _ _⟩
 ·show Calls _ _ _ _ fun e w' => e = .returned (.tuple #[.int .i64 0, .nilIface]) ∧ _
  go_enter Tryz.func47, Tryz.ntmps47
  go_wp2
  go_ret2
  exact ⟨rfl, below_alloc1 _ _⟩
theorem seen_is {p : Int × Int} (h : 0 ≤ p.1 ∧ 0 ≤ p.2) : seenN (decide (¬ p.1 = 0)) (decide (¬ p.2 = 0)) = (if p.1 + p.2 = 0 then 0 else answerN p) ∧ seenE (decide (¬ p.1 = 0)) (decide (¬ p.2 = 0)) = if p.1 + p.2 = 0 then 6 else 0 := by
 unfold seenN seenE answerN
 by_cases h1 : p.1 = 0 <;> by_cases h2 : p.2 = 0 <;> simp [h1, h2] <;> omega
set_option maxHeartbeats 8000000 in
theorem allHold_any (v : Value) (fs : List Fm) (hgood : ∀ f ∈ fs, f.fault = 0) (D : Wd) (hok : D.ok = true) (w : World) (hF : ReadsF w v fs) (hK : KindsLaid w) :
    Calls Tryz.prog 79 #[v, .agg #[.int .i64 D.u, .int .i64 D.a, .int .i64 D.b, .int .i64 D.c]] w (Bk w (.tuple #[.bool (D.so fs), .nilIface])) := by
 obtain ⟨lo, lcap, rfl, hl63⟩ := hF.slice
 have HF := hide hF
 obtain ⟨L, hL⟩ : ∃ L : Nat → Bool, L = fun j => match fs[j]? with | some f => D.formIs f.ats f.c | none => false := ⟨_, rfl⟩
 have HHo : Hid (∀ (k : Nat) f va vc W, fs[k]? = some f → Below w.heap.size w W → ReadsA W va f.ats → Reads W vc f.c → Calls Tryz.prog 26 #[.agg #[va, vc], .agg #[.int .i64 D.u, .int .i64 D.a, .int .i64 D.b, .int .i64 D.c]] W (Bk W (.tuple #[.bool (L k), .nilIface]))) := fun k f va vc W hf hW hA hC => by
  have h := fholds_any va vc f.ats f.c D.u D.a D.b D.c W hA hC (hK.below hW)
  have e : (Wd.mk D.u D.a D.b D.c).formFault f.ats f.c = 0 := wdForm_zero.2 ⟨hgood f (List.mem_of_getElem? hf), hok⟩
  rw [e] at h
  have eL : L k = D.formIs f.ats f.c := by rw [hL]; show (match fs[k]? with | some f => D.formIs f.ats f.c | none => false) = _; rw [hf]
  rw [eL]
  exact h
 have HNo : Hid (∀ k, k < fs.length → L k = false → D.so fs = false) := fun k hk h => by
  rw [hL] at h
  simp only [List.getElem?_eq_getElem hk] at h
  unfold Wd.so
  rw [List.all_eq_false]
  exact ⟨_, List.getElem_mem hk, by rw [h]; decide⟩
 have HYes : Hid ((∀ j, j < fs.length → L j = true) → D.so fs = true) := fun h => by
  unfold Wd.so
  rw [List.all_eq_true]
  intro f hf
  obtain ⟨i, hi⟩ := List.mem_iff_getElem?.1 hf
  have := h i (List.getElem?_eq_some_iff.1 hi).1
  rw [hL] at this
  simp only [hi] at this
  exact this
 obtain ⟨S, hS⟩ := nm (D.so fs)
 rw [← hS] at HNo HYes ⊢
 obtain ⟨n, hn⟩ := nm fs.length
 rw [← hn] at HF hl63 HNo HYes ⊢
 have HN := hide hn
 obtain ⟨w1, hw1⟩ := nm (w.alloc (.cells #[.int .i64 D.u, .int .i64 D.a, .int .i64 D.b, .int .i64 D.c] 55))
 have HB1 : Hid (Below w.heap.size w w1) := by unfold Hid; rw [hw1]; exact below_alloc1 _ _
 have HQ1 : Hid (Blk w1 w.heap.size 55 (arrW D)) := by unfold Hid; rw [hw1]; exact Blk.new _ _ _
 clear hF hL hS hn hgood hok hK
 go_enter Tryz.func79, Tryz.ntmps79
 go_wp2
 rw [← hw1]
 clear hw1
 go_loopw [12] (fun i wr => ∃ k : Nat, k ≤ n ∧ i = .int .i64 k ∧ Below w1.heap.size w1 wr ∧ Hid (∀ j, j < k → L j = true)) (fun i _ => n - (intOf i).toNat)
 case atStart => exact ⟨0, Nat.zero_le _, rfl, Below.refl _ _, fun j hj => by omega⟩
 case round =>
  obtain ⟨k, hk, rfl, hbr, HSo⟩ := hrel
  have HBr := hide hbr
  have HBw := hide (HB1.out.trans (hbr.mono HB1.out.size))
  clear hbr
  by_cases hlt : k < n
  ·obtain ⟨f, hf⟩ : ∃ f, fs[k]? = some f := ⟨_, List.getElem?_eq_getElem (by rw [← HN.out]; exact hlt)⟩
   obtain ⟨bL, oL, cL, hv⟩ := HF.out.place (by rw [← HN.out]; omega)
   obtain ⟨hlo, hx1, hx2⟩ := Value.slice.inj hv
   clear hx1 hx2
   subst hlo
   obtain ⟨hbL, va, vc, c0, c1, hA, hC⟩ := HF.out.at hf
   obtain ⟨ao, acap, rfl, _⟩ := hA.slice
   obtain ⟨co, ccap, rfl, _⟩ := hC.slice
   have x0 : wr.cell? ⟨bL, oL + k * 2, none⟩ = some (.slice ao f.ats.length acap) := (HBw.out.cell hbL).trans c0
   have x1 : wr.cell? ⟨bL, oL + k * 2 + 1, none⟩ = some (.slice co f.c.length ccap) := (HBw.out.cell hbL).trans c1
   have HH1 : Hid (∀ W, Below wr.heap.size wr W → Calls Tryz.prog 26 #[.agg #[.slice ao f.ats.length acap, .slice co f.c.length ccap], .agg #[.int .i64 D.u, .int .i64 D.a, .int .i64 D.b, .int .i64 D.c]] W (Bk w1 (.tuple #[.bool (L k), .nilIface]))) := fun W hW => by
    have hb' := HBw.out.trans (hW.mono HBw.out.size)
    have hb1 := HBr.out.trans (hW.mono HBr.out.size)
    exact (HHo.out k f _ _ W hf hb' (hA.below hb') (hC.below hb')).mono fun e w' ⟨he, hb⟩ => ⟨he, hb1.trans (hb.mono hb1.size)⟩
   obtain ⟨al, hal⟩ := nm f.ats.length
   obtain ⟨cl, hcl⟩ := nm f.c.length
   rw [← hal] at x0 HH1
   rw [← hcl] at x1 HH1
   obtain ⟨wf, hwf⟩ := nm (wr.alloc (.cells #[.slice ao al acap, .slice co cl ccap] 39))
   have HBf : Hid (Below wr.heap.size wr wf) := by unfold Hid; rw [hwf]; exact below_alloc1 _ _
   have HQf : Hid (Blk wf wr.heap.size 39 #[.slice ao al acap, .slice co cl ccap]) := by unfold Hid; rw [hwf]; exact Blk.new _ _ _
   have HH2 : Hid (Calls Tryz.prog 26 #[.agg #[.slice ao al acap, .slice co cl ccap], .agg #[.int .i64 D.u, .int .i64 D.a, .int .i64 D.b, .int .i64 D.c]] wf (Bk w1 (.tuple #[.bool (L k), .nilIface]))) := HH1.out _ HBf.out
   clear hf hv hbL c0 c1 hA hC hal hcl HH1
   have hkn : (k : Int) < (n : Int) := by omega
   obtain ⟨q, hq⟩ := nm (L k)
   have HQ := hide (hq.symm)
   rw [← hq] at HH2
   clear hq
   go_upto_region 4 with fail
   rw [← hwf]
   clear hwf x0 x1
   have y0 : wf.cell? ⟨wr.heap.size, 0, none⟩ = some (.slice ao al acap) := HQf.out.cell 0
   have y1 : wf.cell? ⟨wr.heap.size, 1, none⟩ = some (.slice co cl ccap) := HQf.out.cell 1
   obtain ⟨d0, d1, d2, d3⟩ := ((HQ1.out.below HBr.out).below HBf.out).cells4
   go_wp2_with fail
   go_at_call 26
   refine HH2.out.mono ?_
   rintro e w8 ⟨rfl, hb8⟩
   have HB8 := hide hb8
   clear hb8 y0 y1 d0 d1 d2 d3
   cases q with
   | true =>
    go_wp2
    go_roundw
    case rel =>
     refine ⟨k + 1, by omega, by go_num, HB8.out, fun j hj => ?_⟩
     by_cases e : j = k
     ·subst e; exact HQ.out
     ·exact HSo.out j (by omega)
    case measure => simp [intOf]; omega
   | false =>
    have HR := hide (HNo.out k hlt HQ.out)
    go_wp2
    go_ret2
    exact ⟨by first | (rw [HR.out]; done) | (rw [HR.out]; rfl), HB1.out.trans (HB8.out.mono HB1.out.size)⟩
  ·obtain rfl : k = n := by omega
   have HR := hide (HYes.out HSo.out)
   clear hlt
   go_wp2
   go_ret2
   exact ⟨by first | (rw [HR.out]; done) | (rw [HR.out]; rfl), HBw.out⟩
end Go.Proofs.YtjmeakkmfeoigaaGreatDoor
namespace Go.Proofs.YtjmeakkmfeoigaaGreatDoor
open Go.ChangeShapes Go.WideShapes Go.ChangeAt Go.RowKit
set_option maxRecDepth 100000
attribute [local go_sem] Oper.semAt_some
def arrS (p : Bool × Bool) : Array Value := #[.bool p.1, .bool p.2]
theorem putS_blk {w : World} {R : Nat} {T : TypeId} {q : Bool × Bool} (h : Blk w R T (arrS q)) (p : Bool × Bool) : Blk ((w.setCell ⟨R, 0, none⟩ (.bool p.1)).setCell ⟨R, 1, none⟩ (.bool p.2)) R T (arrS p) := by
 have := (h.set 0 (.bool p.1)).set 1 (.bool p.2)
 have e : ((arrS q).setIfInBounds 0 (.bool p.1)).setIfInBounds 1 (.bool p.2) = arrS p := by simp [arrS]
 rw [e] at this
 exact this
theorem loadSn {W : World} {R : Nat} {p : Bool × Bool} (h : Blk W R 86 (arrS p)) : (loadVar 86 ⟨R, 0, none⟩).run Tryz.prog W = .ok (.agg (arrS p)) W := by
 have hl := run_loadCells_list (P := Tryz.prog) W ⟨R, 0, none⟩ (arrS p).toList (fun j v hj => by
  have := h.cell j
  rw [← Array.getElem?_toList] at this
  rw [hj] at this
  have ha : (⟨R, 0, none⟩ : Addr).add j = ⟨R, j, none⟩ := by unfold Addr.add; split <;> simp_all
  rw [ha]; exact this)
 simp [loadVar, Tryz.isAgg86, Tryz.sizeOf86, Result.andThen, arrS] at hl ⊢
 simp [hl]
set_option maxHeartbeats 4000000 in
theorem look_right (lo : Option Addr) (ln lcap : Nat) (ao : Option Addr) (al acap : Nat) (co : Option Addr) (cl ccap : Nat) (n : Nat) (hn : n ≤ 6) (D : (Nat → Int) → Wd) (p q : (Nat → Int) → Bool) (P : Nat → Bool × Bool) (R : Bool × Bool) (w : World)
    (hC : ∀ (M : Nat → Int) W, M ∈ everyC n → Calls Tryz.prog 78 #[.agg #[.int .i64 (M 0), .int .i64 (M 1), .int .i64 (M 2), .int .i64 (M 3), .int .i64 (M 4), .int .i64 (M 5), .int .i64 (M 6), .int .i64 (M 7)]] W (Bk W (.tuple #[.agg #[.int .i64 (D M).u, .int .i64 (D M).a, .int .i64 (D M).b, .int .i64 (D M).c], .nilIface])))
    (hH : ∀ (M : Nat → Int) W, M ∈ everyC n → Below w.heap.size w W → Calls Tryz.prog 79 #[.slice lo ln lcap, .agg #[.int .i64 (D M).u, .int .i64 (D M).a, .int .i64 (D M).b, .int .i64 (D M).c]] W (Bk W (.tuple #[.bool (p M), .nilIface])))
    (hQ : ∀ (M : Nat → Int) W, M ∈ everyC n → Below w.heap.size w W → Calls Tryz.prog 26 #[.agg #[.slice ao al acap, .slice co cl ccap], .agg #[.int .i64 (D M).u, .int .i64 (D M).a, .int .i64 (D M).b, .int .i64 (D M).c]] W (Bk W (.tuple #[.bool (q M), .nilIface])))
    (h0 : P 0 = (false, false)) (h1 : ∀ (k : Nat) (M : Nat → Int), (everyC n)[k]? = some M → P (k + 1) = if p M = true then ((P k).1 || q M, (P k).2 || !q M) else P k)
    (hR : R = P (everyC n).length) :
    Calls Tryz.prog 46 #[.slice lo ln lcap, .agg #[.slice ao al acap, .slice co cl ccap], .int .i64 n] w (Bk w (.tuple #[.agg (arrS R), .nilIface])) := by
 obtain ⟨A, hA⟩ := nm (everyC n)
 have HC : Hid (∀ (k : Nat) (M : Nat → Int) W, A[k]? = some M → Calls Tryz.prog 78 #[.agg #[.int .i64 (M 0), .int .i64 (M 1), .int .i64 (M 2), .int .i64 (M 3), .int .i64 (M 4), .int .i64 (M 5), .int .i64 (M 6), .int .i64 (M 7)]] W (Bk W (.tuple #[.agg #[.int .i64 (D M).u, .int .i64 (D M).a, .int .i64 (D M).b, .int .i64 (D M).c], .nilIface]))) := fun k M W hM => hC M W (by rw [hA] at hM; exact List.mem_of_getElem? hM)
 have HF : Hid (∀ (k : Nat) (M : Nat → Int) W, A[k]? = some M → Below w.heap.size w W → Calls Tryz.prog 79 #[.slice lo ln lcap, .agg #[.int .i64 (D M).u, .int .i64 (D M).a, .int .i64 (D M).b, .int .i64 (D M).c]] W (Bk W (.tuple #[.bool (p M), .nilIface]))) := fun k M W hM hW => hH M W (by rw [hA] at hM; exact List.mem_of_getElem? hM) hW
 have HQ : Hid (∀ (k : Nat) (M : Nat → Int) W, A[k]? = some M → Below w.heap.size w W → Calls Tryz.prog 26 #[.agg #[.slice ao al acap, .slice co cl ccap], .agg #[.int .i64 (D M).u, .int .i64 (D M).a, .int .i64 (D M).b, .int .i64 (D M).c]] W (Bk W (.tuple #[.bool (q M), .nilIface]))) := fun k M W hM hW => hQ M W (by rw [hA] at hM; exact List.mem_of_getElem? hM) hW
 have HS : Hid (∀ Bu W, W.cell? ⟨Bu, 0, none⟩ = some (.int .i64 n) → SeqG 2 Tryz.prog 115 #[.pointer (some ⟨Bu, 0, none⟩)] enc8 A W) := fun Bu W hB => by rw [hA]; exact iter_any n hn 2 (by omega) Bu W hB
 have HP0 := hide h0
 rw [← hA] at h1 hR
 have HP1 := hide h1
 have HR := hide hR
 clear hA hC hH hQ h0 h1 hR
 obtain ⟨hs1, b0, b1, b2, b3, b4, hB1⟩ := five_new w (.cells #[.slice lo ln lcap] 34) (.cells #[.slice ao al acap, .slice co cl ccap] 39) (.cells #[.bool false, .bool false] 86) (.cells #[.nilIface] 24) (.cells #[.bool false, .bool false] 86)
 obtain ⟨w1, hw1⟩ := nm (((((w.alloc (.cells #[.slice lo ln lcap] 34)).alloc (.cells #[.slice ao al acap, .slice co cl ccap] 39)).alloc (.cells #[.bool false, .bool false] 86)).alloc (.cells #[.nilIface] 24)).alloc (.cells #[.bool false, .bool false] 86))
 rw [← hw1] at hs1 b0 b1 b2 b3 b4 hB1
 have HB1 := hide hB1
 have I0 : Hid (Blk w1 w.heap.size 34 #[.slice lo ln lcap]) := b0
 have I1 : Hid (Blk w1 (w.heap.size + 1) 39 #[.slice ao al acap, .slice co cl ccap]) := b1
 have I2 : Hid (Blk w1 (w.heap.size + 1 + 1) 86 (arrS (false, false))) := b2
 have I3 : Hid (Blk w1 (w.heap.size + 1 + 1 + 1) 24 #[.nilIface]) := b3
 have I4 : Hid (Blk w1 (w.heap.size + 1 + 1 + 1 + 1) 86 (arrS (P 0))) := by unfold Hid; rw [HP0.out]; exact b4
 obtain ⟨G, hG⟩ := nm w1.heap.size
 have HG : Hid (G = w.heap.size + 5) := by unfold Hid; rw [hG]; exact hs1
 clear hs1 b0 b1 b2 b3 b4 hB1
 refine (callsIn_wide (n := 3)).1 ?_
 refine callsIn_of_wp_marks Tryz.func46 rfl trivial ?_ rfl
 simp only [Tryz.ntmps46, List.size_toArray, List.length_cons, List.length_nil, Nat.reduceAdd, Nat.reduceSub, Array.replicate_succ, Array.replicate_zero, List.push_toArray, List.append_toArray, List.nil_append, List.cons_append]
 gi_upto_region 2 with fail
 rw [← hw1]
 clear hw1
 gi_wp2_with fail
 refine ⟨trivial, ?_⟩
 gi_at_call 77
 refine (callsIn_wide.2 (fitAll_any _ _)).mono ?_
 rintro e w4 ⟨rfl, rfl⟩
 gi_wp2_with fail
 obtain ⟨wl, hwl⟩ := nm (w1.alloc (.cells #[.int .i64 n] 3))
 have HB0 : Hid (Below w.heap.size w wl) := by unfold Hid; rw [hwl]; exact HB1.out.alloc HB1.out.size _
 have Hsz : Hid (wl.heap.size = G + 1) := by unfold Hid; rw [hwl, hG, World.size_alloc]
 have H0 : Hid (Blk wl w.heap.size 34 #[.slice lo ln lcap]) := by unfold Hid; rw [hwl]; exact I0.out.old _
 have H1 : Hid (Blk wl (w.heap.size + 1) 39 #[.slice ao al acap, .slice co cl ccap]) := by unfold Hid; rw [hwl]; exact I1.out.old _
 have H2 : Hid (Blk wl (w.heap.size + 1 + 1) 86 (arrS (false, false))) := by unfold Hid; rw [hwl]; exact I2.out.old _
 have H3 : Hid (Blk wl (w.heap.size + 1 + 1 + 1) 24 #[.nilIface]) := by unfold Hid; rw [hwl]; exact I3.out.old _
 have H4 : Hid (Blk wl (w.heap.size + 1 + 1 + 1 + 1) 86 (arrS (P 0))) := by unfold Hid; rw [hwl]; exact I4.out.old _
 have H5 : Hid (Blk wl G 3 #[.int .i64 n]) := by unfold Hid; rw [hwl, hG]; exact Blk.new _ _ _
 rw [← hwl, ← hG]
 clear hwl hG I0 I1 I2 I3 I4
 refine wpIn_range_own (by omega) (gf := 115) (lb := #[.pointer (some ⟨G, 0, none⟩)]) rfl (enters_of Tryz.func115 (by kernel_rfl) rfl) (encs := enc8) (A := A)
  (fun W hW => HS.out _ W ((hW.cell (by rw [Hsz.out]; simp)).trans (H5.out.cell 0))) (fun _ => rfl)
  (fun k W => Below w.heap.size w W ∧ Blk W w.heap.size 34 #[.slice lo ln lcap] ∧ Blk W (w.heap.size + 1) 39 #[.slice ao al acap, .slice co cl ccap] ∧ Blk W (w.heap.size + 1 + 1) 86 (arrS (false, false)) ∧ Blk W (w.heap.size + 1 + 1 + 1) 24 #[.nilIface] ∧ Blk W (w.heap.size + 1 + 1 + 1 + 1) 86 (arrS (P k)))
  (fun _ _ => False)
  (fun k X Y h hb => ⟨h.1.trans (hb.mono (by have := HG.out; rw [Hsz.out]; omega)), h.2.1.keep hb (by have := HG.out; rw [Hsz.out]; omega), h.2.2.1.keep hb (by have := HG.out; rw [Hsz.out]; omega), h.2.2.2.1.keep hb (by have := HG.out; rw [Hsz.out]; omega), h.2.2.2.2.1.keep hb (by have := HG.out; rw [Hsz.out]; omega), h.2.2.2.2.2.keep hb (by have := HG.out; rw [Hsz.out]; omega)⟩)
  (fun _ _ _ h _ => h) ⟨HB0.out, H0.out, H1.out, H2.out, H3.out, H4.out⟩ ?round ?done ?stop
 case round =>
  intro ln' k x W hx hl1 hl2 ⟨hB, c0, c1, c2, c3, c4⟩
  have HX := hide hx
  have Hl1 : Hid (w.heap.size + 6 ≤ ln') := by unfold Hid; have := HG.out; rw [Hsz.out] at hl1; omega
  have Hl2 := hide hl2
  have HBk := hide hB
  have C0 : Hid (Blk W w.heap.size 34 #[.slice lo ln lcap]) := c0
  have C1 : Hid (Blk W (w.heap.size + 1) 39 #[.slice ao al acap, .slice co cl ccap]) := c1
  have C2 : Hid (Blk W (w.heap.size + 1 + 1) 86 (arrS (false, false))) := c2
  have C3 : Hid (Blk W (w.heap.size + 1 + 1 + 1) 24 #[.nilIface]) := c3
  have C4 : Hid (Blk W (w.heap.size + 1 + 1 + 1 + 1) 86 (arrS (P k))) := c4
  clear hx hl1 hl2 hB c0 c1 c2 c3 c4 H0 H1 H2 H3 H4 H5
  unfold enc8
  gi_wp2
  refine ⟨(Over.refl _ _).alloc _, fun o => ?_⟩
  obtain ⟨W2, hW2⟩ := nm ((W.alloc (.cells #[.int .i64 (x 0), .int .i64 (x 1), .int .i64 (x 2), .int .i64 (x 3), .int .i64 (x 4), .int .i64 (x 5), .int .i64 (x 6), .int .i64 (x 7)] 122)).putObj ln' o)
  obtain ⟨Gx, hGx⟩ := nm W.heap.size
  have HB2 : Hid (Below w.heap.size w W2) := by unfold Hid; rw [hW2]; exact (HBk.out.alloc HBk.out.size _).trans (below_putObj _ _ (by have := Hl1.out; omega))
  have D0 : Hid (Blk W2 w.heap.size 34 #[.slice lo ln lcap]) := by unfold Hid; rw [hW2]; exact (C0.out.old _).putO _ (by have := Hl1.out; omega)
  have D1 : Hid (Blk W2 (w.heap.size + 1) 39 #[.slice ao al acap, .slice co cl ccap]) := by unfold Hid; rw [hW2]; exact (C1.out.old _).putO _ (by have := Hl1.out; omega)
  have D2 : Hid (Blk W2 (w.heap.size + 1 + 1) 86 (arrS (false, false))) := by unfold Hid; rw [hW2]; exact (C2.out.old _).putO _ (by have := Hl1.out; omega)
  have D3 : Hid (Blk W2 (w.heap.size + 1 + 1 + 1) 24 #[.nilIface]) := by unfold Hid; rw [hW2]; exact (C3.out.old _).putO _ (by have := Hl1.out; omega)
  have D4 : Hid (Blk W2 (w.heap.size + 1 + 1 + 1 + 1) 86 (arrS (P k))) := by unfold Hid; rw [hW2]; exact (C4.out.old _).putO _ (by have := Hl1.out; omega)
  have D8 : Hid (Blk W2 Gx 122 (arr8 x)) := by unfold Hid; rw [hW2, hGx]; exact (Blk.new _ _ _).putO _ (by have := Hl2.out; omega)
  rw [← hW2, ← hGx]
  clear hW2 hGx C0 C1 C2 C3 C4
  have HFk : Hid (∀ W, Below w.heap.size w W → Calls Tryz.prog 79 #[.slice lo ln lcap, .agg #[.int .i64 (D x).u, .int .i64 (D x).a, .int .i64 (D x).b, .int .i64 (D x).c]] W (Bk W (.tuple #[.bool (p x), .nilIface]))) := fun W => HF.out k x W HX.out
  have HM := hide (HP1.out k x HX.out)
  have HQk : Hid (∀ W, Below w.heap.size w W → Calls Tryz.prog 26 #[.agg #[.slice ao al acap, .slice co cl ccap], .agg #[.int .i64 (D x).u, .int .i64 (D x).a, .int .i64 (D x).b, .int .i64 (D x).c]] W (Bk W (.tuple #[.bool (q x), .nilIface]))) := fun W => HQ.out k x W HX.out
  have HCk := hide (HC.out k x W2 HX.out)
  obtain ⟨g, hg⟩ := nm (p x)
  obtain ⟨m, hm⟩ := nm (q x)
  obtain ⟨⟨a, b⟩, hp⟩ : ∃ r, r = P k := ⟨_, rfl⟩
  obtain ⟨E, hE⟩ := nm (D x)
  rw [← hg] at HFk HM
  rw [← hm] at HM HQk
  rw [← hp] at HM D4
  rw [← hE] at HFk HQk HCk
  clear hg hm hp hE
  obtain ⟨x0, x1, x2, x3, x4, x5, x6, x7⟩ := D8.out.cells8
  gi_wp2_with fail
  refine ⟨trivial, ?_⟩
  gi_at_call 78
  refine (CallsIn.inRound ln' (callsIn_wide.2 HCk.out)).mono ?_
  rintro e W3 ⟨rfl, hb3⟩
  have HB3 := hide (HB2.out.trans (hb3.mono HB2.out.size))
  have E0 := hide (D0.out.below hb3)
  have E1 := hide (D1.out.below hb3)
  have E2 := hide (D2.out.below hb3)
  have E3 := hide (D3.out.below hb3)
  have E4 := hide (D4.out.below hb3)
  have HO3 : Hid (Over wl.heap.size W2 W3) := Over.of_below hb3
  clear hb3 x0 x1 x2 x3 x4 x5 x6 x7 D0 D1 D2 D3 D4 D8
  obtain ⟨W4, hW4⟩ := nm (W3.alloc (.cells #[.int .i64 E.u, .int .i64 E.a, .int .i64 E.b, .int .i64 E.c] 55))
  obtain ⟨Gw, hGw⟩ := nm W3.heap.size
  have HB4 : Hid (Below w.heap.size w W4) := by unfold Hid; rw [hW4]; exact HB3.out.alloc HB3.out.size _
  have F0 : Hid (Blk W4 w.heap.size 34 #[.slice lo ln lcap]) := by unfold Hid; rw [hW4]; exact E0.out.old _
  have F1 : Hid (Blk W4 (w.heap.size + 1) 39 #[.slice ao al acap, .slice co cl ccap]) := by unfold Hid; rw [hW4]; exact E1.out.old _
  have F2 : Hid (Blk W4 (w.heap.size + 1 + 1) 86 (arrS (false, false))) := by unfold Hid; rw [hW4]; exact E2.out.old _
  have F3 : Hid (Blk W4 (w.heap.size + 1 + 1 + 1) 24 #[.nilIface]) := by unfold Hid; rw [hW4]; exact E3.out.old _
  have F4 : Hid (Blk W4 (w.heap.size + 1 + 1 + 1 + 1) 86 (arrS (a, b))) := by unfold Hid; rw [hW4]; exact E4.out.old _
  have F5 : Hid (Blk W4 Gw 55 (arrW E)) := by unfold Hid; rw [hW4, hGw]; exact Blk.new _ _ _
  have HO4 : Hid (Over wl.heap.size W2 W4) := by unfold Hid; rw [hW4]; exact HO3.out.trans ((Over.refl _ _).alloc _)
  gi_upto_region 5 with fail
  rw [← hW4, ← hGw]
  clear hW4 hGw E0 E1 E2 E3 E4 HB3 HO3
  have e0 : W4.cell? ⟨w.heap.size, 0, none⟩ = some (.slice lo ln lcap) := F0.out.cell 0
  obtain ⟨d0, d1, d2, d3⟩ := F5.out.cells4
  gi_wp2_with fail
  refine ⟨trivial, ?_⟩
  gi_at_call 79
  refine (CallsIn.inRound ln' (callsIn_wide.2 (HFk.out _ HB4.out))).mono ?_
  rintro e W5 ⟨rfl, hb5⟩
  have HB5 := hide (HB4.out.trans (hb5.mono HB4.out.size))
  have J0 := hide (F0.out.below hb5)
  have J1 := hide (F1.out.below hb5)
  have J2 := hide (F2.out.below hb5)
  have J3 := hide (F3.out.below hb5)
  have J4 := hide (F4.out.below hb5)
  have J5 := hide (F5.out.below hb5)
  have HO5 := hide (HO4.out.trans (Over.of_below hb5))
  clear hb5 e0 d0 d1 d2 d3 F0 F1 F2 F3 F4 F5 HB4 HO4
  cases g with
  | true =>
   have HM1 : Hid (P (k + 1) = (a || m, b || !m)) := by unfold Hid; have h := HM.out; rw [if_pos rfl] at h; exact h
   clear HM
   have e1 : W5.cell? ⟨w.heap.size + 1, 0, none⟩ = some (.slice ao al acap) := J1.out.cell 0
   have e2 : W5.cell? ⟨w.heap.size + 1, 1, none⟩ = some (.slice co cl ccap) := J1.out.cell 1
   obtain ⟨d0, d1, d2, d3⟩ := J5.out.cells4
   gi_wp2_with fail
   refine ⟨trivial, ?_⟩
   gi_at_call 26
   refine (CallsIn.inRound ln' (callsIn_wide.2 (HQk.out _ HB5.out))).mono ?_
   rintro e W6 ⟨rfl, hb6⟩
   have HB6 := hide (HB5.out.trans (hb6.mono HB5.out.size))
   have K0 := hide (J0.out.below hb6)
   have K1 := hide (J1.out.below hb6)
   have K2 := hide (J2.out.below hb6)
   have K3 := hide (J3.out.below hb6)
   have K4 := hide (J4.out.below hb6)
   have HO6 := hide (HO5.out.trans (Over.of_below hb6))
   clear hb6 e1 e2 d0 d1 d2 d3 J0 J1 J2 J3 J4 J5 HB5 HO5
   have s0 : W6.cell? ⟨w.heap.size + 1 + 1 + 1 + 1, 0, none⟩ = some (.bool a) := K4.out.cell 0
   have s1 : W6.cell? ⟨w.heap.size + 1 + 1 + 1 + 1, 1, none⟩ = some (.bool b) := K4.out.cell 1
   have z0 : W6.frozen? ⟨w.heap.size + 1 + 1 + 1 + 1, 0, none⟩ = false := K4.out.frozen 0
   have z1 : W6.frozen? ⟨w.heap.size + 1 + 1 + 1 + 1, 1, none⟩ = false := K4.out.frozen 1
   cases a <;> cases b <;> cases m <;> gi_wp2
   all_goals refine ⟨(HO6.out.setCell (by have := HG.out; rw [Hsz.out]; simp; omega) _).setCell (by have := HG.out; rw [Hsz.out]; simp; omega) _, (HB6.out.setCell (by simp; omega) _).setCell (by simp; omega) _, (K0.out.far (by omega) _ _).far (by omega) _ _, (K1.out.far (by omega) _ _).far (by omega) _ _, (K2.out.far (by omega) _ _).far (by omega) _ _, (K3.out.far (by omega) _ _).far (by omega) _ _, ?_⟩
   all_goals show Blk _ _ _ (arrS (P (k + 1)))
   all_goals have hM := HM1.out
   all_goals simp only [Bool.or_false, Bool.or_true, Bool.not_true, Bool.not_false] at hM
   all_goals rw [hM]
   all_goals exact putS_blk K4.out (_, _)
  | false =>
   have HM1 : Hid (P (k + 1) = (a, b)) := by unfold Hid; have h := HM.out; rw [if_neg (by decide)] at h; exact h
   clear HM
   gi_wp2
   exact ⟨HO5.out, HB5.out, J0.out, J1.out, J2.out, J3.out, by rw [HM1.out]; exact J4.out⟩
 case done =>
  intro D W hD ⟨hB, c0, c1, c2, c3, c4⟩ hK
  have HD : Hid (w.heap.size + 6 ≤ D) := by unfold Hid; have := HG.out; rw [Hsz.out] at hD; omega
  have HK := hide hK
  have HBk := hide hB
  rw [← HR.out] at c4
  obtain ⟨a, b⟩ := R
  have C2 : Hid (Blk W (w.heap.size + 1 + 1) 86 (arrS (false, false))) := c2
  have C3 : Hid (Blk W (w.heap.size + 1 + 1 + 1) 24 #[.nilIface]) := c3
  have C4 : Hid (Blk W (w.heap.size + 1 + 1 + 1 + 1) 86 (arrS (a, b))) := c4
  clear hD hB c0 c1 c2 c3 c4 hK H0 H1 H2 H3 H4 H5 HR
  have e1 : W.cell? ⟨w.heap.size + 1 + 1, 0, none⟩ = some (.bool false) := C2.out.cell 0
  have e2 : W.cell? ⟨w.heap.size + 1 + 1, 1, none⟩ = some (.bool false) := C2.out.cell 1
  have z1 : W.frozen? ⟨w.heap.size + 1 + 1, 0, none⟩ = false := C2.out.frozen 0
  have z2 : W.frozen? ⟨w.heap.size + 1 + 1, 1, none⟩ = false := C2.out.frozen 1
  have e3 : W.cell? ⟨w.heap.size + 1 + 1 + 1, 0, none⟩ = some .nilIface := C3.out.cell 0
  have z3 : W.frozen? ⟨w.heap.size + 1 + 1 + 1, 0, none⟩ = false := C3.out.frozen 0
  have e4 : W.cell? ⟨w.heap.size + 1 + 1 + 1 + 1, 0, none⟩ = some (.bool a) := C4.out.cell 0
  have e5 : W.cell? ⟨w.heap.size + 1 + 1 + 1 + 1, 1, none⟩ = some (.bool b) := C4.out.cell 1
  gi_wp2
  have hK' : (((W.setCell ⟨w.heap.size + 1 + 1, 0, none⟩ (.bool a)).setCell ⟨w.heap.size + 1 + 1, 1, none⟩ (.bool b)).setCell ⟨w.heap.size + 1 + 1 + 1, 0, none⟩ .nilIface).heap[D]? = some (.deferred (some [])) := by
   have := HD.out
   rw [Below.heap_setCell _ _ _ _ (by simp; omega), Below.heap_setCell _ _ _ _ (by simp; omega), Below.heap_setCell _ _ _ _ (by simp; omega)]; exact HK.out
  have r1 : Blk (((W.setCell ⟨w.heap.size + 1 + 1, 0, none⟩ (.bool a)).setCell ⟨w.heap.size + 1 + 1, 1, none⟩ (.bool b)).setCell ⟨w.heap.size + 1 + 1 + 1, 0, none⟩ .nilIface) (w.heap.size + 1 + 1) 86 (arrS (a, b)) := (putS_blk C2.out (a, b)).far (by omega) _ _
  have r2 : Blk (((W.setCell ⟨w.heap.size + 1 + 1, 0, none⟩ (.bool a)).setCell ⟨w.heap.size + 1 + 1, 1, none⟩ (.bool b)).setCell ⟨w.heap.size + 1 + 1 + 1, 0, none⟩ .nilIface) (w.heap.size + 1 + 1 + 1) 24 #[.nilIface] := ((C3.out.far (by omega) _ _).far (by omega) _ _).set 0 _
  refine ⟨by simp, .inl ⟨_, _, rfl, run_takeDeferred hK', ?_⟩⟩
  have hd := HD.out
  have l1 := loadSn (r1.putO (.deferred none) (l := D) (by omega))
  have l2 := loadE (r2.putO (.deferred none) (l := D) (by omega))
  refine ⟨.tuple #[.agg (arrS (a, b)), .nilIface], ?_, rfl, ?_⟩
  ·rw [results_two rfl]
   simp [asAddr, Result.andThen, l1, l2]
  ·exact (((HBk.out.setCell (by simp; omega) _).setCell (by simp; omega) _).setCell (by simp; omega) _).trans (below_putObj _ _ (by omega))
 case stop => exact fun _ _ _ _ _ h => h.elim
def seenP (p : Int × Int) : Bool × Bool := (decide (¬ p.1 = 0), decide (¬ p.2 = 0))
theorem look_any (v va vc : Value) (fs : List Fm) (ats : List At) (c : List Int) (n : Nat) (hn : n ≤ 6) (hgood : ∀ f ∈ fs, f.fault = 0) (hf : formFault ats c = 0) (w : World) (hF : ReadsF w v fs) (hA : ReadsA w va ats) (hC : Reads w vc c) (hK : KindsLaid w) :
    Calls Tryz.prog 46 #[v, .agg #[va, vc], .int .i64 n] w (Bk w (.tuple #[.agg (arrS (seenP (askP fs ats c n))), .nilIface])) := by
 have hH := fun (N : Nat → Int) (h0 : countsFault N = 0) W (hW : Below w.heap.size w W) => allHold_any v fs hgood (madeN N 8) (made_ok h0) W (hF.below hW) (hK.below hW)
 have hQ := fun (D : Wd) W (hW : Below w.heap.size w W) => fholds_any va vc ats c D.u D.a D.b D.c W (hA.below hW) (hC.below hW) (hK.below hW)
 obtain ⟨lo, lcap, rfl, _⟩ := hF.slice
 obtain ⟨ao, acap, rfl, _⟩ := hA.slice
 obtain ⟨co, ccap, rfl, _⟩ := hC.slice
 refine look_right lo _ lcap ao _ acap co _ ccap n hn (fun N => madeN N 8) (fun N => (madeN N 8).so fs) (fun N => (madeN N 8).formIs ats c) (fun k => seenP (askOver fs ats c ((worldsL n).take k))) _ w (fun M W hM => ?_) (fun M W hM hW => hH M (everyC_right hn hM) W hW) (fun M W hM hW => ?_) rfl (fun k M hM => ?_) ?_
 ·have h := fworld_any M W
  have h0 := everyC_right hn hM
  have e : madeW M = madeN M 8 := by unfold madeW; rw [if_pos h0]
  rw [h0, e] at h
  exact h
 ·have h := hQ (madeN M 8) W hW
  have eD : ∀ D : Wd, Wd.mk D.u D.a D.b D.c = D := fun _ => rfl
  have e : (madeN M 8).formFault ats c = 0 := wdForm_zero.2 ⟨hf, made_ok (everyC_right hn hM)⟩
  rw [eD, e] at h
  exact h
 ·have hk : (worldsL n)[k]? = some (madeN M 8) := by unfold worldsL; rw [List.getElem?_map, hM]; rfl
  show seenP (askOver fs ats c ((worldsL n).take (k + 1))) = _
  rw [List.take_add_one, hk]
  show seenP (askOver fs ats c ((worldsL n).take k ++ [madeN M 8])) = _
  rw [askOver_add]
  have hr := (ask_range fs ats c ((worldsL n).take k)).1
  obtain ⟨P, hP⟩ := nm (askOver fs ats c ((worldsL n).take k))
  rw [← hP] at hr ⊢
  unfold askStep seenP
  have e1 : ∀ x : Int, 0 ≤ x → ¬ x + 1 = 0 := fun x _ => by omega
  cases (madeN M 8).so fs <;> cases (madeN M 8).formIs ats c <;> simp [e1 _ hr.1, e1 _ hr.2]
 ·have el : (worldsL n).take (everyC n).length = worldsL n := by rw [← worldsL_length, List.take_length]
  show _ = seenP (askOver fs ats c ((worldsL n).take (everyC n).length))
  rw [el]
  rfl
end Go.Proofs.YtjmeakkmfeoigaaGreatDoor
namespace Go.Proofs.YtjmeakkmfeoigaaGreatDoor
open Go.ChangeShapes Go.WideShapes Go.ChangeAt Go.RowKit
set_option maxRecDepth 100000
set_option maxHeartbeats 4000000 in
theorem askof_wrong (lo : Option Addr) (ln lcap : Nat) (ao : Option Addr) (al acap : Nat) (co : Option Addr) (cl ccap : Nat) (u m : Int) (w : World)
    (HC : Hid (∀ W, Below w.heap.size w W → Calls Tryz.prog 45 #[.slice lo ln lcap, .agg #[.slice ao al acap, .slice co cl ccap], .int .i64 u] W (Bk W (.iface 64 (.int .i64 m))))) :
    Calls Tryz.prog 23 #[.slice lo ln lcap, .agg #[.slice ao al acap, .slice co cl ccap], .int .i64 u] w (Bk w (.tuple #[.int .i64 0, .iface 64 (.int .i64 m)])) := by
 go_enter Tryz.func23, Tryz.ntmps23
 go_wp2_with fail
 go_at_call 45
 refine (HC.out _ (below_alloc1 _ _)).mono ?_
 rintro e w2 ⟨rfl, hb⟩
 have HB : Hid (Below w.heap.size w w2) := (below_alloc1 w _).trans (hb.mono (by simp))
 clear hb
 go_wp2
 go_ret2
 exact ⟨rfl, HB.out⟩
set_option maxHeartbeats 4000000 in
theorem askof_right (lo : Option Addr) (ln lcap : Nat) (ao : Option Addr) (al acap : Nat) (co : Option Addr) (cl ccap : Nat) (u k : Int) (E : Value) (a b : Bool) (w : World)
    (HC : Hid (∀ W, Below w.heap.size w W → Calls Tryz.prog 45 #[.slice lo ln lcap, .agg #[.slice ao al acap, .slice co cl ccap], .int .i64 u] W (Bk W .nilIface)))
    (HL : Hid (∀ W, Below w.heap.size w W → Calls Tryz.prog 46 #[.slice lo ln lcap, .agg #[.slice ao al acap, .slice co cl ccap], .int .i64 u] W (Bk W (.tuple #[.agg #[.bool a, .bool b], .nilIface]))))
    (HA : Hid (∀ W, Calls Tryz.prog 47 #[.agg #[.bool a, .bool b]] W (Bk W (.tuple #[.int .i64 k, E])))) :
    Calls Tryz.prog 23 #[.slice lo ln lcap, .agg #[.slice ao al acap, .slice co cl ccap], .int .i64 u] w (Bk w (.tuple #[.int .i64 k, E])) := by
 obtain ⟨w1, hw1⟩ := nm (w.alloc (.cells #[.slice ao al acap, .slice co cl ccap] 39))
 have HB1 : Hid (Below w.heap.size w w1) := by unfold Hid; rw [hw1]; exact below_alloc1 _ _
 have HQ : Hid (Blk w1 w.heap.size 39 #[.slice ao al acap, .slice co cl ccap]) := by unfold Hid; rw [hw1]; exact Blk.new _ _ _
 go_enter Tryz.func23, Tryz.ntmps23
 go_upto_region 1 with fail
 rw [← hw1]
 clear hw1
 have x0 : w1.cell? ⟨w.heap.size, 0, none⟩ = some (.slice ao al acap) := HQ.out.cell 0
 have x1 : w1.cell? ⟨w.heap.size, 1, none⟩ = some (.slice co cl ccap) := HQ.out.cell 1
 go_wp2_with fail
 go_at_call 45
 refine (HC.out _ HB1.out).mono ?_
 rintro e w2 ⟨rfl, hb⟩
 have HB2 := hide (HB1.out.trans (hb.mono HB1.out.size))
 have y0 : w2.cell? ⟨w.heap.size, 0, none⟩ = some (.slice ao al acap) := (HQ.out.below hb).cell 0
 have y1 : w2.cell? ⟨w.heap.size, 1, none⟩ = some (.slice co cl ccap) := (HQ.out.below hb).cell 1
 clear hb x0 x1
 go_wp2_with fail
 go_at_call 46
 refine (HL.out _ HB2.out).mono ?_
 rintro e w3 ⟨rfl, hb⟩
 have HB3 := hide (HB2.out.trans (hb.mono HB2.out.size))
 clear hb y0 y1
 obtain ⟨w4, hw4⟩ := nm (w3.alloc (.cells #[.bool a, .bool b] 86))
 obtain ⟨G, hG⟩ := nm w3.heap.size
 have HB4 : Hid (Below w.heap.size w w4) := by unfold Hid; rw [hw4]; exact HB3.out.alloc HB3.out.size _
 have HS : Hid (Blk w4 G 86 #[.bool a, .bool b]) := by unfold Hid; rw [hw4, hG]; exact Blk.new _ _ _
 go_upto_region 5 with fail
 rw [← hw4, ← hG]
 clear hw4 hG
 have y0 : w4.cell? ⟨G, 0, none⟩ = some (.bool a) := HS.out.cell 0
 have y1 : w4.cell? ⟨G, 1, none⟩ = some (.bool b) := HS.out.cell 1
 go_wp2_with fail
 go_at_call 47
 refine (HA.out _).mono ?_
 rintro e w5 ⟨rfl, hb⟩
 have HB5 := hide (HB4.out.trans (hb.mono HB4.out.size))
 clear hb y0 y1
 go_wp2
 go_ret2
 exact ⟨rfl, HB5.out⟩
theorem askOf_any (v va vc : Value) (fs : List Fm) (ats : List At) (c : List Int) (u : Int) (w : World) (hF : ReadsF w v fs) (hA : ReadsA w va ats) (hC : Reads w vc c) (hK : KindsLaid w) :
    Calls Tryz.prog 23 #[v, .agg #[va, vc], .int .i64 u] w (Bk w (.tuple #[.int .i64 (askN fs ats c u), errV (askFault fs ats c u)])) := by
 have hCk := fun W (hW : Below w.heap.size w W) => askCheck_any v va vc fs ats c u W (hF.below hW) (hA.below hW) (hC.below hW) (hK.below hW)
 have hLo := fun (n : Nat) (hn : n ≤ 6) (hg : ∀ f ∈ fs, f.fault = 0) (hf : formFault ats c = 0) W (hW : Below w.heap.size w W) => look_any v va vc fs ats c n hn hg hf W (hF.below hW) (hA.below hW) (hC.below hW) (hK.below hW)
 obtain ⟨lo, lcap, rfl, _⟩ := hF.slice
 obtain ⟨ao, acap, rfl, _⟩ := hA.slice
 obtain ⟨co, ccap, rfl, _⟩ := hC.slice
 by_cases h0 : askCheckN fs ats c u = 0
 ·rw [h0] at hCk
  have hgood : formsFault fs u = 0 ∧ formFault ats c = 0 := by
   unfold askCheckN at h0
   by_cases h1 : formsFault fs u = 0
   ·rw [if_pos h1] at h0; exact ⟨h1, h0⟩
   ·rw [if_neg h1] at h0; exact absurd h0 h1
  obtain ⟨h1, h2⟩ := hgood
  obtain ⟨_, hg, hu⟩ := forms_zero.1 h1
  obtain ⟨n, rfl⟩ := Int.eq_ofNat_of_zero_le hu.1
  have hn : n ≤ 6 := by omega
  obtain ⟨e1, e2⟩ := seen_is (ask_range fs ats c (worldsL n)).1
  have f2 : askFault fs ats c (n : Int) = seenE (seenP (askP fs ats c n)).1 (seenP (askP fs ats c n)).2 := by
   unfold askFault; rw [if_pos h1, if_pos h2, Int.toNat_natCast]; exact e2.symm
  have f1 : askN fs ats c (n : Int) = seenN (seenP (askP fs ats c n)).1 (seenP (askP fs ats c n)).2 := by
   refine Eq.trans ?_ e1.symm
   unfold askN askFault
   rw [if_pos h1, if_pos h2, Int.toNat_natCast]
   show (if (if (askP fs ats c n).1 + (askP fs ats c n).2 = 0 then (6 : Int) else 0) = 0 then answerN (askP fs ats c n) else 0) = if (askP fs ats c n).1 + (askP fs ats c n).2 = 0 then 0 else answerN (askP fs ats c n)
   by_cases hz : (askP fs ats c n).1 + (askP fs ats c n).2 = 0
   ·rw [if_pos hz, if_pos hz, if_neg (by decide)]
   ·rw [if_neg hz, if_neg hz, if_pos rfl]
  rw [f1, f2]
  exact askof_right lo _ lcap ao _ acap co _ ccap n _ _ _ _ w hCk (hLo n hn hg h2) fun W => seenAnswer_any _ _ W
 ·rw [errV_no h0] at hCk
  have e0 : askFault fs ats c u = askCheckN fs ats c u := by
   unfold askCheckN at h0 ⊢
   unfold askFault
   by_cases h1 : formsFault fs u = 0
   ·rw [if_pos h1] at h0 ⊢
    rw [if_pos h1, if_neg h0]
   ·rw [if_neg h1, if_neg h1]
  have e1 : askN fs ats c u = 0 := by unfold askN; rw [if_neg (by rw [e0]; exact h0)]
  rw [e0, e1, errV_no h0]
  exact askof_wrong lo _ lcap ao _ acap co _ ccap u _ w hCk
end Go.Proofs.YtjmeakkmfeoigaaGreatDoor
namespace Go.Proofs.YtjmeakkmfeoigaaGreatDoor
open Go.ChangeShapes Go.WideShapes Go.ChangeAt Go.RowKit
set_option maxRecDepth 100000
def Fresh (K : Nat) (w : World) (v : Value) (t : List Int) : Prop := w.ownsRow K 3 1 v t.length (t.map (Value.int .i64))
theorem Fresh.reads {K : Nat} {w : World} {v : Value} {t : List Int} (h : Fresh K w v t) : Reads w v t := by
 rcases h.2 with ⟨rfl, h0⟩ | ⟨g, cap, cur, rfl, hg, hh, hn, hm, _, _⟩
 ·exact Or.inl ⟨none, 0, rfl, List.eq_nil_of_length_eq_zero h0⟩
 ·rcases Nat.eq_zero_or_pos t.length with h0 | h0
  ·refine Or.inl ⟨some ⟨g, 0, none⟩, cap, by rw [h0], List.eq_nil_of_length_eq_zero h0⟩
  ·refine Or.inr ⟨g, 0, cap, rfl, (Array.getElem?_eq_some_iff.1 hh).1, h0, ⟨by unfold maxLen at hm; omega, hn⟩, fun k hk => ?_⟩
   rw [Nat.zero_add]; exact ownsRow_int h hk
theorem Fresh.below {K : Nat} {w w' : World} {v : Value} {t : List Int} (h : Fresh K w v t) (hb : Below w.heap.size w w') : Fresh K w' v t := ownsRow_below h hb
set_option maxHeartbeats 2000000 in
theorem copied_any (t : List Int) (v : Value) (w : World) (h : Reads w v t) (hl : t.length ≤ 40) :
    Calls Tryz.prog 81 #[v] w fun e w' => ∃ v', e = .returned v' ∧ Fresh w.heap.size w' v' t ∧ Below w.heap.size w w' := by
 obtain ⟨i0, hi, hz0, hz1, hz2⟩ := info_parts infoInt
 rcases h with ⟨ao, cap, rfl, rfl⟩ | ⟨b, off, cap, rfl, hB, h0, ⟨_, hcap⟩, hc⟩
 ·cases ao with
  | none =>
   have hrz : ∀ ty W, (Builtin.append_ #[27, 27] ty #[.slice none 0 0, .slice none 0 cap]).run Tryz.prog W = .ok (.slice none 0 0) W := fun ty W => by
    simp [Builtin.append_, Builtin.lenOf, Builtin.firstCells, run_underlying Tryz.underlying27]
   go_enter Tryz.func81, Tryz.ntmps81
   go_wp2_with (at_builtin; refine Lib.wpList_append_run _ rfl _ _ _ _ rfl _ _ rfl rfl _ _ (hrz _ _) ?_)
   go_ret
   exact ⟨_, rfl, World.ownsRow_nil _ _ _ _, Below.refl _ _⟩
  | some ad =>
   obtain ⟨K, hK⟩ := nm w.heap.size
   have HK := hide hK
   rw [← hK]
   clear hK
   go_enter Tryz.func81, Tryz.ntmps81
   go_wp2_with (first | (at_builtin; refine wpList_append_own _ rfl _ (.tmp 3) 27 rfl K 3 i0 (.int .i64 0) 1 8 Tryz.underlying27 hi hz0 hz1 hz2 rfl (by decide) (.slice none 0 0) 0 [] rfl (World.ownsRow_nil _ _ _ _) ad 0 cap [] rfl rfl ?a1 ?a2 ?a3 ?a4 ?a5 ?_))
   case a1 => intro j u hu; simp at hu
   case a2 => intro u hu; cases hu
   case a3 => unfold maxLen; omega
   case a4 => omega
   case a5 => rw [HK.out]; exact Nat.le_refl _
   intro v' w2 hown' hgrow _
   have HO : Hid (Fresh K w2 v' [] ∧ Below K w w2) := ⟨hown', (Below.refl _ w).grown hgrow (by rw [HK.out]; exact Nat.le_refl _) (fun k hk => by cases hk)⟩
   clear hown' hgrow
   go_wp2
   go_ret
   exact ⟨_, rfl, HO.out.1, HO.out.2⟩
 ·have HC := hide hc
  clear hc hB
  obtain ⟨n, hn⟩ := nm t.length
  have HN := hide hn
  obtain ⟨K, hK⟩ := nm w.heap.size
  have HK := hide hK
  rw [← hn] at hl h0 hcap ⊢
  rw [← hK]
  clear hn hK
  go_enter Tryz.func81, Tryz.ntmps81
  go_wp2_with (first | (at_builtin; refine wpList_append_own _ rfl _ (.tmp 3) 27 rfl K 3 i0 (.int .i64 0) 1 8 Tryz.underlying27 hi hz0 hz1 hz2 rfl (by decide) (.slice none 0 0) 0 [] rfl (World.ownsRow_nil _ _ _ _) ⟨b, off, none⟩ n cap (t.map (Value.int .i64)) rfl ?a0 ?a1 ?a2 ?a3 ?a4 ?a5 ?_))
  case a0 => rw [List.length_map, HN.out, Nat.mul_one]
  case a1 =>
   intro j u hu
   rw [Go.WideShapes.add_plain]
   have hj : j < t.length := by have := (List.getElem?_eq_some_iff.1 hu).1; simpa using this
   rw [HC.out j hj]
   rw [← hu]
   simp [List.getElem?_eq_getElem hj]
  case a2 => intro u hu; simp at hu; obtain ⟨_, _, rfl⟩ := hu; rfl
  case a3 => unfold maxLen; omega
  case a4 => omega
  case a5 => rw [HK.out]; exact Nat.le_refl _
  intro v' w2 hown' hgrow _
  have HO : Hid (Fresh K w2 v' t ∧ Below K w w2) := by
   refine ⟨?_, (Below.refl _ w).grown hgrow (by rw [HK.out]; exact Nat.le_refl _) (fun k hk => by cases hk)⟩
   have : w2.ownsRow K 3 1 v' n (t.map (Value.int .i64)) := by simpa using hown'
   rw [HN.out] at this
   exact this
  clear hown' hgrow
  go_wp2
  go_ret
  exact ⟨_, rfl, HO.out.1, HO.out.2⟩
theorem infoI : (Tryz.prog.info? 3).map (fun i => (i.zero, i.size, i.bytes)) = some (some (.int .i64 0), 1, 8) := by kernel_rfl
set_option maxHeartbeats 2000000 in
theorem growI (n : Nat) (h0 : 0 < n) (h1 : n ≤ 40) (w : World) :
    Calls Tryz.prog 82 #[.slice none 0 0, .int .i64 n] w fun e w' => ∃ cap, e = .returned (.slice (some ⟨w.heap.size, 0, none⟩) 0 cap) ∧ w'.ownsRow w.heap.size 3 1 (.slice (some ⟨w.heap.size, 0, none⟩) 0 cap) 0 [] ∧ Below w.heap.size w w' ∧ w.heap.size < w'.heap.size := by
 obtain ⟨i0, hi, hz0, hz1, hz2⟩ := info_parts infoI
 have a1 : ¬ ((n : Int) < 0) := by omega
 have a4 : (n : Int) > 0 := by omega
 have hold : (Builtin.firstCells i0.size 0 (.slice none 0 0)).run Tryz.prog w.drew = .ok #[] w.drew := run_firstCells_none w.drew i0.size 0 0 0
 have hrz : ∀ ty, (Builtin.append_ #[27, 3] ty #[.slice none 0 0, .int .i64 n]).run Tryz.prog w =
     .ok (.slice (some ⟨w.heap.size, 0, none⟩) n (grownCap w n 0 3)) (w.drew.alloc (.cells (#[] ++ Builtin.zeroCells (Value.cells (.int .i64 0)) n ++ Builtin.zeroCells (Value.cells (.int .i64 0)) (grownCap w n 0 3 - n)) 3)) := fun ty => by
  have h := Lib.run_append_grow_zeros w 27 3 ty 3 i0 (.int .i64 0) .i64 .i64 Tryz.underlying27 Tryz.underlying3 hi hz0 none 0 0 [] hold n h0 (by omega) (by omega) (by omega) (by rw [hz2]; omega) (by rw [Nat.zero_add, hz2]; exact growslice_fits (by omega) (by omega))
  rw [Nat.zero_add] at h
  exact h
 have hGn : n ≤ grownCap w n 0 3 := grownCap_ge w _ _ _
 have hG63 : grownCap w n 0 3 ≤ maxLen := grownCap_le_maxLen w n 0 3 (by unfold maxLen; omega)
 obtain ⟨G, hG⟩ := nm (grownCap w n 0 3)
 rw [← hG] at hrz hGn hG63
 have HE : Hid (∃ w', w' = w.drew.alloc (.cells (#[] ++ Builtin.zeroCells (Value.cells (.int .i64 0)) n ++ Builtin.zeroCells (Value.cells (.int .i64 0)) (G - n)) 3) ∧ w'.ownsRow w.heap.size 3 1 (.slice (some ⟨w.heap.size, 0, none⟩) 0 G) 0 [] ∧ Below w.heap.size w w' ∧ w.heap.size < w'.heap.size) := by
  refine ⟨_, rfl, ?_, ?_, ?_⟩
  ·refine ⟨by simp, .inr ⟨w.heap.size, G, _, rfl, Nat.le_refl _, heap_alloc_new w.drew _, Nat.zero_le _, hG63, ?_, by simp⟩⟩
   simp [Builtin.zeroCells, Value.cells]
   omega
  ·exact ((Below.refl _ w).drew).trans (below_alloc1 w.drew _)
  ·simp
 have hG63' : G ≤ 9223372036854775807 := by unfold maxLen at hG63; omega
 clear hold hG hG63
 obtain ⟨w', hw', HE⟩ := HE.out
 rw [← hw'] at hrz
 have HE' := hide HE
 clear hw' HE
 go_enter Tryz.func82, Tryz.ntmps82
 go_wp2_with (at_builtin; refine Lib.wpList_append_run _ rfl _ _ _ _ rfl _ _ rfl rfl _ _ (hrz _) ?_)
 go_ret
 exact ⟨G, rfl, HE'.out⟩
structure RowI where
 b : Nat
 off : Nat
 cap : Nat
 m : Nat
 vs : List Value
def RowI.Lies (w : World) (r : RowI) : Prop := r.b < w.heap.size ∧ 0 < r.m ∧ r.m ≤ r.cap ∧ r.vs.length = r.m * 1 ∧ (∀ u ∈ r.vs, u.oneCell' = true) ∧ ∀ j u, r.vs[j]? = some u → w.cell? ⟨r.b, r.off + j, none⟩ = some u
theorem RowI.Lies.below {w w' : World} {r : RowI} (h : r.Lies w) (hb : Below w.heap.size w w') : r.Lies w' :=
 ⟨Nat.lt_of_lt_of_le h.1 hb.size, h.2.1, h.2.2.1, h.2.2.2.1, h.2.2.2.2.1, fun j u hu => by rw [hb.cell h.1]; exact h.2.2.2.2.2 j u hu⟩
def manyI (l : List RowI) : Nat := (l.map (·.m)).sum
def allI (l : List RowI) : List Value := (l.map (·.vs)).flatten
theorem manyI_succ (l : List RowI) {k : Nat} {r : RowI} (h : l[k]? = some r) : manyI (l.take (k + 1)) = manyI (l.take k) + r.m := by
 unfold manyI
 rw [List.take_add_one, h]; simp
theorem allI_succ (l : List RowI) {k : Nat} {r : RowI} (h : l[k]? = some r) : allI (l.take (k + 1)) = allI (l.take k) ++ r.vs := by
 unfold allI
 rw [List.take_add_one, h]; simp
theorem manyI_take (l : List RowI) (k : Nat) : manyI (l.take k) ≤ manyI l := by
 have : manyI l = manyI (l.take k) + manyI (l.drop k) := by
  unfold manyI
  rw [← List.sum_append_nat, ← List.map_append, List.take_append_drop]
 omega
set_option maxHeartbeats 4000000 in
theorem concatI (l : List RowI) (A lcap : Nat) (w : World) (hl : l.length ≤ 4) (hA : A < w.heap.size) (hc : ∀ k r, l[k]? = some r → w.cell? ⟨A, k, none⟩ = some (.slice (some ⟨r.b, r.off, none⟩) r.m r.cap)) (hr : ∀ r ∈ l, r.Lies w) (h0 : 0 < manyI l) (h1 : manyI l ≤ 40) :
    Calls Tryz.prog 50 #[.slice (some ⟨A, 0, none⟩) l.length lcap] w fun e w' => ∃ v, e = .returned v ∧ w'.ownsRow w.heap.size 3 1 v (manyI l) (allI l) ∧ Below w.heap.size w w' := by
 obtain ⟨i0, hi, hz0, hz1, hz2⟩ := info_parts infoI
 obtain ⟨N, hN⟩ := nm l.length
 rw [← hN] at hl ⊢
 have HN := hide hN
 clear hN
 have HC : Hid (∀ W, Below w.heap.size w W → ∀ k r, l[k]? = some r → W.cell? ⟨A, k, none⟩ = some (.slice (some ⟨r.b, r.off, none⟩) r.m r.cap)) := fun W hW k r h => by rw [hW.cell (show (⟨A, k, none⟩ : Addr).block < _ from hA)]; exact hc k r h
 have HR : Hid (∀ W, Below w.heap.size w W → ∀ (k : Nat) (r : RowI), l[k]? = some r → r.Lies W) := fun W hW k r h => (hr r (List.mem_of_getElem? h)).below hW
 have HS : Hid (∀ k, manyI (l.take k) ≤ 40) := fun k => Nat.le_trans (manyI_take l k) h1
 have HG : Hid (∀ W, Calls Tryz.prog 82 #[.slice none 0 0, .int .i64 (manyI l)] W fun e w' => ∃ cap, e = .returned (.slice (some ⟨W.heap.size, 0, none⟩) 0 cap) ∧ w'.ownsRow W.heap.size 3 1 (.slice (some ⟨W.heap.size, 0, none⟩) 0 cap) 0 [] ∧ Below W.heap.size W w' ∧ W.heap.size < w'.heap.size) := fun W => growI _ h0 h1 W
 obtain ⟨M, hM⟩ := nm (manyI l)
 rw [← hM] at HG ⊢
 have HM := hide hM
 clear hM hc hr h0 h1 hA
 go_enter Tryz.func50, Tryz.ntmps50
 go_wp2_with fail
 go_loop [3, 11] (fun c i => ∃ k : Nat, k ≤ N ∧ i = .int .i64 k ∧ c = .int .i64 (manyI (l.take k))) (fun _ i => N - (intOf i).toNat)
 case atStart => exact ⟨0, Nat.zero_le _, rfl, rfl⟩
 case round =>
  obtain ⟨k, hk, rfl, rfl⟩ := hrel
  by_cases hlt : k < N
  ·obtain ⟨r, hr⟩ : ∃ r, l[k]? = some r := ⟨_, List.getElem?_eq_getElem (by have := HN.out; omega)⟩
   have hcell := HC.out w (Below.refl _ _) k r hr
   have HE : Hid (manyI (l.take (k + 1)) = manyI (l.take k) + r.m) := manyI_succ l hr
   have hs1 := HS.out (k + 1)
   rw [HE.out] at hs1
   obtain ⟨S, hS⟩ := nm (manyI (l.take k))
   rw [← hS] at HE hs1 ⊢
   clear hS hr
   obtain ⟨rb, ro, rc, rm, rvs⟩ := r
   simp only at hcell HE hs1
   have q : ¬ ((S : Int) + (rm : Int) < 0) := by omega
   go_wp2
   go_round
   case rel => exact ⟨k + 1, by omega, by go_num, by rw [HE.out]; go_num⟩
   case measure => simp [intOf]; omega
  ·have HE : Hid (manyI (l.take k) = M) := by unfold Hid; rw [List.take_of_length_le (by have := HN.out; omega), HM.out]
   rw [HE.out]
   go_wp2_with fail
   go_at_call 82
   refine (HG.out _).mono ?_
   rintro e w2 ⟨cap, rfl, hown, hb, hlt2⟩
   obtain ⟨K, hK⟩ := nm w.heap.size
   rw [← hK] at hown hb hlt2 HC HR ⊢
   have HB2 : Hid (Below K w w2 ∧ K ≤ w2.heap.size) := ⟨hb, by omega⟩
   have HO2 := hide hown
   have HKe := hide (hK.symm)
   clear hb hown hK hlt2
   go_wp2_with fail
   go_loopw [6, 27] (fun v i wr => ∃ k : Nat, k ≤ N ∧ i = .int .i64 k ∧ wr.ownsRow K 3 1 v (manyI (l.take k)) (allI (l.take k)) ∧ Below K w wr ∧ K ≤ wr.heap.size) (fun _ i _ => N - (intOf i).toNat)
   case atStart => exact ⟨0, Nat.zero_le _, rfl, HO2.out, HB2.out.1, HB2.out.2⟩
   case round =>
    obtain ⟨j, hj, rfl, hown, hbel, hKw⟩ := hrel
    by_cases hjl : j < N
    ·obtain ⟨r, hr⟩ : ∃ r, l[j]? = some r := ⟨_, List.getElem?_eq_getElem (by have := HN.out; omega)⟩
     have hcell := HC.out wr hbel j r hr
     have HL := hide (HR.out wr hbel j r hr)
     have HE : Hid (manyI (l.take (j + 1)) = manyI (l.take j) + r.m) := manyI_succ l hr
     have HE2 : Hid (allI (l.take (j + 1)) = allI (l.take j) ++ r.vs) := allI_succ l hr
     have hs1 := HS.out (j + 1)
     rw [HE.out] at hs1
     obtain ⟨S, hS⟩ := nm (manyI (l.take j))
     obtain ⟨XS, hXS⟩ := nm (allI (l.take j))
     rw [← hS] at HE hs1 hown
     rw [← hXS] at HE2 hown
     clear hS hXS hr
     obtain ⟨rb, ro, rc, rm, rvs⟩ := r
     simp only at hcell HE HE2 hs1
     have HOW := hide hown
     have HBW : Hid (Below K w wr ∧ K ≤ wr.heap.size) := ⟨hbel, hKw⟩
     have hrm : 0 < rm := HL.out.2.1
     clear hown hbel hKw
     go_wp2_with (first | (at_builtin; refine wpList_append_own _ rfl (.tmp 31) (.tmp 32) 27 rfl K 3 i0 (.int .i64 0) 1 8 Tryz.underlying27 hi hz0 hz1 hz2 rfl (by decide) u6 S XS rfl HOW.out ⟨rb, ro, none⟩ rm rc rvs rfl HL.out.2.2.2.1 ?a1 HL.out.2.2.2.2.1 ?a3 ?a4 ?a5 ?_))
     case a1 =>
      intro i u hu
      rw [Go.WideShapes.add_plain]
      exact HL.out.2.2.2.2.2 i u hu
     case a3 => unfold maxLen; omega
     case a4 => omega
     case a5 => exact HBW.out.2
     intro v' w3 hown' hgrow _
     have HB3 : Hid (Below K w w3 ∧ K ≤ w3.heap.size) := by
      refine ⟨HBW.out.1.grown hgrow HBW.out.2 (fun k hk => (HOW.out.lt k hk).1), ?_⟩
      have := hgrow.size
      have := HBW.out.2
      omega
     have HO3 : Hid (w3.ownsRow K 3 1 v' (manyI (l.take (j + 1))) (allI (l.take (j + 1)))) := by
      unfold Hid; rw [HE.out, HE2.out]; exact hown'
     clear hown' hgrow
     go_wp2
     go_roundw
     case rel => exact ⟨j + 1, by omega, by go_num, HO3.out, HB3.out.1, HB3.out.2⟩
     case measure => simp [intOf]; omega
    ·rw [List.take_of_length_le (by have := HN.out; omega)] at hown
     have HO3 : Hid (wr.ownsRow K 3 1 u6 M (allI l)) := by unfold Hid; rw [HM.out]; exact hown
     have HB3 := hide hbel
     clear hown hbel
     go_wp2
     go_ret
     refine ⟨_, rfl, ?_, ?_⟩
     ·rw [HKe.out]; exact HO3.out
     ·rw [HKe.out]; exact HB3.out
end Go.Proofs.YtjmeakkmfeoigaaGreatDoor