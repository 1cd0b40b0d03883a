/-
  Proved: what core.bit, all, isOpen, places, check and holding return; what was in memory is as it was (contracts that the statements of chapter 13 lean on).
  Proved: what core.holding returns; what was in memory is as it was (a contract that the statements of chapter 13 lean on).
  Proved: a range over a function whose rounds write on in blocks that earlier rounds made (as a row that grows): what the caller must show of one round, and what it then knows behind the loop; and that fit.All's function keeps its word to such a loop (laws that the walks of chapter 13's program lean on).
-/
import Derived.Test.YtjaedfjfcghgcabGreatDoorLibT26
import Derived.Test.YtjaedfjfcghgcabGreatDoorLibT10
import Derived.Test.YtjaedfjfcghgcabGreatDoorLibT27
import Derived.Test.YtjaedfjfcghgcabGreatDoorLibT24
import Derived.Test.YtjaedfjfcghgcabGreatDoorLibT11
import Derived.Shelf.Abstract
import Derived.Deep.LoopGhost
import Derived.Deep.CutRange
import Derived.Deep.RegionWith
import Derived.OwnWalk
import Derived.Test.YtjaedfjfcghgcabGreatDoorLibT16
namespace Go.Proofs.YtjaedfjfcghgcabGreatDoor
open Go.ChangeShapes Go.WideShapes Go.ChangeAt Go.RowKit
set_option maxRecDepth 100000

theorem shl_pw : ∀ k : Nat, k ≤ 6 → wrap64 (1 * 2 ^ k) = pw k := by decide +kernel
theorem coreBit_any (k : Nat) (hk : k ≤ 6) (w : World) : Calls Tryz.prog 80 #[.int .i64 k] w fun e w' => e = .returned (.int .i64 (pw k)) ∧ w = w' := by
  have HS : Hid (wrap64 (1 * 2 ^ k) = pw k) := shl_pw k hk
  go_enter Tryz.func80, Tryz.ntmps80
  go_wp2
  go_ret
  exact ⟨by have := HS.out; simp at this ⊢; exact this, rfl⟩
theorem coreAll_any (lo : Option Addr) (n cap : Nat) (hn : n ≤ 6) (w : World) : Calls Tryz.prog 33 #[.slice lo n cap] w fun e w' => e = .returned (.int .i64 (maskTo (fun _ => true) n)) ∧ w = w' := by
  have HS : Hid (wrap64 (pw n - 1) = maskTo (fun _ => true) n) := by
    unfold Hid
    rw [mask_all]
    obtain ⟨m, hm, h64, _⟩ := bits_at (fun _ => true) hn
    rw [hm]; unfold wrap64; omega
  go_enter Tryz.func33, Tryz.ntmps33
  go_wp2_with fail
  go_at_call 80
  refine (coreBit_any n hn _).mono ?_
  rintro e w' ⟨rfl, rfl⟩
  go_wp2
  go_ret
  exact ⟨by first | (rw [HS.out]; done) | (rw [HS.out]; rfl), rfl⟩

theorem isOpenIn_any (h s : Int) (P : Nat) (w : World) (hP : w.cell? ⟨P, 0, none⟩ = some (.int .i64 s)) :
    Calls Tryz.prog 79 #[.int .i64 h, .pointer (some ⟨P, 0, none⟩)] w fun e w' => e = .returned (.bool (decide (bits .and .i64 h s = s))) ∧ Below w.heap.size w w' := by
  go_enter Tryz.func79, Tryz.ntmps79
  go_wp2
  go_ret
  exact ⟨by first | rfl | simp, Below.refl _ _⟩

set_option maxHeartbeats 2000000 in
theorem coreIdx (n b off cap P : Nat) (us : Nat → Int) (s : Int) (w : World) (hl : n ≤ 9223372036854775807) (hB : b < w.heap.size) (hc : ∀ k, k < n → w.cell? ⟨b, off + k, none⟩ = some (.int .i64 (us k))) (hP : w.cell? ⟨P, 0, none⟩ = some (.int .i64 s)) :
    Calls Tryz.prog 87 #[.slice (some ⟨b, off, none⟩) n cap, .func (.func 79) #[] #[.pointer (some ⟨P, 0, none⟩)]] w fun e w' => (∃ r : Int, e = .returned (.int .i64 r) ∧ (0 ≤ r ↔ ∃ k, k < n ∧ decide (bits .and .i64 (us k) s = s) = true)) ∧ Below w.heap.size w w' := by
  have HC : Hid (∀ W k, Below w.heap.size w W → k < n → W.cell? ⟨b, off + k, none⟩ = some (.int .i64 (us k))) := fun W k hW hk => by rw [hW.cell (show (⟨b, off + k, none⟩ : Addr).block < w.heap.size from hB)]; exact hc k hk
  have HP : Hid (∀ W k, Below w.heap.size w W → k < n → Calls Tryz.prog 79 #[.int .i64 (us k), .pointer (some ⟨P, 0, none⟩)] W fun e w' => e = .returned (.bool (decide (bits .and .i64 (us k) s = s))) ∧ Below W.heap.size W w') := fun W k hW _ => isOpenIn_any (us k) s P W (by rw [hW.cell (World.block_lt_of_cell? _ _ hP)]; exact hP)
  obtain ⟨p, hp⟩ : ∃ p : Nat → Bool, p = fun k => decide (bits .and .i64 (us k) s = s) := ⟨_, rfl⟩
  have HP : Hid (∀ W k, Below w.heap.size w W → k < n → Calls Tryz.prog 79 #[.int .i64 (us k), .pointer (some ⟨P, 0, none⟩)] W fun e w' => e = .returned (.bool (p k)) ∧ Below W.heap.size W w') := by rw [hp]; exact HP
  have hg : ∀ k, decide (bits .and .i64 (us k) s = s) = p k := fun k => by rw [hp]
  simp only [hg]
  clear hc hB hP hp hg
  go_enter Tryz.func87, Tryz.ntmps87
  go_wp2
  go_loopw [5, 8] (fun _ i wr => ∃ k : Nat, k ≤ n ∧ i = .int .i64 k ∧ Below w.heap.size w wr ∧ Hid (∀ j, j < k → p j = false)) (fun _ i _ => n - (intOf i).toNat)
  case atStart => exact ⟨0, Nat.zero_le _, rfl, Below.refl _ _, fun j hj => absurd hj (Nat.not_lt_zero _)⟩
  case round =>
    obtain ⟨k, hk, rfl, hb0, A⟩ := hrel
    have HB : Hid (Below w.heap.size w wr) := hb0
    clear hb0
    by_cases hlt : k < n
    · have hcell := HC.out wr k HB.out hlt
      have hcall := HP.out wr k HB.out hlt
      obtain ⟨x, hx⟩ : ∃ x, x = us k := ⟨_, rfl⟩
      rw [← hx] at hcell hcall
      clear hx
      have hltz : (k : Int) < (n : Int) := by omega
      cases hq : p k with
      | true =>
        rw [hq] at hcall
        have HQ : Hid (p k = true) := hq
        have HCl : Hid (Calls Tryz.prog 79 #[.int .i64 (x), .pointer (some ⟨P, 0, none⟩)] wr fun e w' => e = .returned (.bool true) ∧ Below wr.heap.size wr w') := hcall
        clear hcall hq
        go_wp2_with fail
        go_at_call 79
        refine HCl.out.mono ?_
        rintro e w' ⟨rfl, hb'⟩
        have HB' : Hid (Below w.heap.size w w') := HB.out.trans (hb'.mono HB.out.size)
        clear hb'
        go_wp2
        go_ret
        exact ⟨⟨_, rfl, fun _ => ⟨k, hlt, HQ.out⟩, fun _ => by omega⟩, HB'.out⟩
      | false =>
        rw [hq] at hcall
        have HQ : Hid (p k = false) := hq
        have HCl : Hid (Calls Tryz.prog 79 #[.int .i64 (x), .pointer (some ⟨P, 0, none⟩)] wr fun e w' => e = .returned (.bool false) ∧ Below wr.heap.size wr w') := hcall
        clear hcall hq
        go_wp2_with fail
        go_at_call 79
        refine HCl.out.mono ?_
        rintro e w' ⟨rfl, hb'⟩
        have HB' : Hid (Below w.heap.size w w') := HB.out.trans (hb'.mono HB.out.size)
        clear hb'
        go_wp2
        go_roundw
        case rel =>
          refine ⟨k + 1, by omega, by go_num, HB'.out, fun j hj => ?_⟩
          by_cases e : j = k
          · rw [e]; exact HQ.out
          · exact A.out j (by omega)
        case measure => simp [intOf]; omega
    · have hltz : ¬ (k : Int) < (n : Int) := by omega
      go_wp2
      go_ret
      refine ⟨⟨_, rfl, fun h => absurd h (by decide), fun ⟨j, hj, hpj⟩ => ?_⟩, HB.out⟩
      rw [A.out j (by omega)] at hpj; cases hpj
theorem coreIdx_none (a : Option Addr) (cap : Nat) (fv : Value) (w : World) : Calls Tryz.prog 87 #[.slice a 0 cap, fv] w fun e w' => e = .returned (.int .i64 (-1)) ∧ w = w' := by
  go_enter Tryz.func87, Tryz.ntmps87
  go_wp2
  go_loopw [5, 8] (fun _ i wr => i = .int .i64 0 ∧ w = wr) (fun _ _ _ => 0)
  case atStart => exact ⟨rfl, rfl⟩
  case round =>
    obtain ⟨rfl, rfl⟩ := hrel
    go_wp2
    go_ret
    exact ⟨rfl, rfl⟩

set_option maxHeartbeats 2000000 in
theorem coreHas (v : Value) (t : List Int) (P : Nat) (s : Int) (w : World) (hR : Reads w v t) (hP : w.cell? ⟨P, 0, none⟩ = some (.int .i64 s)) :
    Calls Tryz.prog 45 #[v, .func (.func 79) #[] #[.pointer (some ⟨P, 0, none⟩)]] w fun e w' => e = .returned (.bool (t.any fun h => decide (bits .and .i64 h s = s))) ∧ Below w.heap.size w w' := by
  obtain ⟨ao, m, cap, rfl, c⟩ : ∃ ao m cap, v = .slice ao m cap ∧ Calls Tryz.prog 87 #[.slice ao m cap, .func (.func 79) #[] #[.pointer (some ⟨P, 0, none⟩)]] w fun e w' => (∃ r : Int, e = .returned (.int .i64 r) ∧ (0 ≤ r ↔ (t.any fun h => decide (bits .and .i64 h s = s)) = true)) ∧ Below w.heap.size w w' := by
    rcases hR with ⟨ao, cap, rfl, rfl⟩ | ⟨b, off, cap, rfl, hB, h0, ⟨hl, hcp⟩, hc⟩
    · refine ⟨_, _, _, rfl, (coreIdx_none ao cap _ w).mono ?_⟩
      rintro e w' ⟨rfl, rfl⟩
      exact ⟨⟨_, rfl, by simp⟩, Below.refl _ _⟩
    · refine ⟨_, _, _, rfl, (coreIdx t.length b off cap P (fun k => t.getD k 0) s w hl hB hc hP).mono ?_⟩
      rintro e w' ⟨⟨r, rfl, hr⟩, hb⟩
      refine ⟨⟨r, rfl, ?_⟩, hb⟩
      rw [hr, List.any_eq_true]
      constructor
      · rintro ⟨k, hk, h⟩
        refine ⟨t.getD k 0, ?_, h⟩
        rw [List.getD_eq_getElem?_getD, List.getElem?_eq_getElem hk]
        exact List.getElem_mem hk
      · rintro ⟨x, hx, h⟩
        obtain ⟨k, hk⟩ := List.mem_iff_getElem?.1 hx
        refine ⟨k, (List.getElem?_eq_some_iff.1 hk).1, ?_⟩
        rw [List.getD_eq_getElem?_getD, hk]; exact h
  obtain ⟨R, hRd⟩ : ∃ R, R = t.any fun h => decide (bits .and .i64 h s = s) := ⟨_, rfl⟩
  rw [← hRd] at c ⊢
  have HCl : Hid (Calls Tryz.prog 87 #[.slice ao m cap, .func (.func 79) #[] #[.pointer (some ⟨P, 0, none⟩)]] w fun e w' => (∃ r : Int, e = .returned (.int .i64 r) ∧ (0 ≤ r ↔ R = true)) ∧ Below w.heap.size w w') := c
  clear c hRd hR hP
  go_enter Tryz.func45, Tryz.ntmps45
  go_wp2_with fail
  go_at_call 87
  refine HCl.out.mono ?_
  rintro e w' ⟨⟨r, rfl, hr⟩, hb⟩
  have HB : Hid (Below w.heap.size w w') := hb
  have HR : Hid (R = decide (0 ≤ r)) := by
    unfold Hid
    rw [Bool.eq_iff_iff, decide_eq_true_eq, hr]
  clear hb hr
  go_wp2
  go_ret
  exact ⟨back_b HR.out.symm, HB.out⟩
theorem isOpen_any (v : Value) (t : List Int) (s : Int) (w : World) (hR : Reads w v t) :
    Calls Tryz.prog 32 #[v, .int .i64 s] w fun e w' => e = .returned (.bool (t.any fun h => decide (bits .and .i64 h s = s))) ∧ Below w.heap.size w w' := by
  have hb1 := below_alloc1 w (.cells #[.int .i64 s] 3)
  have HCl : Hid (Calls Tryz.prog 45 #[v, .func (.func 79) #[] #[.pointer (some ⟨w.heap.size, 0, none⟩)]] (w.alloc (.cells #[.int .i64 s] 3)) fun e w' => e = .returned (.bool (t.any fun h => decide (bits .and .i64 h s = s))) ∧ Below w.heap.size w w') :=
    (coreHas v t w.heap.size s _ (hR.below hb1) ((Blk.new w 3 #[.int .i64 s]).cell 0)).mono fun e w' ⟨h1, h2⟩ => ⟨h1, hb1.trans (h2.mono hb1.size)⟩
  obtain ⟨R, hRd⟩ : ∃ R, R = t.any fun h => decide (bits .and .i64 h s = s) := ⟨_, rfl⟩
  rw [← hRd] at HCl ⊢
  clear hRd hb1 hR
  go_enter Tryz.func32, Tryz.ntmps32
  go_wp2_with fail
  go_at_call 45
  refine HCl.out.mono ?_
  rintro e w' ⟨rfl, hb⟩
  have HB : Hid (Below w.heap.size w w') := hb
  clear hb
  go_wp2
  go_ret
  exact ⟨rfl, HB.out⟩

end Go.Proofs.YtjaedfjfcghgcabGreatDoor


namespace Go.Proofs.YtjaedfjfcghgcabGreatDoor
open Go.ChangeShapes Go.WideShapes Go.ChangeAt Go.RowKit
set_option maxRecDepth 100000

set_option maxHeartbeats 8000000 in
theorem holding_any (v : Value) (fs : List Fm) (hgood : ∀ f ∈ fs, f.fault = 0) (h6 : fs.length ≤ 6) (D : Wd) (hok : D.ok = true) (w : World) (hF : ReadsF w v fs) (hK : KindsLaid w) :
    Calls Tryz.prog 78 #[v, .agg #[.int .i64 D.u, .int .i64 D.a, .int .i64 D.b, .int .i64 D.c]] w fun e w' => e = .returned (.tuple #[.int .i64 (maskTo (holdsAt fs D) fs.length), .nilIface]) ∧ Below w.heap.size w w' := by
  obtain ⟨lo, lcap, rfl, hl63⟩ := hF.slice
  have HF : Hid (ReadsF w (.slice lo fs.length lcap) fs) := hF
  have HHo : Hid (∀ (k : Nat) f va vc W, fs[k]? = some f → Below w.heap.size w W → ReadsA W va f.ats → Reads W vc f.c → Calls Tryz.prog 76 #[.agg #[va, vc], .agg #[.int .i64 D.u, .int .i64 D.a, .int .i64 D.b, .int .i64 D.c]] W fun e w' => e = .returned (.tuple #[.bool (holdsAt fs D k), .nilIface]) ∧ Below W.heap.size W w') := fun k f va vc W hf hW hA hC => by
    have h := fholds_any va vc f.ats f.c D.u D.a D.b D.c W hA hC (hK.below hW)
    have e : (Wd.mk D.u D.a D.b D.c).formFault f.ats f.c = 0 := wdForm_zero.2 ⟨hgood f (List.mem_of_getElem? hf), hok⟩
    rw [e] at h
    rw [holds_at hf]
    exact h
  have HOr : Hid (∀ k, k < fs.length → holdsAt fs D k = true → bits .or .i64 (maskTo (holdsAt fs D) k) (pw k) = maskTo (holdsAt fs D) (k + 1)) := fun k hk h => mask_or _ (by omega) h
  have HNo : Hid (∀ k, holdsAt fs D k = false → maskTo (holdsAt fs D) (k + 1) = maskTo (holdsAt fs D) k) := fun k h => mask_not _ h
  obtain ⟨L, hL⟩ : ∃ L, L = holdsAt fs D := ⟨_, rfl⟩
  rw [← hL] at HHo HOr HNo ⊢
  obtain ⟨n, hn⟩ : ∃ n, n = fs.length := ⟨_, rfl⟩
  rw [← hn] at HF hl63 HOr h6 ⊢
  have HN : Hid (n = fs.length) := hn
  obtain ⟨w1, hw1⟩ : ∃ w1, w1 = w.alloc (.cells #[.int .i64 D.u, .int .i64 D.a, .int .i64 D.b, .int .i64 D.c] 34) := ⟨_, rfl⟩
  have HB1 : Hid (Below w.heap.size w w1) := by unfold Hid; rw [hw1]; exact below_alloc1 _ _
  have HQ1 : Hid (Blk w1 w.heap.size 34 (arrW D)) := by unfold Hid; rw [hw1]; exact Blk.new _ _ _
  clear hF hL hn hgood hok hK
  go_enter Tryz.func78, Tryz.ntmps78
  go_wp2
  rw [← hw1]
  clear hw1
  go_loopw [6, 13] (fun h i wr => ∃ k : Nat, k ≤ n ∧ i = .int .i64 k ∧ h = .int .i64 (maskTo L k) ∧ Below w1.heap.size w1 wr) (fun _ i _ => n - (intOf i).toNat)
  case atStart => exact ⟨0, Nat.zero_le _, rfl, rfl, Below.refl _ _⟩
  case round =>
    obtain ⟨k, hk, rfl, rfl, hbr⟩ := hrel
    have HBr : Hid (Below w1.heap.size w1 wr) := hbr
    have HBw : Hid (Below w.heap.size w wr) := HB1.out.trans (hbr.mono HB1.out.size)
    clear hbr
    by_cases hlt : k < n
    · obtain ⟨f, hf⟩ : ∃ f, fs[k]? = some f := ⟨_, List.getElem?_eq_getElem (by rw [← HN.out]; exact hlt)⟩
      obtain ⟨bL, oL, cL, hv⟩ := HF.out.place (by rw [← HN.out]; omega)
      obtain ⟨hlo, hx1, hx2⟩ := Value.slice.inj hv
      clear hx1 hx2
      subst hlo
      obtain ⟨hbL, va, vc, c0, c1, hA, hC⟩ := HF.out.at hf
      obtain ⟨ao, acap, rfl, _⟩ := hA.slice
      obtain ⟨co, ccap, rfl, _⟩ := hC.slice
      have x0 : wr.cell? ⟨bL, oL + k * 2, none⟩ = some (.slice ao f.ats.length acap) := (HBw.out.cell hbL).trans c0
      have x1 : wr.cell? ⟨bL, oL + k * 2 + 1, none⟩ = some (.slice co f.c.length ccap) := (HBw.out.cell hbL).trans c1
      have HH1 : Hid (∀ W, Below wr.heap.size wr W → Calls Tryz.prog 76 #[.agg #[.slice ao f.ats.length acap, .slice co f.c.length ccap], .agg #[.int .i64 D.u, .int .i64 D.a, .int .i64 D.b, .int .i64 D.c]] W fun e w' => e = .returned (.tuple #[.bool (L k), .nilIface]) ∧ Below w1.heap.size w1 w') := fun W hW => by
        have hb' := HBw.out.trans (hW.mono HBw.out.size)
        have hb1 := HBr.out.trans (hW.mono HBr.out.size)
        exact (HHo.out k f _ _ W hf hb' (hA.below hb') (hC.below hb')).mono fun e w' ⟨he, hb⟩ => ⟨he, hb1.trans (hb.mono hb1.size)⟩
      obtain ⟨al, hal⟩ : ∃ x, x = f.ats.length := ⟨_, rfl⟩
      obtain ⟨cl, hcl⟩ : ∃ x, x = f.c.length := ⟨_, rfl⟩
      rw [← hal] at x0 HH1
      rw [← hcl] at x1 HH1
      obtain ⟨wf, hwf⟩ : ∃ x, x = wr.alloc (.cells #[.slice ao al acap, .slice co cl ccap] 25) := ⟨_, rfl⟩
      have HBf : Hid (Below wr.heap.size wr wf) := by unfold Hid; rw [hwf]; exact below_alloc1 _ _
      have HQf : Hid (Blk wf wr.heap.size 25 #[.slice ao al acap, .slice co cl ccap]) := by unfold Hid; rw [hwf]; exact Blk.new _ _ _
      have HH2 : Hid (Calls Tryz.prog 76 #[.agg #[.slice ao al acap, .slice co cl ccap], .agg #[.int .i64 D.u, .int .i64 D.a, .int .i64 D.b, .int .i64 D.c]] wf fun e w' => e = .returned (.tuple #[.bool (L k), .nilIface]) ∧ Below w1.heap.size w1 w') := HH1.out _ HBf.out
      clear hf hv hbL c0 c1 hA hC hal hcl HH1
      have hkn : (k : Int) < (n : Int) := by omega
      obtain ⟨q, hq⟩ : ∃ q, q = L k := ⟨_, rfl⟩
      have HQ : Hid (q = L k) := hq
      rw [← hq] at HH2
      clear hq
      go_upto_region 5 with fail
      rw [← hwf]
      clear hwf x0 x1
      have y0 : wf.cell? ⟨wr.heap.size, 0, none⟩ = some (.slice ao al acap) := HQf.out.cell 0
      have y1 : wf.cell? ⟨wr.heap.size, 1, none⟩ = some (.slice co cl ccap) := HQf.out.cell 1
      obtain ⟨d0, d1, d2, d3⟩ := ((HQ1.out.below HBr.out).below HBf.out).cells4
      go_wp2_with fail
      go_at_call 76
      refine HH2.out.mono ?_
      rintro e w8 ⟨rfl, hb8⟩
      have HB8 : Hid (Below w1.heap.size w1 w8) := hb8
      clear hb8 y0 y1 d0 d1 d2 d3
      cases q with
      | true =>
        have HS : Hid (bits .or .i64 (maskTo L k) (pw k) = maskTo L (k + 1)) := HOr.out k hlt HQ.out.symm
        obtain ⟨m, hm⟩ : ∃ m, m = maskTo L k := ⟨_, rfl⟩
        rw [← hm] at HS ⊢
        clear hm
        go_wp2_with fail
        go_at_call 80
        refine (coreBit_any k (by omega) _).mono ?_
        rintro e w' ⟨rfl, rfl⟩
        go_wp2
        go_roundw
        case rel => exact ⟨k + 1, by omega, by go_num, by rw [HS.out], HB8.out⟩
        case measure => simp [intOf]; omega
      | false =>
        have HS : Hid (maskTo L (k + 1) = maskTo L k) := HNo.out k HQ.out.symm
        go_wp2
        go_roundw
        case rel => exact ⟨k + 1, by omega, by go_num, by rw [HS.out], HB8.out⟩
        case measure => simp [intOf]; omega
    · obtain rfl : k = n := by omega
      go_wp2
      go_ret2
      exact ⟨rfl, HBw.out⟩
end Go.Proofs.YtjaedfjfcghgcabGreatDoor


namespace Go.Proofs.YtjaedfjfcghgcabGreatDoor
open Go.RowKit

/-- whatever lay from block B on lies as it lay, but for the loop's own blocks. -/
structure OverR (R : Nat → Prop) (B : Nat) (W W' : World) : Prop where
  size : W.heap.size ≤ W'.heap.size
  same : ∀ b, B ≤ b → b < W.heap.size → ¬ R b → W'.heap[b]? = W.heap[b]?
theorem OverR.of {R : Nat → Prop} {B : Nat} {W W' : World} (h : Over B W W') : OverR R B W W' := ⟨h.size, fun b hb hl _ => h.same b hb hl⟩
theorem OverR.trans {R : Nat → Prop} {B : Nat} {X Y Z : World} (h : OverR R B X Y) (k : OverR R B Y Z) : OverR R B X Z :=
  ⟨Nat.le_trans h.size k.size, fun b hb hl hr => (k.same b hb (Nat.lt_of_lt_of_le hl h.size) hr).trans (h.same b hb hl hr)⟩
/-- what lay below B, and the loop's own blocks, lie as they lay. -/
structure KeepR (R : Nat → Prop) (B : Nat) (W W' : World) : Prop where
  below : Below B W W'
  own : ∀ b, R b → b < W.heap.size → W'.heap[b]? = W.heap[b]?
theorem KeepR.of_below {R : Nat → Prop} {B : Nat} {W W' : World} (h : Below W.heap.size W W') (hB : B ≤ W.heap.size) : KeepR R B W W' := ⟨h.mono hB, fun b _ hl => h.block b hl⟩
theorem KeepR.putObj {R : Nat → Prop} {B l : Nat} (W : World) (o : Obj) (h : B ≤ l) (hr : ¬ R l) : KeepR R B W (W.putObj l o) :=
  ⟨below_putObj _ _ h, fun _ hb _ => World.putObj_heap_other (fun e => hr (e ▸ hb))⟩

/-- the iterator's word: A, one behind the other, to whatever loop whose rounds leave alone what the iterator has made since. -/
def SeqR {α : Type} (n : Nat) (P : Program) (g : Nat) (lb : Array Value) (encs : α → Array Value) (A : List α) (W : World) : Prop :=
  ∀ (l : Nat) (J : Nat → (Nat → Prop) → World → Prop) (Jx : Nat → World → Prop),
    (∀ k R W1 W2, J k R W1 → KeepR R W.heap.size W1 W2 → J k R W2) →
    (∀ k x R W1, A[k]? = some x → J k R W1 → YieldAt Fence.wide (n - 1) P l (encs x) W1 fun e W' =>
      (e = .returned (.bool true) ∧ ∃ R', J (k + 1) R' W' ∧ OverR R W.heap.size W1 W' ∧ ∀ b, R' b → R b ∨ W1.heap.size ≤ b) ∨ (e = .returned (.bool false) ∧ Jx (k + 1) W')) →
    J 0 (fun _ => False) W →
    CallsIn Fence.wide n P g (#[.func (.yield l) #[] #[]] ++ lb) W fun e W' => (∃ v, e = .returned v) ∧ ((∃ R, J A.length R W') ∨ ∃ k, k < A.length ∧ Jx (k + 1) W')

/-- how a round's body may be left. -/
def roundPostR (R : Nat → Prop) (B : Nat) (I : Nat → (Nat → Prop) → World → Prop) (Ix : Nat → World → Prop) (k : Nat) (W : World) : Exit → Act → World → Prop
  | .normal, _, W' => OverR R B W W' ∧ ∃ R', I (k + 1) R' W' ∧ ∀ b, R' b → R b ∨ W.heap.size ≤ b
  | .ret, _, W' => OverR R B W W' ∧ Ix (k + 1) W'
  | _, _, _ => False

theorem wpIn_range_ownR {α : Type} {P : Program} {n : Nat} {g : Operand} {ps : Array Tmp} {assign body : Code} {Q : Exit → Act → World → Prop} {a : Act} {w : World}
    (h1 : 1 ≤ n) {gf : Nat} {lb : Array Value} (hg : a.eval g = .func (.func gf) #[] lb) (eg : ∀ args w, (callFunc gf args).run P w = .ok (.enter gf args) w)
    {encs : α → Array Value} {A : List α} (hseq : ∀ W, Below w.heap.size w W → SeqR (n - 1) P gf lb encs A W) (hps : ∀ x, (encs x).size = ps.size)
    (I : Nat → (Nat → Prop) → World → Prop) (Ix : Nat → World → Prop) (hI : ∀ k R W1 W2, I k R W1 → KeepR R w.heap.size W1 W2 → I k R W2) (hIx : ∀ k W1 W2, Ix k W1 → Below w.heap.size W1 W2 → Ix k W2) (h0 : I 0 (fun _ => False) w)
    (hround : ∀ (l k : Nat) (x : α) (R : Nat → Prop) (W : World), A[k]? = some x → w.heap.size ≤ l → l < W.heap.size → ¬ R l → I k R W →
      assign.wpIn (Fence.wide.inRound l) (n - 1 - 1) P (Exit.then (fun a1 W1 => Over w.heap.size W W1 ∧ ∀ o, body.wpIn (Fence.wide.inRound l) (n - 1 - 1) P (roundPostR R w.heap.size I Ix k (W1.putObj l o)) a1 (W1.putObj l o)) (fun _ _ _ => False))
        { tmps := (ps.zip (encs x)).foldl (fun t (p, v) => t.setIfInBounds p v) a.tmps, defers := [] } W)
    (hdone : ∀ (D : Nat) (R : Nat → Prop) (W : World), w.heap.size ≤ D → ¬ R D → I A.length R W → W.heap[D]? = some (.deferred (some [])) → Q .normal { a with defers := { target := .collected D, args := #[] } :: a.defers } W)
    (hstop : ∀ (D k : Nat) (W : World), w.heap.size ≤ D → k < A.length → Ix (k + 1) W → W.heap[D]? = some (.deferred (some [])) → Code.ret.wpIn Fence.wide n P Q { a with defers := { target := .collected D, args := #[] } :: a.defers } W) :
    (Code.rangeFunc g ps assign body).wpIn Fence.wide n P Q a w := by
  refine wpIn_rangeFunc ?_
  intro fn hfn
  rw [show Fence.wide.round = none from rfl]
  obtain ⟨rec, hrec⟩ : ∃ rec : LoopState → Option Code → Loop, rec = fun st pe => { state := st, pending := pe, fn, tmps := a.tmps, params := ps, assign, body, defers := w.heap.size } := ⟨_, rfl⟩
  obtain ⟨W1, hW1⟩ : ∃ W1, (w.alloc (.deferred (some []))).alloc (.loop (rec .ready none)) = W1 := ⟨_, rfl⟩
  have hs1 : W1.heap.size = w.heap.size + 1 + 1 := by rw [← hW1, World.size_alloc, World.size_alloc]
  have hL1 : W1.heap[w.heap.size + 1]? = some (.loop (rec .ready none)) := by
    rw [← hW1]; have := World.alloc_heap_new (w.alloc (.deferred (some []))) (.loop (rec .ready none)); rwa [World.size_alloc] at this
  have hK1 : W1.heap[w.heap.size]? = some (.deferred (some [])) := by
    rw [← hW1]; exact (Below.heap_alloc _ _ _ (by simp)).trans (World.alloc_heap_new w _)
  have hb1 : Below w.heap.size w W1 := by
    rw [← hW1]; exact ((Below.refl _ w).alloc (Nat.le_refl _) _).alloc (by simp) _
  have hI1 : I 0 (fun _ => False) W1 := hI _ _ _ _ h0 ⟨hb1, fun _ h _ => h.elim⟩
  refine ⟨w.heap.size + 1, [{ target := .collected w.heap.size, args := #[] }], W1, { target := .fn (.func gf) lb, args := #[.func (.yield (w.heap.size + 1)) #[] #[]] }, W1, gf,
    #[.func (.yield (w.heap.size + 1)) #[] #[]] ++ lb, W1, ?_, ?_, ?_, ?_, fun _ => h1, ?_⟩
  · rw [← hW1, hrec]; exact run_enterLoop_outer _ _ _ _ _
  · simp only [resolve, hg]
    simp [go_sem]
  · intro f' _; exact trivial
  · simp [invoke, go_sem, eg]
  · refine (hseq W1 hb1 (w.heap.size + 1)
      (fun k R W => I k R W ∧ (∀ b, R b → w.heap.size + 1 + 1 ≤ b) ∧ W.heap[w.heap.size + 1]? = some (.loop (rec .ready none)) ∧ W.heap[w.heap.size]? = some (.deferred (some [])))
      (fun k W => Ix k W ∧ W.heap[w.heap.size + 1]? = some (.loop (rec .done (some .ret))) ∧ W.heap[w.heap.size]? = some (.deferred (some [])))
      (fun k R X Y hs hb => ⟨hI k R X Y hs.1 ⟨hb.below.mono (by omega), hb.own⟩, hs.2.1, (hb.below.block _ (by omega)).trans hs.2.2.1, (hb.below.block _ (by omega)).trans hs.2.2.2⟩)
      ?_ ⟨hI1, fun _ h => h.elim, hL1, hK1⟩).mono ?_
    · rintro k x R W hx ⟨hi, hR, hl, hk⟩
      have hlt : w.heap.size + 1 < W.heap.size := (Array.getElem?_eq_some_iff.1 hl).1
      have hR1 : ¬ R (w.heap.size + 1) := fun h => by have := hR _ h; omega
      have hR0 : ¬ R w.heap.size := fun h => by have := hR _ h; omega
      have hy := run_yield (P := P) (args := encs x) hl (by rw [hrec]; exact hps x)
      rw [hrec] at hy
      refine ⟨fn, _, assign, body, hy, roundIn_of_wpIn hfn (wpIn_mono (hround _ k x R W hx (by omega) hlt hR1 hi) ?_)⟩
      intro e a1 Wa hp
      cases e with
      | normal =>
        obtain ⟨ha, hb⟩ := hp
        have hla : Wa.heap[w.heap.size + 1]? = some (.loop (rec .ready none)) := (ha.same _ (by omega) hlt).trans hl
        have hka : Wa.heap[w.heap.size]? = some (.deferred (some [])) := (ha.same _ (by omega) (by omega)).trans hk
        have hlta : w.heap.size + 1 < Wa.heap.size := (Array.getElem?_eq_some_iff.1 hla).1
        refine ⟨_, run_beginRound hla (by rw [hrec]), ?_⟩
        have hl2 : (Wa.putObj (w.heap.size + 1) (.loop { rec .ready none with state := .busy })).heap[w.heap.size + 1]? = some (.loop { rec .ready none with state := .busy }) := World.putObj_heap_same hlta
        have hk2 : (Wa.putObj (w.heap.size + 1) (.loop { rec .ready none with state := .busy })).heap[w.heap.size]? = some (.deferred (some [])) := (World.putObj_heap_other (by omega)).trans hka
        refine wpIn_mono (hb _) ?_
        have fin : ∀ (jump : Option Code) (W3 : World), OverR R w.heap.size (Wa.putObj (w.heap.size + 1) (.loop { rec .ready none with state := .busy })) W3 →
            (Instr.endRound (w.heap.size + 1) jump).run P W3 = .ok (.bool jump.isNone) (W3.putObj (w.heap.size + 1) (.loop (rec (if jump.isNone then .ready else .done) jump))) ∧
            (W3.putObj (w.heap.size + 1) (.loop (rec (if jump.isNone then .ready else .done) jump))).heap[w.heap.size + 1]? = some (.loop (rec (if jump.isNone then .ready else .done) jump)) ∧
            (W3.putObj (w.heap.size + 1) (.loop (rec (if jump.isNone then .ready else .done) jump))).heap[w.heap.size]? = some (.deferred (some [])) := fun jump W3 hk3 => by
          have hl3 := (hk3.same _ (by omega) (by simpa using hlta) hR1).trans hl2
          have := run_endRound (P := P) jump hl3
          rw [hrec] at this ⊢
          exact ⟨this, World.putObj_heap_same (Array.getElem?_eq_some_iff.1 hl3).1, (World.putObj_heap_other (by omega)).trans ((hk3.same _ (by omega) (by simp; omega) hR0).trans hk2)⟩
        rintro e a3 W3 hp
        cases e with
        | normal =>
          obtain ⟨hk3, R', hi3, hr3⟩ := hp
          obtain ⟨hr, hl4, hk4⟩ := fin none W3 hk3
          have hsz : W.heap.size ≤ Wa.heap.size := ha.size
          have hR' : ∀ b, R' b → w.heap.size + 1 + 1 ≤ b := fun b hb => by
            rcases hr3 b hb with h | h
            · exact hR b h
            · simp at h; omega
          refine ⟨_, _, hr, .inl ⟨rfl, R', ⟨hI _ _ _ _ hi3 (KeepR.putObj _ _ (by omega) fun h => by have := hR' _ h; omega), hR', hl4, hk4⟩, ?_, fun b hb => ?_⟩⟩
          · refine ⟨?_, fun b hb1 hb2 hb3 => ?_⟩
            · have := ha.size
              have := hk3.size
              simp at this
              simp
              omega
            · rw [hs1] at hb1
              refine (World.putObj_heap_other (by omega)).trans ((hk3.same b (by omega) (by simp; omega) hb3).trans ((World.putObj_heap_other (by omega)).trans (ha.same b (by omega) hb2)))
          · rcases hr3 b hb with h | h
            · exact Or.inl h
            · right; simp at h; omega
        | ret =>
          obtain ⟨hk3, hi3⟩ := hp
          obtain ⟨hr, hl4, hk4⟩ := fin (some .ret) W3 hk3
          exact ⟨_, _, hr, .inr ⟨rfl, hIx _ _ _ hi3 (below_putObj _ _ (by omega)), hl4, hk4⟩⟩
        | exit id => exact hp.elim
        | goto t => exact hp.elim
        | panic ch => exact hp.elim
        | outgrown => exact hp.elim
      | ret => exact hp.elim
      | exit id => exact hp.elim
      | goto t => exact hp.elim
      | panic ch => exact hp.elim
      | outgrown => exact hp.elim
    · rintro e W2 ⟨⟨v, rfl⟩, (⟨R, hi, hR, hl, hk⟩ | ⟨k, hkl, hi, hl, hk⟩)⟩
      · exact ⟨none, _, by have := run_endLoop (P := P) hl (by rw [hrec]; simp); rw [hrec] at this; exact this, hdone _ R _ (Nat.le_refl _) (fun h => by have := hR _ h; omega) (hI _ _ _ _ hi (KeepR.putObj _ _ (by omega) fun h => by have := hR _ h; omega)) ((World.putObj_heap_other (by omega)).trans hk)⟩
      · exact ⟨some .ret, _, by have := run_endLoop (P := P) hl (by rw [hrec]; simp); rw [hrec] at this; exact this, hstop _ k _ (Nat.le_refl _) hkl (hIx _ _ _ hi (below_putObj _ _ (by omega))) ((World.putObj_heap_other (by omega)).trans hk)⟩
end Go.Proofs.YtjaedfjfcghgcabGreatDoor
namespace Go.Proofs.YtjaedfjfcghgcabGreatDoor
open Go.ChangeShapes Go.WideShapes Go.ChangeAt Go.RowKit
set_option maxRecDepth 100000

set_option maxHeartbeats 4000000 in
theorem iter_anyR (u : Nat) (hu : u ≤ 6) (n : Nat) (hn : 1 ≤ n) (Bu : Nat) (W : World) (hB : W.cell? ⟨Bu, 0, none⟩ = some (.int .i64 u)) :
    SeqR n Tryz.prog 74 #[.pointer (some ⟨Bu, 0, none⟩)] enc8 (everyC u) W := by
  intro l J Jx hJ hY h0
  obtain ⟨M0, hM0, hM0'⟩ := every_first u
  obtain ⟨A, hA⟩ : ∃ A, A = everyC u := ⟨_, rfl⟩
  have HST : Hid (∀ (i : Nat) (M : Nat → Int), A[i]? = some M → (lastTo M 8 ≠ 0 ∧ ∃ M', A[i + 1]? = some M' ∧ ∀ f, f < 8 → afterN M f = M' f) ∨ (lastTo M 8 = 0 ∧ i + 1 = A.length)) := fun i M hi => by
    rw [hA] at hi ⊢; exact every_steps hu hi
  have HBO : Hid (∀ (i : Nat) (M : Nat → Int), A[i]? = some M → ∀ f, f < 8 → 0 ≤ M f ∧ M f ≤ 6) := fun i M hi f hf => by
    rw [hA] at hi
    have := (everyC_sum (List.mem_of_getElem? hi)).1 f hf
    omega
  have HCk : Hid (∀ W, Calls Tryz.prog 38 #[.int .i64 u] W fun e w' => e = .returned .nilIface ∧ W = w') := fun W => fitCheck_ok u hu W
  rw [← hA] at hM0 hY ⊢
  clear hA hu
  have HY : Hid (∀ (k : Nat) (x : Nat → Int) (R : Nat → Prop) (W1 : World), A[k]? = some x → J k R W1 → YieldAt Fence.wide (n - 1) Tryz.prog l #[.agg #[.int .i64 (x 0), .int .i64 (x 1), .int .i64 (x 2), .int .i64 (x 3), .int .i64 (x 4), .int .i64 (x 5), .int .i64 (x 6), .int .i64 (x 7)]] W1 fun e W' =>
      (e = .returned (.bool true) ∧ ∃ R', J (k + 1) R' W' ∧ OverR R W.heap.size W1 W' ∧ ∀ b, R' b → R b ∨ W1.heap.size ≤ b) ∨ (e = .returned (.bool false) ∧ Jx (k + 1) W')) := hY
  have HJ : Hid (∀ k R W1 W2, J k R W1 → KeepR R W.heap.size W1 W2 → J k R W2) := hJ
  clear hY hJ
  have e8 : Hid (arr8 M0 = #[.int .i64 0, .int .i64 0, .int .i64 0, .int .i64 0, .int .i64 0, .int .i64 0, .int .i64 0, .int .i64 u]) := by
    unfold Hid arr8
    rw [hM0' 0 (by omega), hM0' 1 (by omega), hM0' 2 (by omega), hM0' 3 (by omega), hM0' 4 (by omega), hM0' 5 (by omega), hM0' 6 (by omega), hM0' 7 (by omega)]
    rfl
  have H0 : Hid (J 0 (fun _ => False) W) := h0
  have HM0 : Hid (A[0]? = some M0) := hM0
  clear hM0' h0 hM0
  refine callsIn_of_wp Tryz.func74 rfl trivial ?_ rfl
  simp only [Tryz.ntmps74, List.size_toArray, List.length_cons, List.length_nil, Nat.reduceAdd, Nat.reduceSub, Array.replicate_succ, Array.replicate_zero, List.push_toArray, List.append_toArray, List.nil_append, List.cons_append]
  have hBu : Bu < W.heap.size := World.block_lt_of_cell? _ _ hB
  have hBa : (W.drew.alloc (.cells #[.int .i64 0, .int .i64 0, .int .i64 0, .int .i64 0, .int .i64 0, .int .i64 0, .int .i64 0, .int .i64 0] 44)).cell? ⟨Bu, 0, none⟩ = some (.int .i64 u) := (World.cell?_alloc_lt _ _ _ hBu).trans hB
  gi_upto_region 0 with fail
  gi_cut [3, 4] from 5 (fun p ok wr => p = .pointer (some ⟨W.heap.size, 0, none⟩) ∧ ok = .bool true ∧ Below W.heap.size W wr ∧ Blk wr W.heap.size 44 (arr8 M0))
  case first =>
    gi_region_with (refine ⟨trivial, ?_⟩; gi_at_call 38; refine (callsIn_wide.2 (HCk.out _)).mono ?_; rintro e w8 ⟨rfl, rfl⟩)
    all_goals (try gi_wp2)
    all_goals gi_meet
    all_goals exact ⟨rfl, rfl, (below_alloc1 W _).drew, by rw [e8.out]; exact (Blk.new W _ _).drew⟩
  case rest =>
  obtain ⟨rfl, rfl, hb1, hk1⟩ := hcut
  have HK1 : Hid (Blk wc W.heap.size 44 (arr8 M0)) := hk1
  have HJ1 : Hid (J 0 (fun _ => False) wc) := HJ.out _ _ _ _ H0.out ⟨hb1, fun _ h _ => h.elim⟩
  clear hb1 hk1
  gi_wp2
  gi_loopg [4] (A.length) (fun gk ok wr => (∃ (k : Nat) (M : Nat → Int) (R : Nat → Prop), ok = .bool true ∧ A[k]? = some M ∧ gk = A.length - k ∧ (J k R wr ∧ ¬ R W.heap.size) ∧ Blk wr W.heap.size 44 (arr8 M)) ∨ (ok = .bool false ∧ ∃ R, J A.length R wr))
  case atStart => exact Or.inl ⟨0, M0, _, rfl, HM0.out, rfl, ⟨HJ1.out, fun h => h⟩, HK1.out⟩
  case round =>
    rcases hrel with ⟨k, M, R, rfl, hM, hg, ⟨hj, hr⟩, hk⟩ | ⟨rfl, hj⟩
    · have HM : Hid (A[k]? = some M) := hM
      have HG : Hid (gk = A.length - k) := hg
      have HKk : Hid (Blk wr W.heap.size 44 (arr8 M)) := hk
      have HL : Hid (k < A.length) := (List.getElem?_eq_some_iff.1 hM).1
      have HRn : Hid (¬ R W.heap.size) := hr
      obtain ⟨fn, tmps, assign, body, hy, hR⟩ := HY.out k M R wr hM hj
      obtain ⟨x0, x1, x2, x3, x4, x5, x6, x7⟩ := hk.cells8
      clear hM hg hk hj hr
      gi_wp2
      refine hR.mono ?_
      rintro e W3 (⟨rfl, R', hJ3, hO3, hR3⟩ | ⟨rfl, hJx3⟩)
      · have HJ3 : Hid (J (k + 1) R' W3) := hJ3
        have HK3 : Hid (Blk W3 W.heap.size 44 (arr8 M)) := by
          unfold Hid Blk; rw [hO3.same _ (Nat.le_refl _) HKk.out.lt HRn.out]; exact HKk.out
        have HR' : Hid (¬ R' W.heap.size) := fun h => by
          rcases hR3 _ h with h | h
          · exact HRn.out h
          · have := HKk.out.lt; omega
        obtain ⟨M', hM'⟩ : ∃ M', M' = afterO M := ⟨_, rfl⟩
        obtain ⟨ok, hok⟩ : ∃ b, b = !(lastTo M 8 == 0) := ⟨_, rfl⟩
        have HAf : Hid (∀ W, Calls Tryz.prog 75 #[.agg #[.int .i64 (M 0), .int .i64 (M 1), .int .i64 (M 2), .int .i64 (M 3), .int .i64 (M 4), .int .i64 (M 5), .int .i64 (M 6), .int .i64 (M 7)]] W fun e w' => e = .returned (.tuple #[.agg #[.int .i64 (M' 0), .int .i64 (M' 1), .int .i64 (M' 2), .int .i64 (M' 3), .int .i64 (M' 4), .int .i64 (M' 5), .int .i64 (M' 6), .int .i64 (M' 7)], .bool ok]) ∧ Below W.heap.size W w') := fun W => by
          rw [hM', hok]; exact after_any M W (HBO.out k M HM.out)
        have HM' : Hid (M' = afterO M) := hM'
        have Hok : Hid (ok = !(lastTo M 8 == 0)) := hok
        clear hJ3 hO3 hR3 x0 x1 x2 x3 x4 x5 x6 x7 hy hR hM' hok
        obtain ⟨x0, x1, x2, x3, x4, x5, x6, x7⟩ := HK3.out.cells8
        gi_wp2_with fail
        refine ⟨trivial, ?_⟩
        gi_at_call 75
        refine (callsIn_wide.2 (HAf.out _)).mono ?_
        rintro e W4 ⟨rfl, hb4⟩
        have HK4 : Hid (Blk W4 W.heap.size 44 (arr8 M)) := HK3.out.below hb4
        have HJ4 : Hid (J (k + 1) R' W4) := HJ.out _ _ _ _ HJ3.out (.of_below hb4 (Nat.le_of_lt HK3.out.lt))
        clear hb4 x0 x1 x2 x3 x4 x5 x6 x7
        obtain ⟨x0, x1, x2, x3, x4, x5, x6, x7⟩ := HK4.out.cells8
        obtain ⟨f0, f1, f2, f3, f4, f5, f6, f7⟩ := HK4.out.frozen8
        gi_wp2
        have hJ5 : J (k + 1) R' (put8 W4 W.heap.size M') := HJ.out _ _ _ _ HJ4.out ⟨put8_below (Below.refl _ _) (Nat.le_refl _) _, fun b hb _ => by
          have hne : b ≠ W.heap.size := fun e => HR'.out (e ▸ hb)
          unfold put8
          repeat rw [Below.heap_setCell _ _ _ _ (by exact hne)]⟩
        rcases HST.out k M HM.out with ⟨h0, M2, hM2, he⟩ | ⟨h0, he⟩
        · gi_roundg (A.length - (k + 1))
          case rel =>
            refine Or.inl ⟨k + 1, M2, R', ?_, hM2, rfl, ⟨hJ5, HR'.out⟩, ?_⟩
            · rw [Hok.out]; simp [h0]
            · have hb := put8_blk HK4.out M'
              have e : arr8 M' = arr8 M2 := arr8_same fun f hf => by rw [HM'.out]; unfold afterO; rw [if_neg h0]; exact he f hf
              rw [e] at hb
              exact hb
          case measure => have := HL.out; rw [HG.out]; omega
        · gi_roundg 0
          case rel => exact Or.inr ⟨by rw [Hok.out, h0]; rfl, R', by rw [← he]; exact hJ5⟩
          case measure => have := HL.out; rw [HG.out]; omega
      · gi_wp2
        go_end0
        exact ⟨⟨_, rfl⟩, .inr ⟨k, HL.out, hJx3⟩⟩
    · have HJe : Hid (∃ R, J A.length R wr) := hj
      clear hj
      gi_wp2
      refine ⟨fun _ _ => trivial, ?_⟩
      gi_wp2
      go_end0
      exact ⟨⟨_, rfl⟩, .inl HJe.out⟩
end Go.Proofs.YtjaedfjfcghgcabGreatDoor

