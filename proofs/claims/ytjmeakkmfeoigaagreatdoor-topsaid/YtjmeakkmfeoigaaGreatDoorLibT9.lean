/-
  Facts and contracts that the statement leans on.
-/
import Derived.Test.YtjmeakkmfeoigaaGreatDoorLibT7
import Derived.Test.YtjmeakkmfeoigaaGreatDoorLibT3
import Derived.Deep.Cut
import Derived.Test.YtjmeakkmfeoigaaGreatDoorLibT8
import Derived.Test.YtjmeakkmfeoigaaGreatDoorLibT6
import Derived.Deep.CutRange
import Derived.Deep.CutBlock
import Derived.Test.YtjmeakkmfeoigaaGreatDoorRows
import Derived.WalkKit
import Derived.LaidEql
import Derived.Stop.Asserts
import Derived.RowKitTokens
import Derived.Test.YtjmeakkmfeoigaaGreatDoorLibT4
namespace Go.Proofs.YtjmeakkmfeoigaaGreatDoor
open Go.ChangeShapes Go.WideShapes Go.ChangeAt Go.RowKit
def kindCells : List Value := [.string ⟨#[]⟩, .bool false, .bool false, .string ⟨#[115, 117, 98]⟩, .bool true, .bool false, .string ⟨#[115, 97, 109, 101]⟩, .bool true, .bool false, .string ⟨#[108, 101, 97, 115, 116]⟩, .bool false, .bool true, .string ⟨#[109, 111, 115, 116]⟩, .bool false, .bool true, .string ⟨#[110, 111, 109, 111, 114, 101]⟩, .bool true, .bool true]
def KindsLaid (w : World) : Prop := ∀ j, j < 18 → w.cell? ⟨0, j, none⟩ = some (kindCells.getD j .nilIface)
theorem KindsLaid.lt {w : World} (h : KindsLaid w) : 0 < w.heap.size := World.block_lt_of_cell? w ⟨0, 0, none⟩ (h 0 (by decide))
theorem KindsLaid.at {K : Nat} {w w' : World} (h : KindsLaid w) (hb : Below K w w') (hK : w.heap.size ≤ K) : KindsLaid w' := fun j hj => by
 rw [hb.cell (p := ⟨0, j, none⟩) (Nat.lt_of_lt_of_le h.lt hK)]; exact h j hj
theorem KindsLaid.below {w w' : World} (h : KindsLaid w) (hb : Below w.heap.size w w') : KindsLaid w' := h.at hb (Nat.le_refl _)
theorem Reads.slice {w : World} {v : Value} {t : List Int} (h : Reads w v t) : ∃ ao cap, v = .slice ao t.length cap ∧ t.length ≤ 9223372036854775807 := by
 rcases h with ⟨ao, cap, rfl, rfl⟩ | ⟨b, off, cap, rfl, _, _, h, _⟩
 ·exact ⟨ao, cap, rfl, by simp⟩
 ·exact ⟨_, cap, rfl, h.1⟩
theorem errV_0 : errV 0 = .nilIface := rfl
set_option maxRecDepth 100000
theorem kind_has {W : World} (h : KindsLaid W) {k : Nat} (h1 : 0 < k) (h6 : k < 6) : W.cell? ⟨0, k * 3 + 1, none⟩ = some (.bool (secondB k)) ∧ W.cell? ⟨0, k * 3 + 2, none⟩ = some (.bool (numberB k)) := by
 rcases (by omega : k = 1 ∨ k = 2 ∨ k = 3 ∨ k = 4 ∨ k = 5) with rfl | rfl | rfl | rfl | rfl <;> exact ⟨h _ (by decide), h _ (by decide)⟩
theorem csecond_in (k : Nat) (h6 : k < 6) (n : Int) (sao tao : Option Addr) (sl scap tl tcap : Nat) (b : Bool) (E : Value) (w : World) (hl : tl ≤ 9223372036854775807)
    (hq : ∀ W, Below w.heap.size w W → W.cell? ⟨0, k * 3 + 1, none⟩ = some (.bool b))
    (HC : Hid (b = true → ∀ W, Below w.heap.size w W → Calls Tryz.prog 68 #[.slice tao tl tcap] W (Sk W E)))
    (HE : Hid (b = false → E = errV (if 0 < tl then 3 else 0))) :
    Calls Tryz.prog 69 #[.agg #[.int .i64 (k : Int), .slice sao sl scap, .slice tao tl tcap, .int .i64 n]] w (Bk w E) := by
 obtain ⟨w1, hw1⟩ := nm (w.alloc (.cells #[.int .i64 (k : Int), .slice sao sl scap, .slice tao tl tcap, .int .i64 n] 29))
 have HB : Hid (Below w.heap.size w w1) := by unfold Hid; rw [hw1]; exact below_alloc1 w _
 have q := hq w1 HB.out
 obtain ⟨x0, x2⟩ : w1.cell? ⟨w.heap.size, 0, none⟩ = some (.int .i64 (k : Int)) ∧ w1.cell? ⟨w.heap.size, 2, none⟩ = some (.slice tao tl tcap) := by rw [hw1]; simp
 clear hq
 cases b
 ·have he := HE.out rfl
  by_cases h : 0 < tl
  ·rw [if_pos h] at he
   subst he
   go_enter Tryz.func69, Tryz.ntmps69
   go_upto_region 1 with fail
   rw [← hw1]
   clear hw1
   go_wp2
   go_ret
   exact ⟨rfl, HB.out⟩
  ·rw [if_neg h] at he
   subst he
   obtain rfl : tl = 0 := by omega
   go_enter Tryz.func69, Tryz.ntmps69
   go_upto_region 1 with fail
   rw [← hw1]
   clear hw1
   go_wp2
   go_ret
   exact ⟨rfl, HB.out⟩
 ·have HC' := hide (HC.out rfl w1 HB.out)
  go_enter Tryz.func69, Tryz.ntmps69
  go_upto_region 1 with fail
  rw [← hw1]
  clear hw1
  go_wp2_with (go_at_call 68; refine HC'.out.mono ?_; rintro e w' ⟨rfl, rfl⟩)
  go_ret
  exact ⟨rfl, HB.out⟩
theorem csecond_any (k n : Int) (vs vt : Value) (s t : List Int) (w : World) (hk : 1 ≤ k ∧ k ≤ 5) (hS : Reads w vs s) (hT : Reads w vt t) (hK : KindsLaid w) :
    Calls Tryz.prog 69 #[.agg #[.int .i64 k, vs, vt, .int .i64 n]] w (Bk w (errV (secondFault k t))) := by
 obtain ⟨k, rfl⟩ := Int.eq_ofNat_of_zero_le (show 0 ≤ k by omega)
 have hC := fun W (hW : Below w.heap.size w W) => tcheck_any t vt W (hT.below hW)
 obtain ⟨sao, scap, rfl, _⟩ := hS.slice
 obtain ⟨tao, tcap, rfl, hl⟩ := hT.slice
 refine csecond_in k (by omega) n sao tao _ scap _ tcap (secondB k) _ w hl (fun W hW => (kind_has (hK.below hW) (by omega) (by omega)).1) (fun hb W hW => ?_) fun hb => ?_
 ·have e : secondFault (k : Int) t = faultN t := by unfold secondFault; rw [if_pos hb]
  rw [e]; exact hC W hW
 ·unfold secondFault; rw [hb]; rfl
theorem acheck_kind (k : Int) (n : Int) (sao tao : Option Addr) (sl scap tl tcap : Nat) (w : World) (hk : ¬ (1 ≤ k ∧ k ≤ 5)) :
    Calls Tryz.prog 36 #[.agg #[.int .i64 k, .slice sao sl scap, .slice tao tl tcap, .int .i64 n]] w (Bk w (.iface 64 (.int .i64 1))) := by
 have HB : Hid (Below w.heap.size w (w.alloc (.cells #[.int .i64 k, .slice sao sl scap, .slice tao tl tcap, .int .i64 n] 29))) := below_alloc1 w _
 by_cases h : k < 1
 ·clear hk
  go_enter Tryz.func36, Tryz.ntmps36
  go_wp2
  go_ret
  exact ⟨rfl, HB.out⟩
 ·have h5 : 5 < k := by omega
  clear hk
  go_enter Tryz.func36, Tryz.ntmps36
  go_wp2
  go_ret
  exact ⟨rfl, HB.out⟩
theorem acheck_in (k : Nat) (h1 : 0 < k) (h6 : k < 6) (n : Int) (sao tao : Option Addr) (sl scap tl tcap : Nat) (b : Bool) (F1 F2 : Int) (w : World)
    (hq : ∀ W, Below w.heap.size w W → W.cell? ⟨0, k * 3 + 2, none⟩ = some (.bool b))
    (HC : Hid (∀ W, Below w.heap.size w W → Calls Tryz.prog 68 #[.slice sao sl scap] W (Sk W (errV F1))))
    (HS : Hid (∀ W, Below w.heap.size w W → Calls Tryz.prog 69 #[.agg #[.int .i64 (k : Int), .slice sao sl scap, .slice tao tl tcap, .int .i64 n]] W (Bk W (errV F2)))) :
    Calls Tryz.prog 36 #[.agg #[.int .i64 (k : Int), .slice sao sl scap, .slice tao tl tcap, .int .i64 n]] w (Bk w (errV (if F1 = 0 then (if F2 = 0 then (if - (if b = true then 20 else 0) ≤ n ∧ n ≤ (if b = true then 20 else 0) then 0 else 1) else F2) else F1))) := by
 obtain ⟨w1, hw1⟩ := nm (w.alloc (.cells #[.int .i64 (k : Int), .slice sao sl scap, .slice tao tl tcap, .int .i64 n] 29))
 have HB : Hid (Below w.heap.size w w1) := by unfold Hid; rw [hw1]; exact below_alloc1 w _
 have HQ : Hid (∀ W, Below w1.heap.size w1 W → W.cell? ⟨0, k * 3 + 2, none⟩ = some (.bool b)) := fun W hW => hq W (HB.out.trans (hW.mono HB.out.size))
 have HX : Hid (∀ W, Below w1.heap.size w1 W → W.cell? ⟨w.heap.size, 0, none⟩ = some (.int .i64 (k : Int)) ∧ W.cell? ⟨w.heap.size, 1, none⟩ = some (.slice sao sl scap) ∧ W.cell? ⟨w.heap.size, 2, none⟩ = some (.slice tao tl tcap) ∧ W.cell? ⟨w.heap.size, 3, none⟩ = some (.int .i64 n)) := fun W hW => by
  have hl : w.heap.size < w1.heap.size := by rw [hw1]; simp
  refine ⟨(hW.cell hl).trans ?_, (hW.cell hl).trans ?_, (hW.cell hl).trans ?_, (hW.cell hl).trans ?_⟩ <;> (rw [hw1]; simp)
 have HC1 := hide (HC.out w1 HB.out)
 have HS1 := hide (HS.out w1 HB.out)
 obtain ⟨x0, x1, x2, x3⟩ := HX.out w1 (Below.refl _ _)
 obtain ⟨M, hM⟩ : ∃ M : Int, M = if b = true then 20 else 0 := ⟨_, rfl⟩
 rw [← hM]
 obtain ⟨R, hR⟩ := nm (errV (if F1 = 0 then (if F2 = 0 then (if - M ≤ n ∧ n ≤ M then 0 else 1) else F2) else F1))
 rw [← hR]
 have HR := hide hR
 clear hq HC HS hR
 go_enter Tryz.func36, Tryz.ntmps36
 go_upto_region 1 with fail
 rw [← hw1]
 clear hw1
 go_wp2_with fail
 go_at_call 68
 refine HC1.out.mono ?_
 rintro e w' ⟨rfl, rfl⟩
 by_cases e1 : F1 = 0
 ·have H1 := hide e1
  rw [show errV F1 = .nilIface by rw [e1]; rfl]
  clear e1
  go_wp2_with fail
  go_at_call 69
  refine HS1.out.mono ?_
  rintro e w2 ⟨rfl, hb⟩
  have HB2 := hide (HB.out.trans (hb.mono HB.out.size))
  have q := HQ.out w2 hb
  clear x0 x1 x2 x3
  obtain ⟨x0, x1, x2, x3⟩ := HX.out w2 hb
  clear hb
  by_cases e2 : F2 = 0
  ·have H2 := hide e2
   rw [show errV F2 = .nilIface by rw [e2]; rfl]
   clear e2
   have H3 : Hid (R = errV (if - M ≤ n ∧ n ≤ M then 0 else 1)) := by unfold Hid; rw [HR.out, if_pos H1.out, if_pos H2.out]
   clear HR H1 H2
   by_cases g1 : n < - M
   ·have H4 : Hid (.iface 64 (.int .i64 1) = R) := by unfold Hid; rw [H3.out, if_neg (by omega)]; rfl
    cases b <;> (simp at hM; subst hM; go_wp2; go_ret; exact ⟨back_v H4.out, HB2.out⟩)
   by_cases g2 : M < n
   ·have H4 : Hid (.iface 64 (.int .i64 1) = R) := by unfold Hid; rw [H3.out, if_neg (by omega)]; rfl
    cases b <;> (simp at hM; subst hM; go_wp2; go_ret; exact ⟨back_v H4.out, HB2.out⟩)
   ·have H4 : Hid (.nilIface = R) := by unfold Hid; rw [H3.out, if_pos (by omega)]; rfl
    cases b <;> (simp at hM; subst hM; go_wp2; go_ret; exact ⟨back_v H4.out, HB2.out⟩)
  ·have H4 : Hid (.iface 64 (.int .i64 F2) = R) := by unfold Hid; rw [HR.out, if_pos H1.out, if_neg e2, errV_no e2]
   rw [errV_no e2]
   clear e2 hM
   go_wp2
   go_ret
   exact ⟨back_v H4.out, HB2.out⟩
 ·have H4 : Hid (.iface 64 (.int .i64 F1) = R) := by unfold Hid; rw [HR.out, if_neg e1, errV_no e1]
  rw [errV_no e1]
  clear e1 hM
  go_wp2
  go_ret
  exact ⟨back_v H4.out, HB.out⟩
theorem acheck_any (k n : Int) (vs vt : Value) (s t : List Int) (w : World) (hS : Reads w vs s) (hT : Reads w vt t) (hK : KindsLaid w) :
    Calls Tryz.prog 36 #[.agg #[.int .i64 k, vs, vt, .int .i64 n]] w (Bk w (errV (atomFault k s t n))) := by
 have hC := fun W (hW : Below w.heap.size w W) => tcheck_any s vs W (hS.below hW)
 have hS2 := fun h W (hW : Below w.heap.size w W) => csecond_any k n vs vt s t W h (hS.below hW) (hT.below hW) (hK.below hW)
 obtain ⟨sao, scap, rfl, _⟩ := hS.slice
 obtain ⟨tao, tcap, rfl, hl⟩ := hT.slice
 by_cases hk : 1 ≤ k ∧ k ≤ 5
 ·unfold atomFault mostN
  rw [if_pos hk]
  obtain ⟨k, rfl⟩ := Int.eq_ofNat_of_zero_le (show 0 ≤ k by omega)
  exact acheck_in k (by omega) (by omega) n sao tao _ scap _ tcap (numberB k) _ _ w (fun W hW => (kind_has (hK.below hW) (by omega) (by omega)).2) hC (hS2 hk)
 ·rw [atomFault_kind hk, errV_no (by decide)]
  exact acheck_kind k n sao tao _ scap _ tcap w hk
end Go.Proofs.YtjmeakkmfeoigaaGreatDoor
namespace Go.Proofs.YtjmeakkmfeoigaaGreatDoor
open Go.ChangeShapes Go.WideShapes Go.ChangeAt Go.RowKit
theorem cell_off {w : World} {G : Nat} {T : TypeId} {o1 o2 : Option Addr} {l1 c1 l2 c2 : Nat} (hb : Blk w G T #[.slice o1 l1 c1, .slice o2 l2 c2]) {b off : Nat} {n : Int} (h : w.cell? ⟨b, off, none⟩ = some (.int .i64 n)) : b ≠ G := fun e => by
 subst e
 have hc := hb.cell off
 rw [h] at hc
 rcases (by omega : off = 0 ∨ off = 1 ∨ 2 ≤ off) with rfl | rfl | h2
 ·simp at hc
 ·simp at hc
 ·rw [Array.getElem?_eq_none (by simpa using h2)] at hc; cases hc
theorem cell_put {w : World} {G j b off : Nat} (u : Value) (h : b ≠ G) : (w.setCell ⟨G, j, none⟩ u).cell? ⟨b, off, none⟩ = w.cell? ⟨b, off, none⟩ := World.cell?_of_block (Below.heap_setCell _ _ _ _ h)
theorem size_put (w : World) (p : Addr) (u : Value) : (w.setCell p u).heap.size = w.heap.size := by simp [World.setCell]
theorem Reads.put {w : World} {v : Value} {t : List Int} (h : Reads w v t) {G : Nat} {T : TypeId} {o1 o2 : Option Addr} {l1 c1 l2 c2 : Nat} (hb : Blk w G T #[.slice o1 l1 c1, .slice o2 l2 c2]) (j : Nat) (u : Value) : Reads (w.setCell ⟨G, j, none⟩ u) v t := by
 rcases h with h | ⟨b, off, cap, h1, h2, h3, h4, h5⟩
 ·exact Or.inl h
 ·exact Or.inr ⟨b, off, cap, h1, by rw [size_put]; exact h2, h3, h4, fun k hk => by rw [cell_put u (cell_off hb (h5 k hk))]; exact h5 k hk⟩
theorem ReadsA.put {w : World} {v : Value} {ats : List At} (h : ReadsA w v ats) {G : Nat} {T : TypeId} {o1 o2 : Option Addr} {l1 c1 l2 c2 : Nat} (hb : Blk w G T #[.slice o1 l1 c1, .slice o2 l2 c2]) (j : Nat) (u : Value) : ReadsA (w.setCell ⟨G, j, none⟩ u) v ats := by
 rcases h with h | ⟨b, off, cap, h1, h2, h3, h4, h5⟩
 ·exact Or.inl h
 ·refine Or.inr ⟨b, off, cap, h1, by rw [size_put]; exact h2, h3, h4, fun i a hi => ?_⟩
  obtain ⟨vs, vt, k0, k1, k2, k3, r1, r2⟩ := h5 i a hi
  have hne := cell_off hb k0
  exact ⟨vs, vt, by rw [cell_put u hne]; exact k0, by rw [cell_put u hne]; exact k1, by rw [cell_put u hne]; exact k2, by rw [cell_put u hne]; exact k3, r1.put hb j u, r2.put hb j u⟩
def BoxF (w : World) (G : Nat) (f : Fm) : Prop := ∃ o1 l1 c1 o2 l2 c2, Blk w G 39 #[.slice o1 l1 c1, .slice o2 l2 c2] ∧ ReadsA w (.slice o1 l1 c1) f.ats ∧ Reads w (.slice o2 l2 c2) f.c
theorem BoxF.below {w w' : World} {G : Nat} {f : Fm} (h : BoxF w G f) (hb : Below w.heap.size w w') : BoxF w' G f := by
 obtain ⟨o1, l1, c1, o2, l2, c2, h1, h2, h3⟩ := h
 exact ⟨o1, l1, c1, o2, l2, c2, h1.below hb, h2.below hb, h3.below hb⟩
theorem BoxF.put {w : World} {G : Nat} {o1 o2 p1 p2 : Option Addr} {l1 c1 l2 c2 m1 d1 m2 d2 : Nat} {f : Fm} (hb : Blk w G 39 #[.slice p1 m1 d1, .slice p2 m2 d2]) (hA : ReadsA w (.slice o1 l1 c1) f.ats) (hC : Reads w (.slice o2 l2 c2) f.c) :
    BoxF ((w.setCell ⟨G, 0, none⟩ (.slice o1 l1 c1)).setCell ⟨G, 1, none⟩ (.slice o2 l2 c2)) G f := by
 have hb1 : Blk (w.setCell ⟨G, 0, none⟩ (.slice o1 l1 c1)) G 39 #[.slice o1 l1 c1, .slice p2 m2 d2] := hb.set 0 _
 exact ⟨o1, l1, c1, o2, l2, c2, hb1.set 1 _, (hA.put hb 0 _).put hb1 1 _, (hC.put hb 0 _).put hb1 1 _⟩
structure LS2 (w : World) (Rep : Addr → Lg → (Nat → Prop) → World → Prop) (p : Addr) (l : Lg) (S : Nat → Prop) (W : World) : Prop where
 bel : Below w.heap.size w W
 rep : Rep p l S W
 ge : ∀ b, S b → w.heap.size ≤ b
theorem LS2.step {w : World} {Rep : Addr → Lg → (Nat → Prop) → World → Prop} (hok : LogOk w Rep) {p : Addr} {l : Lg} {S : Nat → Prop} {W W' : World} (h : LS2 w Rep p l S W) (hb : Below W.heap.size W W') : LS2 w Rep p l S W' :=
 ⟨h.bel.trans (hb.mono h.bel.size), hok.step h.rep hb, h.ge⟩
theorem LS2.move {w : World} {Rep : Addr → Lg → (Nat → Prop) → World → Prop} {p : Addr} {l l' : Lg} {S S' : Nat → Prop} {W W' : World} (h : LS2 w Rep p l S W) (hr : Rep p l' S' W') (hk : LKeep S W W') (hg : Grows S S' W) : LS2 w Rep p l' S' W' :=
 ⟨h.bel.trans (hk.below h.ge h.bel.size), hr, hg.ge h.ge h.bel.size⟩
end Go.Proofs.YtjmeakkmfeoigaaGreatDoor
namespace Go.Proofs.YtjmeakkmfeoigaaGreatDoor
open Go.RowKit
theorem alone_fault {k n : Int} {t : List Int} (h : atomFault k t [] n = 0) : formFault [⟨k, t, [], n⟩] [0] = 0 := by
 refine formFault_zero.2 ⟨⟨by simp, by simp⟩, ⟨by simp, by simp⟩, fun a ha => ?_, by simp; decide, by decide⟩
 obtain rfl : a = ⟨k, t, [], n⟩ := by simpa using ha
 exact h
theorem alone_is {k n : Int} {t : List Int} (h : atomFault k t [] n = 0) {D : Wd} (hok : D.ok = true) : D.formIs [⟨k, t, [], n⟩] [0] = D.holds k t [] n := by
 have hb : ∀ b : Bool, valF [b] [0] = b := by intro b; cases b <;> rfl
 unfold Wd.formIs
 rw [if_pos (wdForm_zero.2 ⟨alone_fault h, hok⟩)]
 exact hb _
theorem many_fault {k n : Int} {t : List Int} (ht : faultN t = 0) (hk : k = 3 ∨ k = 4) (h0 : -20 ≤ n) (h1 : n ≤ 20) : atomFault k t [] n = 0 := by
 rcases hk with rfl | rfl
 ·refine atomFault_zero.2 ⟨⟨by decide, by decide⟩, ht, by decide, ?_, ?_⟩
  ·show -(20 : Int) ≤ n; omega
  ·show n ≤ (20 : Int); omega
 ·refine atomFault_zero.2 ⟨⟨by decide, by decide⟩, ht, by decide, ?_, ?_⟩
  ·show -(20 : Int) ≤ n; omega
  ·show n ≤ (20 : Int); omega
theorem least_is {n : Int} {t : List Int} (ht : faultN t = 0) (h0 : -20 ≤ n) (h1 : n ≤ 20) {D : Wd} (hok : D.ok = true) : D.formIs [⟨3, t, [], n⟩] [0] = decide (n ≤ pcN (D.val t)) := by
 rw [alone_is (many_fault ht (Or.inl rfl) h0 h1) hok]
 unfold Wd.holds saysB
 simp
end Go.Proofs.YtjmeakkmfeoigaaGreatDoor
namespace Go.Proofs.YtjmeakkmfeoigaaGreatDoor
open Go.RowKit
theorem size_all : ∀ u : Nat, u < 7 → pcN (allN (u : Int)) = u := by decide
theorem size_le {u x : Int} (h : okB u x = true) : pcN x ≤ u := uptoSets (P := fun u x _ => pcN x ≤ u) (by decide +kernel) u x x h h
end Go.Proofs.YtjmeakkmfeoigaaGreatDoor
namespace Go.Proofs.YtjmeakkmfeoigaaGreatDoor
open Go.RowKit
set_option maxRecDepth 100000
theorem three_fault {k : Nat} (hk : k < 3) : faultN [(k : Int)] = 0 := by
 rcases (by omega : k = 0 ∨ k = 1 ∨ k = 2) with rfl | rfl | rfl <;> decide
theorem three_is {k : Nat} (hk : k < 3) {n : Int} (h0 : 0 ≤ n) (h1 : n ≤ 20) {D : Wd} (hok : D.ok = true) : D.formIs (manyA (k : Int) n) [0] = decide (n ≤ pcN (D.val [(k : Int)])) := by
 unfold manyA
 exact least_is (three_fault hk) (by omega) h1 hok
theorem some_many {k : Nat} (hk : k < 3) (u n : Nat) (hu : u ≤ 6) (hn : n ≤ u) : ∃ D : Wd, D.ok = true ∧ D.u = u ∧ pcN (D.val [(k : Int)]) = n := by
 have hle : allN (n : Int) ≤ allN (u : Int) := by
  rcases (by omega : u = 0 ∨ u = 1 ∨ u = 2 ∨ u = 3 ∨ u = 4 ∨ u = 5 ∨ u = 6) with rfl | rfl | rfl | rfl | rfl | rfl | rfl <;> rcases (by omega : n = 0 ∨ n = 1 ∨ n = 2 ∨ n = 3 ∨ n = 4 ∨ n = 5 ∨ n = 6) with rfl | rfl | rfl | rfl | rfl | rfl | rfl <;> first | decide | omega
 have h : okB (u : Int) (allN (n : Int)) = true := okB_iff.2 ⟨by omega, by omega, (allN_le (by omega) (by omega)).1, hle⟩
 refine ⟨⟨u, allN (n : Int), allN (n : Int), allN (n : Int)⟩, Wd.ok_iff.2 ⟨h, h, h⟩, rfl, ?_⟩
 have e : (Wd.mk (u : Int) (allN (n : Int)) (allN (n : Int)) (allN (n : Int))).val [(k : Int)] = allN (n : Int) := by
  rcases (by omega : k = 0 ∨ k = 1 ∨ k = 2) with rfl | rfl | rfl <;> rfl
 rw [e]
 exact size_all n (by omega)
theorem many_answer {k : Nat} (hk : k < 3) {n m u : Nat} (hn : n ≤ u) (hu : u ≤ 6) (hm : m ≤ 20) :
    askFault [⟨manyA (k : Int) (n : Int), [0]⟩] (manyA (k : Int) (m : Int)) [0] (u : Int) = 0 ∧ askN [⟨manyA (k : Int) (n : Int), [0]⟩] (manyA (k : Int) (m : Int)) [0] (u : Int) = if (m : Int) ≤ (n : Int) then 1 else if (u : Int) < (m : Int) then -1 else 0 := by
 have hso : ∀ D : Wd, D.ok = true → (D.so [⟨manyA (k : Int) (n : Int), [0]⟩] = true ↔ (n : Int) ≤ pcN (D.val [(k : Int)])) := fun D hok => by
  unfold Wd.so
  simp only [List.all_cons, List.all_nil, Bool.and_true]
  rw [three_is hk (by omega) (by omega) hok, decide_eq_true_iff]
 have his : ∀ D : Wd, D.ok = true → (D.formIs (manyA (k : Int) (m : Int)) [0] = true ↔ (m : Int) ≤ pcN (D.val [(k : Int)])) := fun D hok => by
  rw [three_is hk (by omega) (by omega) hok, decide_eq_true_iff]
 have ff : ∀ x : Nat, x ≤ 20 → formFault (manyA (k : Int) (x : Int)) [0] = 0 := fun x hx => alone_fault (many_fault (three_fault hk) (Or.inl rfl) (by omega) (by omega))
 have h1 : formsFault [⟨manyA (k : Int) (n : Int), [0]⟩] (u : Int) = 0 := forms_zero.2 ⟨⟨by simp, by simp⟩, fun f hf => by
  obtain rfl : f = ⟨manyA (k : Int) (n : Int), [0]⟩ := by simpa using hf
  exact ff n (by omega), by omega, by omega⟩
 obtain ⟨D1, d1, d2, d3⟩ := some_many hk u u hu (Nat.le_refl _)
 obtain ⟨D2, e1, e2, e3⟩ := some_many hk u n hu hn
 have hs1 := (hso D1 d1).2 (by rw [d3]; omega)
 have hs2 := (hso D2 e1).2 (by rw [e3]; omega)
 have hopen : ¬ (askP [⟨manyA (k : Int) (n : Int), [0]⟩] (manyA (k : Int) (m : Int)) [0] ((u : Int)).toNat).1 + (askP [⟨manyA (k : Int) (n : Int), [0]⟩] (manyA (k : Int) (m : Int)) [0] ((u : Int)).toNat).2 = 0 := fun h => by
  have h' := ask_open.1 h
  rw [open_of d1 (u := (u : Int)) d2 hs1] at h'
  exact absurd h' (by decide)
 have h0 : askFault [⟨manyA (k : Int) (n : Int), [0]⟩] (manyA (k : Int) (m : Int)) [0] (u : Int) = 0 := ask_zero.2 ⟨h1, ff m hm, hopen⟩
 refine ⟨h0, ?_⟩
 unfold askN
 rw [if_pos h0, Int.toNat_natCast]
 by_cases c1 : (m : Int) ≤ (n : Int)
 ·rw [if_pos c1]
  refine answer_one.2 ((ask_no _ _ _ _).2 fun D hD hs => ?_)
  have hok := worldsL_ok hu hD
  exact (his D hok).2 (by have := (hso D hok).1 hs; omega)
 ·rw [if_neg c1]
  have hno : ¬ (askP [⟨manyA (k : Int) (n : Int), [0]⟩] (manyA (k : Int) (m : Int)) [0] u).2 = 0 := fun h => by
   have := (his D2 e1).1 (ask_all_no h e1 e2 hs2)
   rw [e3] at this
   omega
  unfold answerN
  rw [if_neg hno]
  by_cases c2 : (u : Int) < (m : Int)
  ·rw [if_pos c2, if_pos]
   refine (ask_yes _ _ _ _).2 fun D hD hs => ?_
   have hok := worldsL_ok hu hD
   cases hx : D.formIs (manyA (k : Int) (m : Int)) [0]
   ·rfl
   ·have h3 := (his D hok).1 hx
    have h4 := size_le (ok_val hok [(k : Int)])
    rw [worldsL_u hu hD] at h4
    omega
  ·rw [if_neg c2, if_neg]
   intro h
   have h3 := ask_all_yes h d1 d2 hs1
   rw [(his D1 d1).2 (by rw [d3]; omega)] at h3
   exact absurd h3 (by decide)
end Go.Proofs.YtjmeakkmfeoigaaGreatDoor
namespace Go.Proofs.YtjmeakkmfeoigaaGreatDoor
open Go.ChangeShapes Go.WideShapes Go.ChangeAt Go.RowKit
set_option maxRecDepth 100000
theorem alone_four (w : World) (k n s : Int) : ∃ W, W = (((w.alloc (.cells #[.int .i64 s] 3)).alloc (.cells #[.int .i64 k, .slice (some ⟨w.heap.size, 0, none⟩) 1 1, .slice none 0 0, .int .i64 n] 29)).alloc (.cells #[.int .i64 0] 3)).alloc (.cells #[.slice (some ⟨w.heap.size + 1, 0, none⟩) 1 1, .slice (some ⟨w.heap.size + 1 + 1, 0, none⟩) 1 1] 39) ∧
    Blk W (w.heap.size + 1 + 1 + 1) 39 #[.slice (some ⟨w.heap.size + 1, 0, none⟩) 1 1, .slice (some ⟨w.heap.size + 1 + 1, 0, none⟩) 1 1] ∧ ReadsA W (.slice (some ⟨w.heap.size + 1, 0, none⟩) 1 1) [⟨k, [s], [], n⟩] ∧ Reads W (.slice (some ⟨w.heap.size + 1 + 1, 0, none⟩) 1 1) [0] ∧ Below w.heap.size w W := by
 obtain ⟨w1, h1⟩ := nm (w.alloc (.cells #[.int .i64 s] 3))
 obtain ⟨w2, h2⟩ := nm (w1.alloc (.cells #[.int .i64 k, .slice (some ⟨w.heap.size, 0, none⟩) 1 1, .slice none 0 0, .int .i64 n] 29))
 obtain ⟨w3, h3⟩ := nm (w2.alloc (.cells #[.int .i64 0] 3))
 obtain ⟨w4, h4⟩ := nm (w3.alloc (.cells #[.slice (some ⟨w.heap.size + 1, 0, none⟩) 1 1, .slice (some ⟨w.heap.size + 1 + 1, 0, none⟩) 1 1] 39))
 have s1 : w1.heap.size = w.heap.size + 1 := by rw [h1]; exact World.size_alloc _ _
 have s2 : w2.heap.size = w.heap.size + 1 + 1 := by rw [h2, World.size_alloc, s1]
 have s3 : w3.heap.size = w.heap.size + 1 + 1 + 1 := by rw [h3, World.size_alloc, s2]
 have k1 : Blk w1 w.heap.size 3 #[.int .i64 s] := by rw [h1]; exact Blk.new _ _ _
 have k2 : Blk w2 (w.heap.size + 1) 29 #[.int .i64 k, .slice (some ⟨w.heap.size, 0, none⟩) 1 1, .slice none 0 0, .int .i64 n] := by rw [h2, ← s1]; exact Blk.new _ _ _
 have k3 : Blk w3 (w.heap.size + 1 + 1) 3 #[.int .i64 0] := by rw [h3, ← s2]; exact Blk.new _ _ _
 have k4 : Blk w4 (w.heap.size + 1 + 1 + 1) 39 #[.slice (some ⟨w.heap.size + 1, 0, none⟩) 1 1, .slice (some ⟨w.heap.size + 1 + 1, 0, none⟩) 1 1] := by rw [h4, ← s3]; exact Blk.new _ _ _
 have b1 : Below w.heap.size w w1 := by rw [h1]; exact below_alloc1 _ _
 have b2 : Below w1.heap.size w1 w2 := by rw [h2]; exact below_alloc1 _ _
 have b3 : Below w2.heap.size w2 w3 := by rw [h3]; exact below_alloc1 _ _
 have b4 : Below w3.heap.size w3 w4 := by rw [h4]; exact below_alloc1 _ _
 have q1 : Blk w4 w.heap.size 3 #[.int .i64 s] := ((k1.below b2).below b3).below b4
 have q2 : Blk w4 (w.heap.size + 1) 29 #[.int .i64 k, .slice (some ⟨w.heap.size, 0, none⟩) 1 1, .slice none 0 0, .int .i64 n] := (k2.below b3).below b4
 have q3 : Blk w4 (w.heap.size + 1 + 1) 3 #[.int .i64 0] := k3.below b4
 have rone : ∀ (G : Nat) (x : Int), Blk w4 G 3 #[.int .i64 x] → Reads w4 (.slice (some ⟨G, 0, none⟩) 1 1) [x] := fun G x h => by
  refine Or.inr ⟨G, 0, 1, rfl, h.lt, by simp, ⟨by simp, by simp⟩, fun j hj => ?_⟩
  obtain rfl : j = 0 := by simp at hj; exact hj
  exact h.cell 0
 refine ⟨w4, by rw [h4, h3, h2, h1], k4, Or.inr ⟨w.heap.size + 1, 0, 1, rfl, q2.lt, by simp, ⟨by simp, by simp⟩, fun i a ha => ?_⟩, rone _ 0 q3, ?_⟩
 ·cases i with
  | zero =>
   obtain rfl : (⟨k, [s], [], n⟩ : At) = a := by simpa using ha
   exact ⟨_, _, q2.cell 0, q2.cell 1, q2.cell 2, q2.cell 3, rone _ s q1, Or.inl ⟨none, 0, rfl, rfl⟩⟩
  | succ i => simp at ha
 ·have c2 : Below w.heap.size w w2 := b1.trans (b2.mono b1.size)
  have c3 : Below w.heap.size w w3 := c2.trans (b3.mono c2.size)
  exact c3.trans (b4.mono c3.size)
set_option maxHeartbeats 8000000 in
theorem topOne_any (w : World)
    (cOf : ∀ (v va vc : Value) (fs : List Fm) (ats : List At) (c : List Int) (u : Int) (W : World), Below w.heap.size w W → ReadsF W v fs → ReadsA W va ats → Reads W vc c → Calls Tryz.prog 23 #[v, .agg #[va, vc], .int .i64 u] W (Bk W (.tuple #[.int .i64 (askN fs ats c u), errV (askFault fs ats c u)]))) :
    Calls Tryz.prog 22 #[] w (Bk w (.bool true)) := by
 have HOf : Hid (∀ W v va vc, Below w.heap.size w W → ReadsF W v [⟨[⟨3, [0], [], 2⟩], [0]⟩] → ReadsA W va [⟨3, [0], [], 1⟩] → Reads W vc [0] → Calls Tryz.prog 23 #[v, .agg #[va, vc], .int .i64 2] W (Bk W (.tuple #[.int .i64 1, .nilIface]))) := fun W v va vc hW h1 h2 h3 => by
  obtain ⟨e1, e2⟩ := many_answer (k := 0) (by omega) (n := 2) (m := 1) (u := 2) (by omega) (by omega) (by omega)
  have h := cOf v va vc _ _ _ 2 W hW h1 h2 h3
  have f1 : askFault [⟨[⟨3, [0], [], 2⟩], [0]⟩] [⟨3, [0], [], 1⟩] [0] 2 = 0 := e1
  have f2 : askN [⟨[⟨3, [0], [], 2⟩], [0]⟩] [⟨3, [0], [], 1⟩] [0] 2 = 1 := e2
  rw [f1, f2] at h
  exact h
 clear cOf
 obtain ⟨w1, hw1, k1, a1, c1, b1⟩ := alone_four w 3 2 0
 obtain ⟨G1, hG1⟩ := nm (w.heap.size + 1 + 1 + 1)
 obtain ⟨P1, hP1⟩ := nm (w.heap.size + 1)
 obtain ⟨Q1, hQ1⟩ := nm (w.heap.size + 1 + 1)
 rw [← hG1] at k1
 rw [← hQ1] at k1 c1 hw1
 rw [← hP1] at k1 a1 hw1
 obtain ⟨w2, hw2, k2, a2, c2, b2⟩ := alone_four w1 3 1 0
 obtain ⟨G2, hG2⟩ := nm (w1.heap.size + 1 + 1 + 1)
 obtain ⟨P2, hP2⟩ := nm (w1.heap.size + 1)
 obtain ⟨Q2, hQ2⟩ := nm (w1.heap.size + 1 + 1)
 rw [← hG2] at k2
 rw [← hQ2] at k2 c2 hw2
 rw [← hP2] at k2 a2 hw2
 have HB1 := hide b1
 have HB2 := hide (b1.trans (b2.mono b1.size))
 have HK1 := hide (k1.below b2)
 have HA1 : Hid (ReadsA w2 (.slice (some ⟨P1, 0, none⟩) 1 1) [⟨3, [0], [], 2⟩] ∧ Reads w2 (.slice (some ⟨Q1, 0, none⟩) 1 1) [0]) := ⟨a1.below b2, c1.below b2⟩
 have HK2 : Hid (Blk w2 G2 39 #[.slice (some ⟨P2, 0, none⟩) 1 1, .slice (some ⟨Q2, 0, none⟩) 1 1]) := k2
 have HA2 : Hid (ReadsA w2 (.slice (some ⟨P2, 0, none⟩) 1 1) [⟨3, [0], [], 1⟩] ∧ Reads w2 (.slice (some ⟨Q2, 0, none⟩) 1 1) [0]) := ⟨a2, c2⟩
 clear b1 b2 k1 k2 a1 a2 c1 c2
 go_enter Tryz.func22, Tryz.ntmps22
 go_upto_region 2 with fail
 rw [← hG1, ← hQ1, ← hP1, ← hw1]
 clear hP1 hQ1 hG1 hw1
 go_upto_region 3 with fail
 rw [← hG2, ← hQ2, ← hP2, ← hw2]
 clear hP2 hQ2 hG2 hw2
 obtain ⟨w3, hw3⟩ := nm (w2.alloc (.cells #[.slice (some ⟨P1, 0, none⟩) 1 1, .slice (some ⟨Q1, 0, none⟩) 1 1] 39))
 obtain ⟨G3, hG3⟩ := nm w2.heap.size
 have b3 : Below w2.heap.size w2 w3 := by rw [hw3]; exact below_alloc1 _ _
 have HB3 := hide (HB2.out.trans (b3.mono HB2.out.size))
 have HR3 : Hid (ReadsF w3 (.slice (some ⟨G3, 0, none⟩) 1 1) [⟨[⟨3, [0], [], 2⟩], [0]⟩]) := by
  have k3 : Blk w3 G3 39 #[.slice (some ⟨P1, 0, none⟩) 1 1, .slice (some ⟨Q1, 0, none⟩) 1 1] := by rw [hw3, hG3]; exact Blk.new _ _ _
  refine Or.inr ⟨G3, 0, 1, rfl, k3.lt, by simp, ⟨by simp, by simp⟩, fun i x hx => ?_⟩
  cases i with
  | zero =>
   obtain rfl : (⟨[⟨3, [0], [], 2⟩], [0]⟩ : Fm) = x := by simpa using hx
   exact ⟨_, _, k3.cell 0, k3.cell 1, HA1.out.1.below b3, HA1.out.2.below b3⟩
  | succ i => simp at hx
 have HA3 : Hid (ReadsA w3 (.slice (some ⟨P2, 0, none⟩) 1 1) [⟨3, [0], [], 1⟩] ∧ Reads w3 (.slice (some ⟨Q2, 0, none⟩) 1 1) [0]) := ⟨HA2.out.1.below b3, HA2.out.2.below b3⟩
 have x0 : w2.cell? ⟨G1, 0, none⟩ = some (.slice (some ⟨P1, 0, none⟩) 1 1) := HK1.out.cell 0
 have x1 : w2.cell? ⟨G1, 1, none⟩ = some (.slice (some ⟨Q1, 0, none⟩) 1 1) := HK1.out.cell 1
 have y0 : (w2.alloc (.cells #[.slice (some ⟨P1, 0, none⟩) 1 1, .slice (some ⟨Q1, 0, none⟩) 1 1] 39)).cell? ⟨G2, 0, none⟩ = some (.slice (some ⟨P2, 0, none⟩) 1 1) := by rw [← hw3]; exact (HK2.out.below b3).cell 0
 have y1 : (w2.alloc (.cells #[.slice (some ⟨P1, 0, none⟩) 1 1, .slice (some ⟨Q1, 0, none⟩) 1 1] 39)).cell? ⟨G2, 1, none⟩ = some (.slice (some ⟨Q2, 0, none⟩) 1 1) := by rw [← hw3]; exact (HK2.out.below b3).cell 1
 clear b3
 go_wp2_with fail
 rw [← hw3, ← hG3]
 clear hw3 hG3 x0 x1 y0 y1
 go_at_call 23
 refine (HOf.out _ _ _ _ HB3.out HR3.out HA3.out.1 HA3.out.2).mono ?_
 rintro e w4 ⟨rfl, hb⟩
 have HB4 := hide (HB3.out.trans (hb.mono HB3.out.size))
 clear hb
 go_wp2
 go_ret
 exact ⟨rfl, HB4.out⟩
end Go.Proofs.YtjmeakkmfeoigaaGreatDoor
namespace Go.Proofs.YtjmeakkmfeoigaaGreatDoor
open Go.RowKit Go.Extern.Stop Go.Stop Go.Extern
set_option maxRecDepth 100000
theorem rlValueOfP (t : Addr) (w : World) : (ReflectliteValue.unpack (.iface 110 (.pointer (some t)))).run Tryz.prog w
    = .ok (.agg #[.pointer (some ⟨11, 110, none⟩), .pointer (some ⟨w.heap.size, 0, none⟩), .int .u64 150]) (w.alloc (.cells #[.pointer (some t)] 110)) := by kernel_rfl
theorem rlTypeP (a : Addr) (w : World) : (ReflectliteValue.methodAny (ReflectliteValue.valueError "reflectlite.Value.Type" 0) (fun t _ _ _ => ReflectliteType.toType t) #[.agg #[.pointer (some ⟨11, 110, none⟩), .pointer (some a), .int .u64 150]]).run Tryz.prog w
    = .ok (.iface 199 (.agg #[.pointer (some ⟨11, 110, none⟩)])) w := by kernel_rfl
theorem rlMethodKind (h : Value) (w : World) : (Go.method 429 199 (.agg #[h]) "Kind").run Tryz.prog w = .ok (254, h) w := by kernel_rfl
theorem rlKindP (w : World) : ((ReflectliteType.abiMethod fun t => (fun a : Nat => Value.int IntKind.u8 (a : Int)) <$> Rtype.kind t) #[.pointer (some ⟨11, 110, none⟩)]).run Tryz.prog w = .ok (.int .u8 22) w := by kernel_rfl
theorem rlKindE (w : World) : ((ReflectliteType.abiMethod fun t => (fun a : Nat => Value.int IntKind.u8 (a : Int)) <$> Rtype.kind t) #[.pointer (some ⟨11, 64, none⟩)]).run Tryz.prog w = .ok (.int .u8 2) w := by kernel_rfl
theorem rlPartsP (a : Addr) (w : World) : (ReflectliteValue.parts (.agg #[.pointer (some ⟨11, 110, none⟩), .pointer (some a), .int .u64 150])).run Tryz.prog w = .ok (some (110, a, 150)) w := by kernel_rfl
theorem rlIsNilP (a p : Addr) (W : World) (ha : W.cell? a = some (.pointer (some p))) :
    (ReflectliteValue.method (ReflectliteValue.valueError "reflectlite.Value.IsNil" 0) ReflectliteValue.isNil #[.agg #[.pointer (some ⟨11, 110, none⟩), .pointer (some a), .int .u64 150]]).run Tryz.prog W = .ok (.bool false) W := by
 change (ReflectliteValue.parts (.agg #[.pointer (some ⟨11, 110, none⟩), .pointer (some a), .int .u64 150]) >>= _).run _ _ = _
 simp only [Sem.run_bind, rlPartsP, Result.andThen]
 simp [ReflectliteValue.isNil, loadVar, isAgg, underlying, Tryz.underlying110, ha, Result.andThen]
theorem rlMethodElem (h : Value) (w : World) : (Go.method 429 199 (.agg #[h]) "Elem").run Tryz.prog w = .ok (264, .agg #[h]) w := by kernel_rfl
theorem rlMethodImplements (h : Value) (w : World) : (Go.method 429 199 (.agg #[h]) "Implements").run Tryz.prog w = .ok (265, .agg #[h]) w := by kernel_rfl
theorem rlMethodAssignableTo (h : Value) (w : World) : (Go.method 429 199 (.agg #[h]) "AssignableTo").run Tryz.prog w = .ok (262, .agg #[h]) w := by kernel_rfl
theorem rlElemP (w : World) : (ReflectliteType.method ReflectliteType.elem #[.agg #[.pointer (some ⟨11, 110, none⟩)]]).run Tryz.prog w = .ok (.iface 199 (.agg #[.pointer (some ⟨11, 64, none⟩)])) w := by kernel_rfl
theorem rlImplementsE (w : World) : (ReflectliteType.relation "Implements" ReflectliteType.implements_ #[.agg #[.pointer (some ⟨11, 64, none⟩)], .iface 199 (.agg #[.pointer (some ⟨11, 24, none⟩)])]).run Tryz.prog w = .ok (.bool true) w := by kernel_rfl
theorem rlTypeOfE (v : Value) (w : World) : (ReflectliteType.typeOf #[.iface 64 v]).run Tryz.prog w = .ok (.iface 199 (.agg #[.pointer (some ⟨11, 64, none⟩)])) w := by kernel_rfl
theorem rlAssignableE (w : World) : (ReflectliteType.relation "AssignableTo" ReflectliteType.assignableTo #[.agg #[.pointer (some ⟨11, 64, none⟩)], .iface 199 (.agg #[.pointer (some ⟨11, 64, none⟩)])]).run Tryz.prog w = .ok (.bool true) w := by kernel_rfl
theorem rlValueOfE (n : Int) (w : World) : (ReflectliteValue.unpack (.iface 64 (.int .i64 n))).run Tryz.prog w
    = .ok (.agg #[.pointer (some ⟨11, 64, none⟩), .pointer (some ⟨w.heap.size, 0, none⟩), .int .u64 130]) (w.alloc (.cells #[.int .i64 n] 64)) := by kernel_rfl
theorem rlElemOfP (w : World) : (Rtype.elem? 110).run Tryz.prog w = .ok (some 64) w := by kernel_rfl
theorem rlMkE (p : Addr) (w : World) : (ReflectliteValue.mk 64 p ReflectliteValue.flagAddr).run Tryz.prog w = .ok (.agg #[.pointer (some ⟨11, 64, none⟩), .pointer (some p), .int .u64 386]) w := by kernel_rfl
theorem rlElemV (a p : Addr) (W : World) (ha : W.cell? a = some (.pointer (some p))) :
    (ReflectliteValue.method (ReflectliteValue.valueError "reflectlite.Value.Elem" 0) ReflectliteValue.elem #[.agg #[.pointer (some ⟨11, 110, none⟩), .pointer (some a), .int .u64 150]]).run Tryz.prog W
     = .ok (.agg #[.pointer (some ⟨11, 64, none⟩), .pointer (some p), .int .u64 386]) W := by
 change (ReflectliteValue.parts (.agg #[.pointer (some ⟨11, 110, none⟩), .pointer (some a), .int .u64 150]) >>= _).run _ _ = _
 simp only [Sem.run_bind, rlPartsP, Result.andThen]
 simp [ReflectliteValue.elem, loadVar, isAgg, underlying, Tryz.underlying110, ha, Result.andThen, rlElemOfP, rlMkE]
theorem rlPartsEa (a : Addr) (w : World) : (ReflectliteValue.parts (.agg #[.pointer (some ⟨11, 64, none⟩), .pointer (some a), .int .u64 386])).run Tryz.prog w = .ok (some (64, a, 386)) w := by kernel_rfl
theorem rlPartsE (a : Addr) (w : World) : (ReflectliteValue.parts (.agg #[.pointer (some ⟨11, 64, none⟩), .pointer (some a), .int .u64 130])).run Tryz.prog w = .ok (some (64, a, 130)) w := by kernel_rfl
theorem rlDirectE (w : World) : (Rtype.directlyAssignable 64 64).run Tryz.prog w = .ok true w := by kernel_rfl
theorem rlSetE (ta b : Addr) (n : Int) (old : Value) (W : World) (hb : W.cell? b = some (.int .i64 n)) (ht : W.cell? ta = some old) (hf : W.frozen? ta = false) :
    (ReflectliteValue.set #[.agg #[.pointer (some ⟨11, 64, none⟩), .pointer (some ta), .int .u64 386], .agg #[.pointer (some ⟨11, 64, none⟩), .pointer (some b), .int .u64 130]]).run Tryz.prog W
     = .ok (.tuple #[]) (W.setCell ta (.int .i64 n)) := by
 change (ReflectliteValue.parts (.agg #[.pointer (some ⟨11, 64, none⟩), .pointer (some ta), .int .u64 386]) >>= fun _ => ReflectliteValue.parts (.agg #[.pointer (some ⟨11, 64, none⟩), .pointer (some b), .int .u64 130]) >>= _).run _ _ = _
 simp only [Sem.run_bind, rlPartsEa, rlPartsE, Result.andThen]
 simp [ReflectliteValue.flagAddr, loadVar, isAgg, underlying, Tryz.underlying64, hb, Result.andThen, rlDirectE, storeVar, Value.cells, storeCells, Addr.add]
 rw [run_store Tryz.prog W ta _ _ (by rfl)]
 simp [ht, hf]
def Laid (w : World) : Prop := w.cell? ⟨1, 0, none⟩ = some (.iface 199 (.agg #[.pointer (some ⟨11, 24, none⟩)]))
theorem Laid.lt {w : World} (h : Laid w) : 1 < w.heap.size := by
 rcases Nat.lt_or_ge 1 w.heap.size with h' | h'
 ·exact h'
 ·simp [Laid, World.cell?, Array.getElem?_eq_none h'] at h
theorem Laid.below {w w' : World} (h : Laid w) (hb : Below w.heap.size w w') : Laid w' := by
 unfold Laid
 rw [hb.cell h.lt]
 exact h
def Acc (w0 w : World) : Prop := Laid w ∧ Below w0.heap.size w0 w
theorem Acc.step {w0 w w' : World} (h : Acc w0 w) (hb : Below w.heap.size w w') : Acc w0 w' := ⟨h.1.below hb, h.2.trans (hb.mono h.2.size)⟩
set_option maxRecDepth 100000 in
set_option maxHeartbeats 4000000 in
theorem as_hit (n : Int) (t : Addr) (old : Value) (w : World) (hg : w.cell? ⟨1, 0, none⟩ = some (.iface 199 (.agg #[.pointer (some ⟨11, 24, none⟩)]))) (ht0 : w.cell? t = some old) (hf0 : w.frozen? t = false) :
    Calls Tryz.prog 64 #[.iface 64 (.int .i64 n), .iface 110 (.pointer (some t))] w fun ev w' => ev = .returned (.bool true) ∧ ((((w.alloc (.cells #[.pointer (some t)] 110)).alloc (.cells #[.pointer (some ⟨11, 110, none⟩), .pointer (some ⟨w.heap.size, 0, none⟩), .int .u64 150] 161)).alloc (.cells #[.pointer (some ⟨11, 110, none⟩), .pointer (some ⟨w.heap.size, 0, none⟩), .int .u64 150] 161)).alloc (.cells #[.int .i64 n] 64)).setCell t (.int .i64 n) = w' := by
 have h6 := @run_callFunc_extern Tryz.prog 102 _ (fun args => ReflectliteValue.unpack (args.getD 0 (.tuple #[]))) Tryz.func102 (by kernel_rfl) (by kernel_rfl) (by kernel_rfl) (by kernel_rfl)
 have h7 := @run_callFunc_extern Tryz.prog 103 _ (ReflectliteValue.methodAny (ReflectliteValue.valueError "reflectlite.Value.Type" 0) (fun t _ _ _ => ReflectliteType.toType t)) Tryz.func103 (by kernel_rfl) (by kernel_rfl) (by kernel_rfl) (by kernel_rfl)
 have h8 := @run_callFunc_extern Tryz.prog 104 _ (ReflectliteValue.method (ReflectliteValue.valueError "reflectlite.Value.IsNil" 0) ReflectliteValue.isNil) Tryz.func104 (by kernel_rfl) (by kernel_rfl) (by kernel_rfl) (by kernel_rfl)
 have h27 := @run_callFunc_extern Tryz.prog 254 _ (ReflectliteType.abiMethod fun t => do pure (.int .u8 (← Rtype.kind t))) Tryz.func254 (by kernel_rfl) (by kernel_rfl) (by kernel_rfl) (by kernel_rfl)
 have h37 := @run_callFunc_extern Tryz.prog 264 _ (ReflectliteType.method ReflectliteType.elem) Tryz.func264 (by kernel_rfl) (by kernel_rfl) (by kernel_rfl) (by kernel_rfl)
 have h38 := @run_callFunc_extern Tryz.prog 265 _ (ReflectliteType.relation "Implements" ReflectliteType.implements_) Tryz.func265 (by kernel_rfl) (by kernel_rfl) (by kernel_rfl) (by kernel_rfl)
 have h10 := @run_callFunc_extern Tryz.prog 141 _ ReflectliteType.typeOf Tryz.func141 (by kernel_rfl) (by kernel_rfl) (by kernel_rfl) (by kernel_rfl)
 have h35 := @run_callFunc_extern Tryz.prog 262 _ (ReflectliteType.relation "AssignableTo" ReflectliteType.assignableTo) Tryz.func262 (by kernel_rfl) (by kernel_rfl) (by kernel_rfl) (by kernel_rfl)
 have h11 := @run_callFunc_extern Tryz.prog 142 _ (ReflectliteValue.method (ReflectliteValue.valueError "reflectlite.Value.Elem" 0) ReflectliteValue.elem) Tryz.func142 (by kernel_rfl) (by kernel_rfl) (by kernel_rfl) (by kernel_rfl)
 have h12 := @run_callFunc_extern Tryz.prog 143 _ ReflectliteValue.set Tryz.func143 (by kernel_rfl) (by kernel_rfl) (by kernel_rfl) (by kernel_rfl)
 have tO := rlTypeOfE
 have mA := rlMethodAssignableTo
 have a25 := rlAssignableE
 have v25 := rlValueOfE
 have f6 := rlValueOfP
 have f7 := rlTypeP
 have mK := rlMethodKind
 have mE := rlMethodElem
 have mI := rlMethodImplements
 have k27 := rlKindP
 have k25 := rlKindE
 have e27 := rlElemP
 have i25 := rlImplementsE
 have n8 := rlIsNilP ⟨w.heap.size, 0, none⟩ t ((w.alloc (.cells #[.pointer (some t)] 110)).alloc (.cells #[.pointer (some ⟨11, 110, none⟩), .pointer (some ⟨w.heap.size, 0, none⟩), .int .u64 150] 161)) (by simp)
 have hlt : 1 < w.heap.size := Laid.lt hg
 have hg2 : ((w.alloc (.cells #[.pointer (some t)] 110)).alloc (.cells #[.pointer (some ⟨11, 110, none⟩), .pointer (some ⟨w.heap.size, 0, none⟩), .int .u64 150] 161)).cell? ⟨1, 0, none⟩ = some (.iface 199 (.agg #[.pointer (some ⟨11, 24, none⟩)])) := by
  rw [World.cell?_alloc_lt _ _ ⟨1, 0, none⟩ (Nat.lt_of_lt_of_le hlt (by simp)), World.cell?_alloc_lt _ _ ⟨1, 0, none⟩ hlt]; exact hg
 have htl : t.block < w.heap.size := by
  rcases Nat.lt_or_ge t.block w.heap.size with h | h
  ·exact h
  ·simp [World.cell?, Array.getElem?_eq_none h] at ht0
 have el := rlElemV ⟨w.heap.size, 0, none⟩ t (((w.alloc (.cells #[.pointer (some t)] 110)).alloc (.cells #[.pointer (some ⟨11, 110, none⟩), .pointer (some ⟨w.heap.size, 0, none⟩), .int .u64 150] 161)).alloc (.cells #[.pointer (some ⟨11, 110, none⟩), .pointer (some ⟨w.heap.size, 0, none⟩), .int .u64 150] 161)) (by rw [World.cell?_alloc_lt _ _ ⟨w.heap.size, 0, none⟩ (by simp; omega)]; simp)
 have st := rlSetE t ⟨w.heap.size + 1 + 1 + 1, 0, none⟩ n old ((((w.alloc (.cells #[.pointer (some t)] 110)).alloc (.cells #[.pointer (some ⟨11, 110, none⟩), .pointer (some ⟨w.heap.size, 0, none⟩), .int .u64 150] 161)).alloc (.cells #[.pointer (some ⟨11, 110, none⟩), .pointer (some ⟨w.heap.size, 0, none⟩), .int .u64 150] 161)).alloc (.cells #[.int .i64 n] 64))
  (by rw [World.cell?_alloc_at _ _ _ _ (by simp)]; rfl)
  (by rw [World.cell?_alloc_lt _ _ t (by simp; omega), World.cell?_alloc_lt _ _ t (by simp; omega), World.cell?_alloc_lt _ _ t (by simp; omega), World.cell?_alloc_lt _ _ t htl]; exact ht0)
  (by rw [World.frozen?_alloc_old _ _ t (by simp; omega), World.frozen?_alloc_old _ _ t (by simp; omega), World.frozen?_alloc_old _ _ t (by simp; omega), World.frozen?_alloc_old _ _ t (Nat.ne_of_lt htl)]; exact hf0)
 go_enter Tryz.func64, Tryz.ntmps64
 go_wp2
 refine wp_loop_rounds 1 ?_
 rw [rounds_succ]
 go_wp2
 go_ret
 exact ⟨rfl, rfl⟩
theorem told_nil (w : World) : Calls Tryz.prog 32 #[.nilIface] w (Sk w (.int .i64 0)) := by
 go_enter Tryz.func32, Tryz.ntmps32
 go_wp2
 go_ret
 exact ⟨rfl, rfl⟩
set_option maxHeartbeats 1000000 in
theorem told_err (n : Int) (w : World) (hg : Laid w) : Calls Tryz.prog 32 #[.iface 64 (.int .i64 n)] w (Bk w (.int .i64 n)) := by
 have hgA : (w.alloc (.cells #[.int .i64 0] 64)).cell? ⟨1, 0, none⟩ = some (.iface 199 (.agg #[.pointer (some ⟨11, 24, none⟩)])) := by
  rw [World.cell?_alloc_lt _ _ ⟨1, 0, none⟩ hg.lt]; exact hg
 have htA : (w.alloc (.cells #[.int .i64 0] 64)).cell? ⟨w.heap.size, 0, none⟩ = some (.int .i64 0) := by simp
 have hfA : (w.alloc (.cells #[.int .i64 0] 64)).frozen? ⟨w.heap.size, 0, none⟩ = false := by simp
 clear hg
 go_enter Tryz.func32, Tryz.ntmps32
 go_wp2_with (go_at_call 64; refine (as_hit _ _ _ _ hgA htA hfA).mono ?_; rintro e w' ⟨rfl, rfl⟩)
 go_ret
 refine ⟨rfl, ?_⟩
 exact ((((((Below.refl _ _).alloc (Nat.le_refl _) _).alloc (by simp) _).alloc (by simp; omega) _).alloc (by simp; omega) _).alloc (by simp; omega) _)
theorem same_nil (n : Int) (w : World) : Calls Tryz.prog 10 #[.nilIface, .int .i64 n] w (Sk w (.bool (0 == n))) := by
 go_enter Tryz.func10, Tryz.ntmps10
 go_wp2_with (go_at_call 32; refine (told_nil _).mono ?_; rintro e w' ⟨rfl, rfl⟩)
 go_ret
 exact ⟨rfl, rfl⟩
theorem same_err (m n : Int) (w : World) (hg : Laid w) : Calls Tryz.prog 10 #[.iface 64 (.int .i64 m), .int .i64 n] w (Bk w (.bool (m == n))) := by
 have HG := hide hg
 clear hg
 go_enter Tryz.func10, Tryz.ntmps10
 go_wp2_with (go_at_call 32; refine (told_err _ _ HG.out).mono ?_; rintro e w' ⟨rfl, hb⟩)
 go_ret
 exact ⟨rfl, hb⟩
end Go.Proofs.YtjmeakkmfeoigaaGreatDoor
namespace Go.Proofs.YtjmeakkmfeoigaaGreatDoor
open Go.ChangeShapes Go.WideShapes Go.ChangeAt Go.RowKit
theorem merr_any (n : Int) (w : World) (hg : Laid w) : Calls Tryz.prog 10 #[errV n, .int .i64 n] w (Bk w (.bool true)) := by
 by_cases h : n = 0
 ·subst h
  exact (same_nil 0 w).mono fun _ _ h => ⟨h.1, by rw [← h.2]; exact Below.refl _ _⟩
 ·rw [errV_no h]
  have := same_err n n w hg
  rw [beq_self_eq_true] at this; exact this
end Go.Proofs.YtjmeakkmfeoigaaGreatDoor
namespace Go.Proofs.YtjmeakkmfeoigaaGreatDoor
open Go.ChangeShapes Go.WideShapes Go.ChangeAt Go.RowKit
def arrR (T : Nat → Int) (m : Int) : Array Value := #[.int .i64 (T 0), .int .i64 (T 1), .int .i64 (T 2), .int .i64 (T 3), .int .i64 (T 4), .int .i64 (T 5), .int .i64 (T 6), .int .i64 (T 7), .int .i64 m]
theorem arrR_get (T : Nat → Int) (m : Int) {f : Nat} (hf : f < 8) : (arrR T m)[f]? = some (.int .i64 (T f)) := by
 rcases eight hf with rfl | rfl | rfl | rfl | rfl | rfl | rfl | rfl <;> rfl
theorem arrR_set (T : Nat → Int) (m x : Int) {f : Nat} (hf : f < 8) : (arrR T m).setIfInBounds f (.int .i64 x) = arrR (fun g => if g = f then x else T g) m := by
 rcases eight hf with rfl | rfl | rfl | rfl | rfl | rfl | rfl | rfl <;> simp [arrR]
theorem arrR_most (T : Nat → Int) (m x : Int) : (arrR T m).setIfInBounds 8 (.int .i64 x) = arrR T x := by simp [arrR]
theorem arrR_same {N M : Nat → Int} (h : ∀ f, f < 8 → N f = M f) (m : Int) : arrR N m = arrR M m := by
 unfold arrR
 rw [h 0 (by omega), h 1 (by omega), h 2 (by omega), h 3 (by omega), h 4 (by omega), h 5 (by omega), h 6 (by omega), h 7 (by omega)]
theorem arrR_all (N M : Nat → Int) (n m : Int) : (((((((((arrR N n).setIfInBounds 0 (.int .i64 (M 0))).setIfInBounds 1 (.int .i64 (M 1))).setIfInBounds 2 (.int .i64 (M 2))).setIfInBounds 3 (.int .i64 (M 3))).setIfInBounds 4 (.int .i64 (M 4))).setIfInBounds 5 (.int .i64 (M 5))).setIfInBounds 6 (.int .i64 (M 6))).setIfInBounds 7 (.int .i64 (M 7))).setIfInBounds 8 (.int .i64 m) = arrR M m := by
 simp [arrR]
theorem Blk.cells9 {w : World} {G : Nat} {T : TypeId} {N : Nat → Int} {m : Int} (h : Blk w G T (arrR N m)) : w.cell? ⟨G, 0, none⟩ = some (.int .i64 (N 0)) ∧ w.cell? ⟨G, 1, none⟩ = some (.int .i64 (N 1)) ∧ w.cell? ⟨G, 2, none⟩ = some (.int .i64 (N 2)) ∧ w.cell? ⟨G, 3, none⟩ = some (.int .i64 (N 3)) ∧ w.cell? ⟨G, 4, none⟩ = some (.int .i64 (N 4)) ∧ w.cell? ⟨G, 5, none⟩ = some (.int .i64 (N 5)) ∧ w.cell? ⟨G, 6, none⟩ = some (.int .i64 (N 6)) ∧ w.cell? ⟨G, 7, none⟩ = some (.int .i64 (N 7)) ∧ w.cell? ⟨G, 8, none⟩ = some (.int .i64 m) :=
 ⟨h.cell 0, h.cell 1, h.cell 2, h.cell 3, h.cell 4, h.cell 5, h.cell 6, h.cell 7, h.cell 8⟩
theorem Blk.frozen9 {w : World} {G : Nat} {T : TypeId} {cs : Array Value} (h : Blk w G T cs) : w.frozen? ⟨G, 0, none⟩ = false ∧ w.frozen? ⟨G, 1, none⟩ = false ∧ w.frozen? ⟨G, 2, none⟩ = false ∧ w.frozen? ⟨G, 3, none⟩ = false ∧ w.frozen? ⟨G, 4, none⟩ = false ∧ w.frozen? ⟨G, 5, none⟩ = false ∧ w.frozen? ⟨G, 6, none⟩ = false ∧ w.frozen? ⟨G, 7, none⟩ = false ∧ w.frozen? ⟨G, 8, none⟩ = false :=
 ⟨h.frozen 0, h.frozen 1, h.frozen 2, h.frozen 3, h.frozen 4, h.frozen 5, h.frozen 6, h.frozen 7, h.frozen 8⟩
def putR (w : World) (R : Nat) (M : Nat → Int) (m : Int) : World := ((((((((w.setCell ⟨R, 0, none⟩ (.int .i64 (M 0))).setCell ⟨R, 1, none⟩ (.int .i64 (M 1))).setCell ⟨R, 2, none⟩ (.int .i64 (M 2))).setCell ⟨R, 3, none⟩ (.int .i64 (M 3))).setCell ⟨R, 4, none⟩ (.int .i64 (M 4))).setCell ⟨R, 5, none⟩ (.int .i64 (M 5))).setCell ⟨R, 6, none⟩ (.int .i64 (M 6))).setCell ⟨R, 7, none⟩ (.int .i64 (M 7))).setCell ⟨R, 8, none⟩ (.int .i64 m)
theorem putR_blk {w : World} {R : Nat} {T : TypeId} {N : Nat → Int} {n : Int} (h : Blk w R T (arrR N n)) (M : Nat → Int) (m : Int) : Blk (putR w R M m) R T (arrR M m) := by
 have := ((((((((h.set 0 (.int .i64 (M 0))).set 1 (.int .i64 (M 1))).set 2 (.int .i64 (M 2))).set 3 (.int .i64 (M 3))).set 4 (.int .i64 (M 4))).set 5 (.int .i64 (M 5))).set 6 (.int .i64 (M 6))).set 7 (.int .i64 (M 7))).set 8 (.int .i64 m)
 rw [arrR_all] at this
 exact this
theorem putR_far {w : World} {R : Nat} {G : Nat} {T : TypeId} {cs : Array Value} (h : Blk w G T cs) (hR : G ≠ R) (M : Nat → Int) (m : Int) : Blk (putR w R M m) G T cs :=
 ((((((((h.far hR 0 _).far hR 1 _).far hR 2 _).far hR 3 _).far hR 4 _).far hR 5 _).far hR 6 _).far hR 7 _).far hR 8 _
theorem putR_below {B : Nat} {w w' : World} {R : Nat} (h : Below B w w') (hR : B ≤ R) (M : Nat → Int) (m : Int) : Below B w (putR w' R M m) :=
 ((((((((h.setCell hR _).setCell hR _).setCell hR _).setCell hR _).setCell hR _).setCell hR _).setCell hR _).setCell hR _).setCell hR _
theorem loadR {W : World} {R : Nat} {N : Nat → Int} {m : Int} (h : Blk W R 183 (arrR N m)) : (loadVar 183 ⟨R, 0, none⟩).run Tryz.prog W = .ok (.agg (arrR N m)) W := by
 have hl := run_loadCells_list (P := Tryz.prog) W ⟨R, 0, none⟩ (arrR N m).toList (fun j v hj => by
  have := h.cell j
  rw [← Array.getElem?_toList] at this
  rw [hj] at this
  have ha : (⟨R, 0, none⟩ : Addr).add j = ⟨R, j, none⟩ := by unfold Addr.add; split <;> simp_all
  rw [ha]; exact this)
 simp [loadVar, Tryz.isAgg183, Tryz.sizeOf183, Result.andThen, arrR] at hl ⊢
 simp [hl]
theorem infoR : (Tryz.prog.info? 183).map (·.size) = some 9 := by kernel_rfl
end Go.Proofs.YtjmeakkmfeoigaaGreatDoor