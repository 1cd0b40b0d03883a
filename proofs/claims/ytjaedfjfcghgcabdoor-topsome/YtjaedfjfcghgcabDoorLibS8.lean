/-
  Proved: what atom.Check (and checkSecond) returns, of any atom, where the table of kinds lies as the program's text lays it; what was in memory is as it was (a contract that the statements lean on).
  Proved: what form.Check returns, of any atoms and any row of signs; what was in memory is as it was (a contract that the statements lean on).
  Rows of booleans in memory (facts that the contracts lean on).
  Proved: what term.work returns, of a right term and a right world: the set that the pile comes to; what was in memory is as it was (a contract that the statements lean on).
  Proved: what form.made and form.work return, of a right Code and which atoms hold; what was in memory is as it was (contracts that the statements lean on).
-/
import Derived.Test.YtjaedfjfcghgcabDoorLibS6
import Derived.Test.YtjaedfjfcghgcabDoorLibS2
import Derived.Deep.Cut
import Derived.OwnWalk
import Derived.Deep.RegionWith
import Derived.Laws.OwnMore
import Derived.Deep.RegionHeld3
import Derived.Deep.AppendLies
namespace Go.Proofs.YtjaedfjfcghgcabDoor
open Go.ChangeShapes Go.WideShapes Go.ChangeAt Go.RowKit

/-- the cells of the table of kinds. -/
def kindCells : List Value := [.string ⟨#[]⟩, .bool false, .bool false, .string ⟨#[115, 117, 98]⟩, .bool true, .bool false, .string ⟨#[115, 97, 109, 101]⟩, .bool true, .bool false, .string ⟨#[108, 101, 97, 115, 116]⟩, .bool false, .bool true, .string ⟨#[109, 111, 115, 116]⟩, .bool false, .bool true, .string ⟨#[110, 111, 109, 111, 114, 101]⟩, .bool true, .bool true]
/-- the table lies as it was laid. -/
def KindsLaid (w : World) : Prop := ∀ j, j < 18 → w.cell? ⟨0, j, none⟩ = some (kindCells.getD j .nilIface)
theorem KindsLaid.lt {w : World} (h : KindsLaid w) : 0 < w.heap.size := World.block_lt_of_cell? w ⟨0, 0, none⟩ (h 0 (by decide))
theorem KindsLaid.at {K : Nat} {w w' : World} (h : KindsLaid w) (hb : Below K w w') (hK : w.heap.size ≤ K) : KindsLaid w' := fun j hj => by
  rw [hb.cell (p := ⟨0, j, none⟩) (Nat.lt_of_lt_of_le h.lt hK)]; exact h j hj
theorem KindsLaid.below {w w' : World} (h : KindsLaid w) (hb : Below w.heap.size w w') : KindsLaid w' := h.at hb (Nat.le_refl _)

theorem Reads.slice {w : World} {v : Value} {t : List Int} (h : Reads w v t) : ∃ ao cap, v = .slice ao t.length cap ∧ t.length ≤ 9223372036854775807 := by
  rcases h with ⟨ao, cap, rfl, rfl⟩ | ⟨b, off, cap, rfl, _, _, h, _⟩
  · exact ⟨ao, cap, rfl, by simp⟩
  · exact ⟨_, cap, rfl, h.1⟩
theorem errV_0 : errV 0 = .nilIface := rfl

set_option maxRecDepth 100000
/-- what a kind has, in the table. -/
theorem kind_has {W : World} (h : KindsLaid W) {k : Nat} (h1 : 0 < k) (h6 : k < 6) : W.cell? ⟨0, k * 3 + 1, none⟩ = some (.bool (secondB k)) ∧ W.cell? ⟨0, k * 3 + 2, none⟩ = some (.bool (numberB k)) := by
  rcases (by omega : k = 1 ∨ k = 2 ∨ k = 3 ∨ k = 4 ∨ k = 5) with rfl | rfl | rfl | rfl | rfl <;> exact ⟨h _ (by decide), h _ (by decide)⟩
theorem csecond_in (k : Nat) (h6 : k < 6) (n : Int) (sao tao : Option Addr) (sl scap tl tcap : Nat) (b : Bool) (E : Value) (w : World) (hl : tl ≤ 9223372036854775807)
    (hq : ∀ W, Below w.heap.size w W → W.cell? ⟨0, k * 3 + 1, none⟩ = some (.bool b))
    (HC : Hid (b = true → ∀ W, Below w.heap.size w W → Calls Tryd.prog 44 #[.slice tao tl tcap] W fun e w' => e = .returned E ∧ W = w'))
    (HE : Hid (b = false → E = errV (if 0 < tl then 3 else 0))) :
    Calls Tryd.prog 45 #[.agg #[.int .i64 (k : Int), .slice sao sl scap, .slice tao tl tcap, .int .i64 n]] w fun e w' => e = .returned E ∧ Below w.heap.size w w' := by
  obtain ⟨w1, hw1⟩ : ∃ w1, w1 = w.alloc (.cells #[.int .i64 (k : Int), .slice sao sl scap, .slice tao tl tcap, .int .i64 n] 45) := ⟨_, rfl⟩
  have HB : Hid (Below w.heap.size w w1) := by unfold Hid; rw [hw1]; exact below_alloc1 w _
  have q := hq w1 HB.out
  obtain ⟨x0, x2⟩ : w1.cell? ⟨w.heap.size, 0, none⟩ = some (.int .i64 (k : Int)) ∧ w1.cell? ⟨w.heap.size, 2, none⟩ = some (.slice tao tl tcap) := by rw [hw1]; simp
  clear hq
  cases b
  · have he := HE.out rfl
    by_cases h : 0 < tl
    · rw [if_pos h] at he
      subst he
      go_enter Tryd.func45, Tryd.ntmps45
      go_upto_region 1 with fail
      rw [← hw1]
      clear hw1
      go_wp2
      go_ret
      exact ⟨rfl, HB.out⟩
    · rw [if_neg h] at he
      subst he
      obtain rfl : tl = 0 := by omega
      go_enter Tryd.func45, Tryd.ntmps45
      go_upto_region 1 with fail
      rw [← hw1]
      clear hw1
      go_wp2
      go_ret
      exact ⟨rfl, HB.out⟩
  · have HC' : Hid (Calls Tryd.prog 44 #[.slice tao tl tcap] w1 fun e w' => e = .returned E ∧ w1 = w') := HC.out rfl w1 HB.out
    go_enter Tryd.func45, Tryd.ntmps45
    go_upto_region 1 with fail
    rw [← hw1]
    clear hw1
    go_wp2_with (go_at_call 44; refine HC'.out.mono ?_; rintro e w' ⟨rfl, rfl⟩)
    go_ret
    exact ⟨rfl, HB.out⟩
theorem csecond_any (k n : Int) (vs vt : Value) (s t : List Int) (w : World) (hk : 1 ≤ k ∧ k ≤ 5) (hS : Reads w vs s) (hT : Reads w vt t) (hK : KindsLaid w) :
    Calls Tryd.prog 45 #[.agg #[.int .i64 k, vs, vt, .int .i64 n]] w fun e w' => e = .returned (errV (secondFault k t)) ∧ Below w.heap.size w w' := by
  obtain ⟨k, rfl⟩ := Int.eq_ofNat_of_zero_le (show 0 ≤ k by omega)
  have hC := fun W (hW : Below w.heap.size w W) => tcheck_any t vt W (hT.below hW)
  obtain ⟨sao, scap, rfl, _⟩ := hS.slice
  obtain ⟨tao, tcap, rfl, hl⟩ := hT.slice
  refine csecond_in k (by omega) n sao tao _ scap _ tcap (secondB k) _ w hl (fun W hW => (kind_has (hK.below hW) (by omega) (by omega)).1) (fun hb W hW => ?_) fun hb => ?_
  · have e : secondFault (k : Int) t = faultN t := by unfold secondFault; rw [if_pos hb]
    rw [e]; exact hC W hW
  · unfold secondFault; rw [hb]; rfl
theorem acheck_kind (k : Int) (n : Int) (sao tao : Option Addr) (sl scap tl tcap : Nat) (w : World) (hk : ¬ (1 ≤ k ∧ k ≤ 5)) :
    Calls Tryd.prog 30 #[.agg #[.int .i64 k, .slice sao sl scap, .slice tao tl tcap, .int .i64 n]] w fun e w' => e = .returned (.iface 58 (.int .i64 1)) ∧ Below w.heap.size w w' := by
  have HB : Hid (Below w.heap.size w (w.alloc (.cells #[.int .i64 k, .slice sao sl scap, .slice tao tl tcap, .int .i64 n] 45))) := below_alloc1 w _
  by_cases h : k < 1
  · clear hk
    go_enter Tryd.func30, Tryd.ntmps30
    go_wp2
    go_ret
    exact ⟨rfl, HB.out⟩
  · have h5 : 5 < k := by omega
    clear hk
    go_enter Tryd.func30, Tryd.ntmps30
    go_wp2
    go_ret
    exact ⟨rfl, HB.out⟩
theorem acheck_in (k : Nat) (h1 : 0 < k) (h6 : k < 6) (n : Int) (sao tao : Option Addr) (sl scap tl tcap : Nat) (b : Bool) (F1 F2 : Int) (w : World)
    (hq : ∀ W, Below w.heap.size w W → W.cell? ⟨0, k * 3 + 2, none⟩ = some (.bool b))
    (HC : Hid (∀ W, Below w.heap.size w W → Calls Tryd.prog 44 #[.slice sao sl scap] W fun e w' => e = .returned (errV F1) ∧ W = w'))
    (HS : Hid (∀ W, Below w.heap.size w W → Calls Tryd.prog 45 #[.agg #[.int .i64 (k : Int), .slice sao sl scap, .slice tao tl tcap, .int .i64 n]] W fun e w' => e = .returned (errV F2) ∧ Below W.heap.size W w')) :
    Calls Tryd.prog 30 #[.agg #[.int .i64 (k : Int), .slice sao sl scap, .slice tao tl tcap, .int .i64 n]] w fun e w' => e = .returned (errV (if F1 = 0 then (if F2 = 0 then (if - (if b = true then 20 else 0) ≤ n ∧ n ≤ (if b = true then 20 else 0) then 0 else 1) else F2) else F1)) ∧ Below w.heap.size w w' := by
  obtain ⟨w1, hw1⟩ : ∃ w1, w1 = w.alloc (.cells #[.int .i64 (k : Int), .slice sao sl scap, .slice tao tl tcap, .int .i64 n] 45) := ⟨_, rfl⟩
  have HB : Hid (Below w.heap.size w w1) := by unfold Hid; rw [hw1]; exact below_alloc1 w _
  have HQ : Hid (∀ W, Below w1.heap.size w1 W → W.cell? ⟨0, k * 3 + 2, none⟩ = some (.bool b)) := fun W hW => hq W (HB.out.trans (hW.mono HB.out.size))
  have HX : Hid (∀ W, Below w1.heap.size w1 W → W.cell? ⟨w.heap.size, 0, none⟩ = some (.int .i64 (k : Int)) ∧ W.cell? ⟨w.heap.size, 1, none⟩ = some (.slice sao sl scap) ∧ W.cell? ⟨w.heap.size, 2, none⟩ = some (.slice tao tl tcap) ∧ W.cell? ⟨w.heap.size, 3, none⟩ = some (.int .i64 n)) := fun W hW => by
    have hl : w.heap.size < w1.heap.size := by rw [hw1]; simp
    refine ⟨(hW.cell hl).trans ?_, (hW.cell hl).trans ?_, (hW.cell hl).trans ?_, (hW.cell hl).trans ?_⟩ <;> (rw [hw1]; simp)
  have HC1 : Hid (Calls Tryd.prog 44 #[.slice sao sl scap] w1 fun e w' => e = .returned (errV F1) ∧ w1 = w') := HC.out w1 HB.out
  have HS1 : Hid (Calls Tryd.prog 45 #[.agg #[.int .i64 (k : Int), .slice sao sl scap, .slice tao tl tcap, .int .i64 n]] w1 fun e w' => e = .returned (errV F2) ∧ Below w1.heap.size w1 w') := HS.out w1 HB.out
  obtain ⟨x0, x1, x2, x3⟩ := HX.out w1 (Below.refl _ _)
  obtain ⟨M, hM⟩ : ∃ M : Int, M = if b = true then 20 else 0 := ⟨_, rfl⟩
  rw [← hM]
  obtain ⟨R, hR⟩ : ∃ R, R = errV (if F1 = 0 then (if F2 = 0 then (if - M ≤ n ∧ n ≤ M then 0 else 1) else F2) else F1) := ⟨_, rfl⟩
  rw [← hR]
  have HR : Hid (R = errV (if F1 = 0 then (if F2 = 0 then (if - M ≤ n ∧ n ≤ M then 0 else 1) else F2) else F1)) := hR
  clear hq HC HS hR
  go_enter Tryd.func30, Tryd.ntmps30
  go_upto_region 1 with fail
  rw [← hw1]
  clear hw1
  go_wp2_with fail
  go_at_call 44
  refine HC1.out.mono ?_
  rintro e w' ⟨rfl, rfl⟩
  by_cases e1 : F1 = 0
  · have H1 : Hid (F1 = 0) := e1
    rw [show errV F1 = .nilIface by rw [e1]; rfl]
    clear e1
    go_wp2_with fail
    go_at_call 45
    refine HS1.out.mono ?_
    rintro e w2 ⟨rfl, hb⟩
    have HB2 : Hid (Below w.heap.size w w2) := HB.out.trans (hb.mono HB.out.size)
    have q := HQ.out w2 hb
    clear x0 x1 x2 x3
    obtain ⟨x0, x1, x2, x3⟩ := HX.out w2 hb
    clear hb
    by_cases e2 : F2 = 0
    · have H2 : Hid (F2 = 0) := e2
      rw [show errV F2 = .nilIface by rw [e2]; rfl]
      clear e2
      have H3 : Hid (R = errV (if - M ≤ n ∧ n ≤ M then 0 else 1)) := by unfold Hid; rw [HR.out, if_pos H1.out, if_pos H2.out]
      clear HR H1 H2
      by_cases g1 : n < - M
      · have H4 : Hid (.iface 58 (.int .i64 1) = R) := by unfold Hid; rw [H3.out, if_neg (by omega)]; rfl
        cases b <;> (simp at hM; subst hM; go_wp2; go_ret; exact ⟨back_v H4.out, HB2.out⟩)
      by_cases g2 : M < n
      · have H4 : Hid (.iface 58 (.int .i64 1) = R) := by unfold Hid; rw [H3.out, if_neg (by omega)]; rfl
        cases b <;> (simp at hM; subst hM; go_wp2; go_ret; exact ⟨back_v H4.out, HB2.out⟩)
      · have H4 : Hid (.nilIface = R) := by unfold Hid; rw [H3.out, if_pos (by omega)]; rfl
        cases b <;> (simp at hM; subst hM; go_wp2; go_ret; exact ⟨back_v H4.out, HB2.out⟩)
    · have H4 : Hid (.iface 58 (.int .i64 F2) = R) := by unfold Hid; rw [HR.out, if_pos H1.out, if_neg e2, errV_no e2]
      rw [errV_no e2]
      clear e2 hM
      go_wp2
      go_ret
      exact ⟨back_v H4.out, HB2.out⟩
  · have H4 : Hid (.iface 58 (.int .i64 F1) = R) := by unfold Hid; rw [HR.out, if_neg e1, errV_no e1]
    rw [errV_no e1]
    clear e1 hM
    go_wp2
    go_ret
    exact ⟨back_v H4.out, HB.out⟩
/-- Check, whatever the atom. -/
theorem acheck_any (k n : Int) (vs vt : Value) (s t : List Int) (w : World) (hS : Reads w vs s) (hT : Reads w vt t) (hK : KindsLaid w) :
    Calls Tryd.prog 30 #[.agg #[.int .i64 k, vs, vt, .int .i64 n]] w fun e w' => e = .returned (errV (atomFault k s t n)) ∧ Below w.heap.size w w' := by
  have hC := fun W (hW : Below w.heap.size w W) => tcheck_any s vs W (hS.below hW)
  have hS2 := fun h W (hW : Below w.heap.size w W) => csecond_any k n vs vt s t W h (hS.below hW) (hT.below hW) (hK.below hW)
  obtain ⟨sao, scap, rfl, _⟩ := hS.slice
  obtain ⟨tao, tcap, rfl, hl⟩ := hT.slice
  by_cases hk : 1 ≤ k ∧ k ≤ 5
  · unfold atomFault mostN
    rw [if_pos hk]
    obtain ⟨k, rfl⟩ := Int.eq_ofNat_of_zero_le (show 0 ≤ k by omega)
    exact acheck_in k (by omega) (by omega) n sao tao _ scap _ tcap (numberB k) _ _ w (fun W hW => (kind_has (hK.below hW) (by omega) (by omega)).2) hC (hS2 hk)
  · rw [atomFault_kind hk, errV_no (by decide)]
    exact acheck_kind k n sao tao _ scap _ tcap w hk
end Go.Proofs.YtjaedfjfcghgcabDoor

namespace Go.Proofs.YtjaedfjfcghgcabDoor
open Go.ChangeShapes Go.WideShapes Go.ChangeAt Go.RowKit
set_option maxRecDepth 100000

/-- behind k right atoms. -/
theorem firstFault_drop (ats : List At) {k : Nat} {a : At} (ha : ats[k]? = some a) : firstFault (ats.drop k) = if a.fault = 0 then firstFault (ats.drop (k + 1)) else a.fault := by
  obtain ⟨hk, rfl⟩ := List.getElem?_eq_some_iff.1 ha
  rw [List.drop_eq_getElem_cons hk]; rfl

/-- where there is no atom, or no sign. -/
theorem fcheck_none (va vc : Value) (ats : List At) (c : List Int) (w : World) (hA : ReadsA w va ats) (hC : Reads w vc c) (h0 : ats.length = 0 ∨ c.length = 0) :
    Calls Tryd.prog 17 #[.agg #[va, vc]] w fun e w' => e = .returned (.iface 58 (.int .i64 5)) ∧ Below w.heap.size w w' := by
  obtain ⟨ao, acap, rfl, hal⟩ := hA.slice
  obtain ⟨co, ccap, rfl, hcl⟩ := hC.slice
  clear hA hC
  obtain ⟨m, hm⟩ : ∃ m, m = ats.length := ⟨_, rfl⟩
  obtain ⟨n, hn⟩ : ∃ n, n = c.length := ⟨_, rfl⟩
  rw [← hm] at h0 hal ⊢
  rw [← hn] at h0 hcl ⊢
  clear hm hn
  rcases h0 with rfl | rfl
  · go_enter Tryd.func17, Tryd.ntmps17
    go_wp2
    go_ret
    exact ⟨rfl, below_alloc1 _ _⟩
  · by_cases h1 : m = 0
    · subst h1
      go_enter Tryd.func17, Tryd.ntmps17
      go_wp2
      go_ret
      exact ⟨rfl, below_alloc1 _ _⟩
    · have h1' : ¬ ((m : Int) = 0) := by omega
      go_enter Tryd.func17, Tryd.ntmps17
      go_wp2
      go_ret
      exact ⟨rfl, below_alloc1 _ _⟩
/-- where there are too many. -/
theorem fcheck_full (va vc : Value) (ats : List At) (c : List Int) (w : World) (hA : ReadsA w va ats) (hC : Reads w vc c) (h0 : ¬ (ats.length = 0 ∨ c.length = 0)) (h1 : 6 < ats.length ∨ 20 < c.length) :
    Calls Tryd.prog 17 #[.agg #[va, vc]] w fun e w' => e = .returned (.iface 58 (.int .i64 4)) ∧ Below w.heap.size w w' := by
  obtain ⟨ao, acap, rfl, hal⟩ := hA.slice
  obtain ⟨co, ccap, rfl, hcl⟩ := hC.slice
  clear hA hC
  obtain ⟨m, hm⟩ : ∃ m, m = ats.length := ⟨_, rfl⟩
  obtain ⟨n, hn⟩ : ∃ n, n = c.length := ⟨_, rfl⟩
  rw [← hm] at h0 h1 hal ⊢
  rw [← hn] at h0 h1 hcl ⊢
  clear hm hn
  have hm' : ((m : Int) == 0) = false := by simp; omega
  have hn' : ((n : Int) == 0) = false := by simp; omega
  have HT : Hid (∀ W, Calls Tryd.prog 29 #[.int .i64 m, .int .i64 n] W fun e w' => e = .returned (.bool true) ∧ W = w') := fun W => by
    have := tooMany_any m n W
    rw [show (decide (6 < (m : Int)) || decide (20 < (n : Int))) = true by simp; omega] at this
    exact this
  clear h0 h1
  go_enter Tryd.func17, Tryd.ntmps17
  go_wp2_with fail
  go_at_call 29
  refine (HT.out _).mono ?_
  rintro e w' ⟨rfl, rfl⟩
  go_wp2
  go_ret
  exact ⟨rfl, below_alloc1 _ _⟩

theorem fcheck_rest (ao co : Option Addr) (acap ccap : Nat) (ats : List At) (c : List Int) (w : World) (hA : ReadsA w (.slice ao ats.length acap) ats) (hC : Reads w (.slice co c.length ccap) c) (hK : KindsLaid w) (h0 : ¬ (ats.length = 0 ∨ c.length = 0)) (h1 : ¬ (6 < ats.length ∨ 20 < c.length)) :
    Calls Tryd.prog 17 #[.agg #[.slice ao ats.length acap, .slice co c.length ccap]] w fun e w' => e = .returned (errV (formFault ats c)) ∧ Below w.heap.size w w' := by
  obtain ⟨w1, hw1⟩ : ∃ w1, w1 = w.alloc (.cells #[.slice ao ats.length acap, .slice co c.length ccap] 25) := ⟨_, rfl⟩
  have HB1 : Hid (Below w.heap.size w w1) := by unfold Hid; rw [hw1]; exact below_alloc1 w _
  have HS1 : Hid (w1.heap.size = w.heap.size + 1) := by unfold Hid; rw [hw1]; simp
  have HX : Hid (w1.cell? ⟨w.heap.size, 0, none⟩ = some (.slice ao ats.length acap) ∧ w1.cell? ⟨w.heap.size, 1, none⟩ = some (.slice co c.length ccap)) := by
    unfold Hid; rw [hw1]; simp
  have HA : Hid (ReadsA w1 (.slice ao ats.length acap) ats) := hA.below HB1.out
  have HC : Hid (Reads w1 (.slice co c.length ccap) c) := hC.below HB1.out
  have HK : Hid (KindsLaid w1) := hK.below HB1.out
  clear hA hC hK
  have HF : Hid (formFault ats c = if firstFault ats = 0 then (if c.all (signF ats.length) = true then (if cntF c 0 = some 1 then 0 else 3) else 1) else firstFault ats) := by
    unfold Hid formFault; rw [if_neg h0, if_neg h1]
  obtain ⟨m, hm⟩ : ∃ m, m = ats.length := ⟨_, rfl⟩
  obtain ⟨n, hn⟩ : ∃ n, n = c.length := ⟨_, rfl⟩
  rw [← hm] at h0 h1 hw1 HX HA HF ⊢
  rw [← hn] at h0 h1 hw1 HX HC ⊢
  have HM : Hid (m = ats.length) := hm
  have HN : Hid (n = c.length) := hn
  clear hm hn
  have hm' : ((m : Int) == 0) = false := by simp; omega
  have hn' : ((n : Int) == 0) = false := by simp; omega
  have hm6 : m ≤ 6 := by omega
  have hn20 : n ≤ 20 := by omega
  have HT : Hid (∀ W, Calls Tryd.prog 29 #[.int .i64 m, .int .i64 n] W fun e w' => e = .returned (.bool false) ∧ W = w') := fun W => by
    have := tooMany_any m n W
    rw [show (decide (6 < (m : Int)) || decide (20 < (n : Int))) = false by simp; omega] at this
    exact this
  clear h0 h1
  have x0 := HX.out.1
  have x1 := HX.out.2
  go_enter Tryd.func17, Tryd.ntmps17
  go_wp2_with fail
  rw [← hw1]
  clear hw1
  go_wp2_with fail
  go_at_call 29
  refine (HT.out _).mono ?_
  rintro e w' ⟨rfl, rfl⟩
  go_wp2
  go_loopw [29] (fun i wr => ∃ k : Nat, k ≤ m ∧ i = .int .i64 k ∧ Below w1.heap.size w1 wr ∧ firstFault (ats.drop k) = firstFault ats) (fun i _ => m - (intOf i).toNat)
  case atStart => exact ⟨0, Nat.zero_le _, rfl, Below.refl _ _, rfl⟩
  case round =>
    obtain ⟨k, hk, rfl, hbel, hff⟩ := hrel
    have HF0 : Hid (firstFault (ats.drop k) = firstFault ats) := hff
    have HB : Hid (Below w1.heap.size w1 wr) := hbel
    clear hff hbel
    by_cases hlt : k < m
    · obtain ⟨a, ha⟩ : ∃ a, ats[k]? = some a := ⟨_, List.getElem?_eq_getElem (by have := HM.out; omega)⟩
      have HFF : Hid (firstFault ats = if a.fault = 0 then firstFault (ats.drop (k + 1)) else a.fault) := by
        unfold Hid; rw [← HF0.out, firstFault_drop ats ha]
      rcases HA.out.below HB.out with ⟨_, _, hv, hn⟩ | ⟨b, off, cap, hv, hb, _, _, hall⟩
      · have := HM.out; rw [hn] at this; simp at this; omega
      obtain rfl : ao = some ⟨b, off, none⟩ := by cases hv; rfl
      obtain ⟨vs, vt, c0, c1, c2, c3, r1, r2⟩ := hall k a ha
      obtain ⟨sao, scap, rfl, _⟩ := r1.slice
      obtain ⟨tao, tcap, rfl, _⟩ := r2.slice
      clear hv hall
      obtain ⟨w2, hw2⟩ : ∃ w2, w2 = wr.alloc (.cells #[.int .i64 a.k, .slice sao a.s.length scap, .slice tao a.t.length tcap, .int .i64 a.n] 45) := ⟨_, rfl⟩
      have HB2 : Hid (Below wr.heap.size wr w2) := by unfold Hid; rw [hw2]; exact below_alloc1 wr _
      have HCk : Hid (Calls Tryd.prog 30 #[.agg #[.int .i64 a.k, .slice sao a.s.length scap, .slice tao a.t.length tcap, .int .i64 a.n]] w2 fun e w' => e = .returned (errV a.fault) ∧ Below w2.heap.size w2 w') :=
        acheck_any a.k a.n _ _ a.s a.t w2 (r1.below HB2.out) (r2.below HB2.out) ((HK.out.below HB.out).below HB2.out)
      clear r1 r2
      go_wp2_with fail
      rw [← hw2]
      clear hw2
      go_at_call 30
      refine HCk.out.mono ?_
      rintro e w3 ⟨rfl, hb3⟩
      have HB3 : Hid (Below w1.heap.size w1 w3) := (HB.out.trans (HB2.out.mono HB.out.size)).trans (hb3.mono (Nat.le_trans HB.out.size HB2.out.size))
      clear hb3 HCk
      by_cases hf : a.fault = 0
      · have HD : Hid (firstFault (ats.drop (k + 1)) = firstFault ats) := by
          have := HFF.out
          rw [if_pos hf] at this
          exact this.symm
        rw [hf, errV_0]
        go_wp2
        go_roundw
        case rel => exact ⟨k + 1, by omega, by go_num, HB3.out, HD.out⟩
        case measure => simp [intOf]; omega
      · have HE : Hid (formFault ats c = a.fault) := by
          have := HFF.out
          rw [if_neg hf] at this
          unfold Hid; rw [HF.out, this, if_neg hf]
        rw [errV_no hf]
        go_wp2
        go_ret
        refine ⟨back_v ?_, HB1.out.trans (HB3.out.mono HB1.out.size)⟩
        rw [HE.out, errV_no hf]
        rfl
    · have HE : Hid (firstFault ats = 0) := by
        have := HF0.out
        rw [List.drop_eq_nil_of_le (by have := HM.out; omega)] at this
        exact this.symm
      have hlt0 : w.heap.size < w1.heap.size := by have := HS1.out; omega
      have y0 : wr.cell? ⟨w.heap.size, 0, none⟩ = some (.slice ao m acap) := by rw [HB.out.cell hlt0]; exact HX.out.1
      have y1 : wr.cell? ⟨w.heap.size, 1, none⟩ = some (.slice co n ccap) := by rw [HB.out.cell hlt0]; exact HX.out.2
      rcases HC.out.below HB.out with ⟨_, _, hv, hcn⟩ | ⟨b, off, cap, hv, hb, _, ⟨hl63, _⟩, hc⟩
      · have := HN.out; rw [hcn] at this; simp at this; subst this; simp at hn'
      obtain rfl : co = some ⟨b, off, none⟩ := by cases hv; rfl
      clear hv
      have cF := fcontainsFunc_any m acap w.heap.size ao b off ccap c wr hl63 y0 hc
      have cO := fisOne_any b off ccap c wr (by have := HN.out; omega) hc
      rw [← HN.out] at cF cO
      obtain ⟨x, hx⟩ : ∃ x, x = c.all (signF m) := ⟨_, rfl⟩
      obtain ⟨y, hy⟩ : ∃ y, y = decide (cntF c 0 = some 1) := ⟨_, rfl⟩
      rw [← hx] at cF
      rw [← hy] at cO
      have HF' : Hid (formFault ats c = if x = true then (if y = true then 0 else 3) else 1) := by
        unfold Hid; rw [HF.out, HE.out, hx, hy]; simp only [decide_eq_true_eq, if_true]
      clear hx hy hc hlt0 hl63 hb
      have HP : Hid (Calls Tryd.prog 33 #[.slice (some ⟨b, off, none⟩) n ccap, .func (.func 31) #[] #[.pointer (some ⟨w.heap.size, 0, none⟩)]] wr fun e w' => e = .returned (.bool (!x)) ∧ wr = w') := cF
      have HQ : Hid (Calls Tryd.prog 34 #[.slice (some ⟨b, off, none⟩) n ccap] wr fun e w' => e = .returned (.bool y) ∧ wr = w') := cO
      clear cF cO
      have HEnd : Hid (Below w.heap.size w wr) := HB1.out.trans (HB.out.mono HB1.out.size)
      cases x
      · go_wp2_with (go_at_call 33; refine HP.out.mono ?_; rintro e w' ⟨rfl, rfl⟩)
        go_ret
        exact ⟨back_v (by rw [HF'.out]; rfl), HEnd.out⟩
      · cases y
        all_goals
          go_wp2_with (first | (go_at_call 33; refine HP.out.mono ?_; rintro e w' ⟨rfl, rfl⟩) | (go_at_call 34; refine HQ.out.mono ?_; rintro e w' ⟨rfl, rfl⟩))
          go_ret
          exact ⟨back_v (by rw [HF'.out]; rfl), HEnd.out⟩

/-- Check, whatever the formula. -/
theorem fcheck_any (va vc : Value) (ats : List At) (c : List Int) (w : World) (hA : ReadsA w va ats) (hC : Reads w vc c) (hK : KindsLaid w) :
    Calls Tryd.prog 17 #[.agg #[va, vc]] w fun e w' => e = .returned (errV (formFault ats c)) ∧ Below w.heap.size w w' := by
  by_cases h0 : ats.length = 0 ∨ c.length = 0
  · have e : formFault ats c = 5 := by unfold formFault; rw [if_pos h0]
    rw [e]
    exact fcheck_none va vc ats c w hA hC h0
  by_cases h1 : 6 < ats.length ∨ 20 < c.length
  · have e : formFault ats c = 4 := by unfold formFault; rw [if_neg h0, if_pos h1]
    rw [e]
    exact fcheck_full va vc ats c w hA hC h0 h1
  obtain ⟨ao, acap, rfl, _⟩ := hA.slice
  obtain ⟨co, ccap, rfl, _⟩ := hC.slice
  exact fcheck_rest ao co acap ccap ats c w hA hC hK h0 h1
end Go.Proofs.YtjaedfjfcghgcabDoor

namespace Go.Proofs.YtjaedfjfcghgcabDoor
open Go.ChangeShapes Go.WideShapes Go.ChangeAt Go.RowKit
set_option maxRecDepth 100000

theorem infoBool : (Tryd.prog.info? 4).map (fun i => (i.zero, i.size, i.bytes)) = some (some (.bool false), 1, 1) := by kernel_rfl

/-- the slice v reads, in the world w, as these booleans. -/
def ReadsB (w : World) (b off : Nat) (hs : List Bool) : Prop := b < w.heap.size ∧ ∀ k, k < hs.length → w.cell? ⟨b, off + k, none⟩ = some (.bool (hs.getD k false))

end Go.Proofs.YtjaedfjfcghgcabDoor

namespace Go.Proofs.YtjaedfjfcghgcabDoor
open Go.ChangeShapes Go.WideShapes Go.ChangeAt Go.RowKit

theorem infoInt : (Tryd.prog.info? 3).map (fun i => (i.zero, i.size, i.bytes)) = some (some (.int .i64 0), 1, 8) := by kernel_rfl

theorem ownsRow_below {w w' : World} {base : Nat} {e : TypeId} {size : Nat} {v : Value} {n : Nat} {xs : List Value} (h : w.ownsRow base e size v n xs) (hb : Below w.heap.size w w') : w'.ownsRow base e size v n xs := by
  obtain ⟨h1, h2⟩ := h
  refine ⟨h1, ?_⟩
  rcases h2 with h2 | ⟨g, cap, cur, hv, hg, hh, r⟩
  · exact .inl h2
  · refine .inr ⟨g, cap, cur, hv, hg, ?_, r⟩
    rw [hb.block g (Array.getElem?_eq_some_iff.1 hh).1]; exact hh
theorem ownsRow_take {w : World} {base : Nat} {e : TypeId} {g cap n r : Nat} {xs : List Value} (h : w.ownsRow base e 1 (.slice (some ⟨g, 0, none⟩) n cap) n xs) (hr : r ≤ n) : w.ownsRow base e 1 (.slice (some ⟨g, 0, none⟩) r cap) r (xs.take r) := by
  obtain ⟨h1, h2⟩ := h
  rcases h2 with ⟨h0, _⟩ | ⟨g', cap', cur, hv, hg, hh, hn, hcap, hsz, htake⟩
  · cases h0
  · cases hv
    refine ⟨by rw [List.length_take]; omega, .inr ⟨g, cap, cur, rfl, hg, hh, by omega, hcap, hsz, ?_⟩⟩
    rw [← htake, List.take_take]
    congr 1
    omega
/-- an owned row of numbers: its cells. -/
theorem ownsRow_int {w : World} {base : Nat} {e : TypeId} {g cap : Nat} {p : List Int} (h : w.ownsRow base e 1 (.slice (some ⟨g, 0, none⟩) p.length cap) p.length (p.map (Value.int .i64))) {j : Nat} (hj : j < p.length) : w.cell? ⟨g, j, none⟩ = some (.int .i64 (p.getD j 0)) := by
  rw [h.cellAt j (by omega)]
  simp [List.getElem?_eq_getElem hj]
theorem ownsRow_block {w : World} {base : Nat} {e : TypeId} {size g n cap : Nat} {xs : List Value} (h : w.ownsRow base e size (.slice (some ⟨g, 0, none⟩) n cap) n xs) : base ≤ g ∧ g < w.heap.size ∧ n ≤ cap := by
  rcases h.2 with ⟨h0, _⟩ | ⟨g', cap', cur, hv, hg, hh, hn, _⟩
  · cases h0
  · cases hv
    exact ⟨hg, (Array.getElem?_eq_some_iff.1 hh).1, hn⟩

theorem step_leaf (w : Wd) (p : List Int) (s : Int) (h : s ≤ 4) : w.step p s = p.take p.length ++ [w.made s []] := by
  unfold Wd.step restN
  rw [takes5 s (by omega), made_leaf w s _ h]; rfl
theorem step_one (w : Wd) (p : List Int) (h : 1 ≤ p.length) : w.step p 8 = p.take (p.length - 1) ++ [doN 8 w.u (p.getD (p.length - 1) 0) (p.getD (p.length - 1) 0)] := by
  unfold Wd.step restN
  rw [takes1, made_do w 8 _ (by omega)]
  have e : (p.drop (p.length - 1)) = [p.getD (p.length - 1) 0] := by
    rw [List.drop_eq_getElem_cons (by omega), List.drop_eq_nil_of_le (by omega)]
    simp [List.getElem?_eq_getElem (show p.length - 1 < p.length by omega)]
  simp only [show (1 : Int).toNat = 1 from rfl, e]; rfl
theorem step_two (w : Wd) (p : List Int) (s : Int) (h5 : 5 ≤ s) (h7 : s ≤ 7) (h : 2 ≤ p.length) : w.step p s = p.take (p.length - 2) ++ [doN s w.u (p.getD (p.length - 2) 0) (p.getD (p.length - 2 + 1) 0)] := by
  unfold Wd.step restN
  rw [takes2 s h5 h7, made_do w s _ h5]
  have e : (p.drop (p.length - 2)) = [p.getD (p.length - 2) 0, p.getD (p.length - 2 + 1) 0] := by
    rw [List.drop_eq_getElem_cons (by omega), List.drop_eq_getElem_cons (by omega), List.drop_eq_nil_of_le (by omega)]
    simp [List.getElem?_eq_getElem (show p.length - 2 < p.length by omega), List.getElem?_eq_getElem (show p.length - 2 + 1 < p.length by omega)]
  simp only [show (2 : Int).toNat = 2 from rfl, e]; rfl

/-- what a round leaves. -/
theorem work_rel {w1 wr wm w2 : World} {K : Nat} {v v' : Value} {p q : List Int} {r : Nat} {X : Int} (hK : K ≤ wr.heap.size) (hb : Below K w1 wr) (hm : Below wr.heap.size wr wm)
    (hown : w2.ownsRow K 3 1 v' (r + 1) (((p.take r).map (Value.int .i64)) ++ [.int .i64 X])) (hv : ∀ k, v.ownBlock = some k → K ≤ k)
    (hg : (wm.alloc (.cells #[.int .i64 X] 3)).grownBy w2 v.ownBlock) (hr : r ≤ p.length) (hq : q = p.take r ++ [X]) :
    w2.ownsRow K 3 1 v' q.length (q.map (Value.int .i64)) ∧ Below K w1 w2 ∧ K ≤ w2.heap.size := by
  have hs : wr.heap.size ≤ wm.heap.size := hm.size
  have e1 : q.length = r + 1 := by rw [hq]; simp; omega
  have e2 : q.map (Value.int .i64) = ((p.take r).map (Value.int .i64)) ++ [.int .i64 X] := by rw [hq]; simp
  have b1 : Below K w1 (wm.alloc (.cells #[.int .i64 X] 3)) := (hb.trans (hm.mono hK)).alloc (by omega) _
  have b2 : Below K w1 w2 := b1.grown hg (by simp; omega) hv
  refine ⟨by rw [e1, e2]; exact hown, b2, ?_⟩
  have := hg.size
  simp at this
  omega
end Go.Proofs.YtjaedfjfcghgcabDoor

namespace Go.Proofs.YtjaedfjfcghgcabDoor
open Go.ChangeShapes Go.WideShapes Go.ChangeAt Go.RowKit
set_option maxRecDepth 100000

theorem fmade_op (s : Int) (x y : Bool) (hs : s = 10 ∨ s = 11 ∨ s = 13) (B off cap : Nat) (vh : Value) (w : World) (c0 : w.cell? ⟨B, off, none⟩ = some (.bool x)) (c1 : w.cell? ⟨B, off + 1, none⟩ = some (.bool y)) (held : List Bool) :
    Calls Tryd.prog 37 #[.int .i64 s, .slice (some ⟨B, off, none⟩) 2 cap, vh] w fun e w' => e = .returned (.bool (madeF held s [x, y])) ∧ w = w' := by
  rcases hs with rfl | rfl | rfl
  · cases x
    all_goals
      go_enter Tryd.func37, Tryd.ntmps37
      go_wp2
      go_ret
      exact ⟨rfl, rfl⟩
  · cases x
    all_goals
      go_enter Tryd.func37, Tryd.ntmps37
      go_wp2
      go_ret
      exact ⟨rfl, rfl⟩
  · cases x
    all_goals
      go_enter Tryd.func37, Tryd.ntmps37
      go_wp2
      go_ret
      exact ⟨rfl, rfl⟩
theorem fmade_no (x : Bool) (B off cap : Nat) (vh : Value) (w : World) (c0 : w.cell? ⟨B, off, none⟩ = some (.bool x)) (held : List Bool) :
    Calls Tryd.prog 37 #[.int .i64 12, .slice (some ⟨B, off, none⟩) 1 cap, vh] w fun e w' => e = .returned (.bool (madeF held 12 [x])) ∧ w = w' := by
  go_enter Tryd.func37, Tryd.ntmps37
  go_wp2
  go_ret
  exact ⟨rfl, rfl⟩
theorem fmade_leaf (s : Int) (held : List Bool) (h0 : 0 ≤ s) (h1 : s < held.length) (h6 : held.length ≤ 6) (hb ho hcap : Nat) (v : Value) (w : World) (hR : ReadsB w hb ho held) :
    Calls Tryd.prog 37 #[.int .i64 s, v, .slice (some ⟨hb, ho, none⟩) held.length hcap] w fun e w' => e = .returned (.bool (madeF held s [])) ∧ w = w' := by
  obtain ⟨k, rfl⟩ := Int.eq_ofNat_of_zero_le h0
  have e : madeF held (k : Int) [] = held.getD k false := by rw [madeF_leaf held (takesF_low (by omega)) []]; simp
  rw [e]
  have hc := hR.2 k (by omega)
  obtain ⟨x, hx⟩ : ∃ x, x = held.getD k false := ⟨_, rfl⟩
  rw [← hx] at hc ⊢
  obtain ⟨m, hm⟩ : ∃ m, m = held.length := ⟨_, rfl⟩
  rw [← hm] at h1 h6 ⊢
  clear hx hm hR e
  have g0 : ((k : Int) == 10) = false := by simp; omega
  have g1 : ((k : Int) == 11) = false := by simp; omega
  have g2 : ((k : Int) == 13) = false := by simp; omega
  have g3 : ((k : Int) == 12) = false := by simp; omega
  have h0' : (0 : Int) ≤ (k : Int) := by omega
  go_enter Tryd.func37, Tryd.ntmps37
  go_wp2
  go_ret
  exact ⟨rfl, rfl⟩
end Go.Proofs.YtjaedfjfcghgcabDoor
