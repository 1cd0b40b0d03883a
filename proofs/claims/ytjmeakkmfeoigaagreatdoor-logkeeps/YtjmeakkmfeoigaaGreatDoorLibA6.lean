/-
  Facts and contracts that the statement leans on.
-/
import Derived.Test.YtjmeakkmfeoigaaGreatDoorLibA4
import Derived.Test.YtjmeakkmfeoigaaGreatDoorLibA1
import Derived.Deep.Cut
import Derived.Test.YtjmeakkmfeoigaaGreatDoorLibA3
namespace Go.Proofs.YtjmeakkmfeoigaaGreatDoor
open Go.ChangeShapes Go.WideShapes Go.ChangeAt Go.RowKit
def kindCells : List Value := [.string ⟨#[]⟩, .bool false, .bool false, .string ⟨#[115, 117, 98]⟩, .bool true, .bool false, .string ⟨#[115, 97, 109, 101]⟩, .bool true, .bool false, .string ⟨#[108, 101, 97, 115, 116]⟩, .bool false, .bool true, .string ⟨#[109, 111, 115, 116]⟩, .bool false, .bool true, .string ⟨#[110, 111, 109, 111, 114, 101]⟩, .bool true, .bool true]
def KindsLaid (w : World) : Prop := ∀ j, j < 18 → w.cell? ⟨0, j, none⟩ = some (kindCells.getD j .nilIface)
theorem KindsLaid.lt {w : World} (h : KindsLaid w) : 0 < w.heap.size := World.block_lt_of_cell? w ⟨0, 0, none⟩ (h 0 (by decide))
theorem KindsLaid.at {K : Nat} {w w' : World} (h : KindsLaid w) (hb : Below K w w') (hK : w.heap.size ≤ K) : KindsLaid w' := fun j hj => by
 rw [hb.cell (p := ⟨0, j, none⟩) (Nat.lt_of_lt_of_le h.lt hK)]; exact h j hj
theorem KindsLaid.below {w w' : World} (h : KindsLaid w) (hb : Below w.heap.size w w') : KindsLaid w' := h.at hb (Nat.le_refl _)
theorem Reads.slice {w : World} {v : Value} {t : List Int} (h : Reads w v t) : ∃ ao cap, v = .slice ao t.length cap ∧ t.length ≤ 9223372036854775807 := by
 rcases h with ⟨ao, cap, rfl, rfl⟩ | ⟨b, off, cap, rfl, _, _, h, _⟩
 ·exact ⟨ao, cap, rfl, by simp⟩
 ·exact ⟨_, cap, rfl, h.1⟩
theorem errV_0 : errV 0 = .nilIface := rfl
set_option maxRecDepth 100000
theorem kind_has {W : World} (h : KindsLaid W) {k : Nat} (h1 : 0 < k) (h6 : k < 6) : W.cell? ⟨0, k * 3 + 1, none⟩ = some (.bool (secondB k)) ∧ W.cell? ⟨0, k * 3 + 2, none⟩ = some (.bool (numberB k)) := by
 rcases (by omega : k = 1 ∨ k = 2 ∨ k = 3 ∨ k = 4 ∨ k = 5) with rfl | rfl | rfl | rfl | rfl <;> exact ⟨h _ (by decide), h _ (by decide)⟩
theorem csecond_in (k : Nat) (h6 : k < 6) (n : Int) (sao tao : Option Addr) (sl scap tl tcap : Nat) (b : Bool) (E : Value) (w : World) (hl : tl ≤ 9223372036854775807)
    (hq : ∀ W, Below w.heap.size w W → W.cell? ⟨0, k * 3 + 1, none⟩ = some (.bool b))
    (HC : Hid (b = true → ∀ W, Below w.heap.size w W → Calls Tryz.prog 68 #[.slice tao tl tcap] W (Sk W E)))
    (HE : Hid (b = false → E = errV (if 0 < tl then 3 else 0))) :
    Calls Tryz.prog 69 #[.agg #[.int .i64 (k : Int), .slice sao sl scap, .slice tao tl tcap, .int .i64 n]] w (Bk w E) := by
 obtain ⟨w1, hw1⟩ := nm (w.alloc (.cells #[.int .i64 (k : Int), .slice sao sl scap, .slice tao tl tcap, .int .i64 n] 29))
 have HB : Hid (Below w.heap.size w w1) := by unfold Hid; rw [hw1]; exact below_alloc1 w _
 have q := hq w1 HB.out
 obtain ⟨x0, x2⟩ : w1.cell? ⟨w.heap.size, 0, none⟩ = some (.int .i64 (k : Int)) ∧ w1.cell? ⟨w.heap.size, 2, none⟩ = some (.slice tao tl tcap) := by rw [hw1]; simp
 clear hq
 cases b
 ·have he := HE.out rfl
  by_cases h : 0 < tl
  ·rw [if_pos h] at he
   subst he
   go_enter Tryz.func69, Tryz.ntmps69
   go_upto_region 1 with fail
   rw [← hw1]
   clear hw1
   go_wp2
   go_ret
   exact ⟨rfl, HB.out⟩
  ·rw [if_neg h] at he
   subst he
   obtain rfl : tl = 0 := by omega
   go_enter Tryz.func69, Tryz.ntmps69
   go_upto_region 1 with fail
   rw [← hw1]
   clear hw1
   go_wp2
   go_ret
   exact ⟨rfl, HB.out⟩
 ·have HC' := hide (HC.out rfl w1 HB.out)
  go_enter Tryz.func69, Tryz.ntmps69
  go_upto_region 1 with fail
  rw [← hw1]
  clear hw1
  go_wp2_with (go_at_call 68; refine HC'.out.mono ?_; rintro e w' ⟨rfl, rfl⟩)
  go_ret
  exact ⟨rfl, HB.out⟩
theorem csecond_any (k n : Int) (vs vt : Value) (s t : List Int) (w : World) (hk : 1 ≤ k ∧ k ≤ 5) (hS : Reads w vs s) (hT : Reads w vt t) (hK : KindsLaid w) :
    Calls Tryz.prog 69 #[.agg #[.int .i64 k, vs, vt, .int .i64 n]] w (Bk w (errV (secondFault k t))) := by
 obtain ⟨k, rfl⟩ := Int.eq_ofNat_of_zero_le (show 0 ≤ k by omega)
 have hC := fun W (hW : Below w.heap.size w W) => tcheck_any t vt W (hT.below hW)
 obtain ⟨sao, scap, rfl, _⟩ := hS.slice
 obtain ⟨tao, tcap, rfl, hl⟩ := hT.slice
 refine csecond_in k (by omega) n sao tao _ scap _ tcap (secondB k) _ w hl (fun W hW => (kind_has (hK.below hW) (by omega) (by omega)).1) (fun hb W hW => ?_) fun hb => ?_
 ·have e : secondFault (k : Int) t = faultN t := by unfold secondFault; rw [if_pos hb]
  rw [e]; exact hC W hW
 ·unfold secondFault; rw [hb]; rfl
theorem acheck_kind (k : Int) (n : Int) (sao tao : Option Addr) (sl scap tl tcap : Nat) (w : World) (hk : ¬ (1 ≤ k ∧ k ≤ 5)) :
    Calls Tryz.prog 36 #[.agg #[.int .i64 k, .slice sao sl scap, .slice tao tl tcap, .int .i64 n]] w (Bk w (.iface 64 (.int .i64 1))) := by
 have HB : Hid (Below w.heap.size w (w.alloc (.cells #[.int .i64 k, .slice sao sl scap, .slice tao tl tcap, .int .i64 n] 29))) := below_alloc1 w _
 by_cases h : k < 1
 ·clear hk
  go_enter Tryz.func36, Tryz.ntmps36
  go_wp2
  go_ret
  exact ⟨rfl, HB.out⟩
 ·have h5 : 5 < k := by omega
  clear hk
  go_enter Tryz.func36, Tryz.ntmps36
  go_wp2
  go_ret
  exact ⟨rfl, HB.out⟩
theorem acheck_in (k : Nat) (h1 : 0 < k) (h6 : k < 6) (n : Int) (sao tao : Option Addr) (sl scap tl tcap : Nat) (b : Bool) (F1 F2 : Int) (w : World)
    (hq : ∀ W, Below w.heap.size w W → W.cell? ⟨0, k * 3 + 2, none⟩ = some (.bool b))
    (HC : Hid (∀ W, Below w.heap.size w W → Calls Tryz.prog 68 #[.slice sao sl scap] W (Sk W (errV F1))))
    (HS : Hid (∀ W, Below w.heap.size w W → Calls Tryz.prog 69 #[.agg #[.int .i64 (k : Int), .slice sao sl scap, .slice tao tl tcap, .int .i64 n]] W (Bk W (errV F2)))) :
    Calls Tryz.prog 36 #[.agg #[.int .i64 (k : Int), .slice sao sl scap, .slice tao tl tcap, .int .i64 n]] w (Bk w (errV (if F1 = 0 then (if F2 = 0 then (if - (if b = true then 20 else 0) ≤ n ∧ n ≤ (if b = true then 20 else 0) then 0 else 1) else F2) else F1))) := by
 obtain ⟨w1, hw1⟩ := nm (w.alloc (.cells #[.int .i64 (k : Int), .slice sao sl scap, .slice tao tl tcap, .int .i64 n] 29))
 have HB : Hid (Below w.heap.size w w1) := by unfold Hid; rw [hw1]; exact below_alloc1 w _
 have HQ : Hid (∀ W, Below w1.heap.size w1 W → W.cell? ⟨0, k * 3 + 2, none⟩ = some (.bool b)) := fun W hW => hq W (HB.out.trans (hW.mono HB.out.size))
 have HX : Hid (∀ W, Below w1.heap.size w1 W → W.cell? ⟨w.heap.size, 0, none⟩ = some (.int .i64 (k : Int)) ∧ W.cell? ⟨w.heap.size, 1, none⟩ = some (.slice sao sl scap) ∧ W.cell? ⟨w.heap.size, 2, none⟩ = some (.slice tao tl tcap) ∧ W.cell? ⟨w.heap.size, 3, none⟩ = some (.int .i64 n)) := fun W hW => by
  have hl : w.heap.size < w1.heap.size := by rw [hw1]; simp
  refine ⟨(hW.cell hl).trans ?_, (hW.cell hl).trans ?_, (hW.cell hl).trans ?_, (hW.cell hl).trans ?_⟩ <;> (rw [hw1]; simp)
 have HC1 := hide (HC.out w1 HB.out)
 have HS1 := hide (HS.out w1 HB.out)
 obtain ⟨x0, x1, x2, x3⟩ := HX.out w1 (Below.refl _ _)
 obtain ⟨M, hM⟩ : ∃ M : Int, M = if b = true then 20 else 0 := ⟨_, rfl⟩
 rw [← hM]
 obtain ⟨R, hR⟩ := nm (errV (if F1 = 0 then (if F2 = 0 then (if - M ≤ n ∧ n ≤ M then 0 else 1) else F2) else F1))
 rw [← hR]
 have HR := hide hR
 clear hq HC HS hR
 go_enter Tryz.func36, Tryz.ntmps36
 go_upto_region 1 with fail
 rw [← hw1]
 clear hw1
 go_wp2_with fail
 go_at_call 68
 refine HC1.out.mono ?_
 rintro e w' ⟨rfl, rfl⟩
 by_cases e1 : F1 = 0
 ·have H1 := hide e1
  rw [show errV F1 = .nilIface by rw [e1]; rfl]
  clear e1
  go_wp2_with fail
  go_at_call 69
  refine HS1.out.mono ?_
  rintro e w2 ⟨rfl, hb⟩
  have HB2 := hide (HB.out.trans (hb.mono HB.out.size))
  have q := HQ.out w2 hb
  clear x0 x1 x2 x3
  obtain ⟨x0, x1, x2, x3⟩ := HX.out w2 hb
  clear hb
  by_cases e2 : F2 = 0
  ·have H2 := hide e2
   rw [show errV F2 = .nilIface by rw [e2]; rfl]
   clear e2
   have H3 : Hid (R = errV (if - M ≤ n ∧ n ≤ M then 0 else 1)) := by unfold Hid; rw [HR.out, if_pos H1.out, if_pos H2.out]
   clear HR H1 H2
   by_cases g1 : n < - M
   ·have H4 : Hid (.iface 64 (.int .i64 1) = R) := by unfold Hid; rw [H3.out, if_neg (by omega)]; rfl
    cases b <;> (simp at hM; subst hM; go_wp2; go_ret; exact ⟨back_v H4.out, HB2.out⟩)
   by_cases g2 : M < n
   ·have H4 : Hid (.iface 64 (.int .i64 1) = R) := by unfold Hid; rw [H3.out, if_neg (by omega)]; rfl
    cases b <;> (simp at hM; subst hM; go_wp2; go_ret; exact ⟨back_v H4.out, HB2.out⟩)
   ·have H4 : Hid (.nilIface = R) := by unfold Hid; rw [H3.out, if_pos (by omega)]; rfl
    cases b <;> (simp at hM; subst hM; go_wp2; go_ret; exact ⟨back_v H4.out, HB2.out⟩)
  ·have H4 : Hid (.iface 64 (.int .i64 F2) = R) := by unfold Hid; rw [HR.out, if_pos H1.out, if_neg e2, errV_no e2]
   rw [errV_no e2]
   clear e2 hM
   go_wp2
   go_ret
   exact ⟨back_v H4.out, HB2.out⟩
 ·have H4 : Hid (.iface 64 (.int .i64 F1) = R) := by unfold Hid; rw [HR.out, if_neg e1, errV_no e1]
  rw [errV_no e1]
  clear e1 hM
  go_wp2
  go_ret
  exact ⟨back_v H4.out, HB.out⟩
theorem acheck_any (k n : Int) (vs vt : Value) (s t : List Int) (w : World) (hS : Reads w vs s) (hT : Reads w vt t) (hK : KindsLaid w) :
    Calls Tryz.prog 36 #[.agg #[.int .i64 k, vs, vt, .int .i64 n]] w (Bk w (errV (atomFault k s t n))) := by
 have hC := fun W (hW : Below w.heap.size w W) => tcheck_any s vs W (hS.below hW)
 have hS2 := fun h W (hW : Below w.heap.size w W) => csecond_any k n vs vt s t W h (hS.below hW) (hT.below hW) (hK.below hW)
 obtain ⟨sao, scap, rfl, _⟩ := hS.slice
 obtain ⟨tao, tcap, rfl, hl⟩ := hT.slice
 by_cases hk : 1 ≤ k ∧ k ≤ 5
 ·unfold atomFault mostN
  rw [if_pos hk]
  obtain ⟨k, rfl⟩ := Int.eq_ofNat_of_zero_le (show 0 ≤ k by omega)
  exact acheck_in k (by omega) (by omega) n sao tao _ scap _ tcap (numberB k) _ _ w (fun W hW => (kind_has (hK.below hW) (by omega) (by omega)).2) hC (hS2 hk)
 ·rw [atomFault_kind hk, errV_no (by decide)]
  exact acheck_kind k n sao tao _ scap _ tcap w hk
end Go.Proofs.YtjmeakkmfeoigaaGreatDoor
namespace Go.Proofs.YtjmeakkmfeoigaaGreatDoor
open Go.RowKit
def stopA : At := ⟨4, [1], [], 1⟩
def stopC : At := ⟨4, [2], [], 1⟩
def stopZ : At := ⟨0, [], [], 0⟩
theorem stop_faults : stopA.fault = 0 ∧ stopC.fault = 0 ∧ stopZ.fault = 1 ∧ (aloneF stopC true).fault = 0 := by decide
theorem stop_open {l : List Fm} (h : ∀ f ∈ l, f = aloneF stopA true ∨ f = aloneF stopC true) : openN l 1 = true := by
 have ho := open_of (fs := l) (w := ⟨1, 0, 0, 0⟩) (by decide) (u := 1) rfl (by
  unfold Wd.so
  rw [List.all_eq_true]
  intro f hf
  rcases h f hf with rfl | rfl <;> decide)
 exact ho
structure StA (a k s : Nat) (l : Lg) : Prop where
 u : l.u = 1
 fs : l.fs = List.replicate k (aloneF stopA true)
 ends : l.ends.length = k
 k5 : k ≤ 5
 on : s ≤ a → l.stop = false ∧ l.left = (a : Int) - s
 off : a < s → l.stop = true
theorem st_start {a : Nat} (ha : a ≤ 5) : StA a 0 0 ((lg0 1).fail a) := by
 refine ⟨rfl, rfl, rfl, by omega, fun _ => ⟨rfl, ?_⟩, fun h => by omega⟩
 show failN (a : Int) = (a : Int) - (0 : Nat)
 rw [failN_small (by omega) (by omega)]; omega
theorem st_members {k : Nat} : ∀ f ∈ List.replicate k (aloneF stopA true), f = aloneF stopA true ∨ f = aloneF stopC true := fun _ hf => Or.inl (List.eq_of_mem_replicate hf)
theorem st_bad {a k s : Nat} {l : Lg} (h : StA a k s l) : (s ≤ a → l.sayE stopZ true = 1) ∧ (a < s → l.sayE stopZ true = 6) ∧ ∀ n, l.say stopZ true n = l := by
 refine ⟨fun hs => ?_, fun hs => (say_stopped (h.off hs) _ _).1, fun n => ?_⟩
 ·have hw : l.wrong stopZ true = 1 := by rw [wrong_of (h.on hs).1]; exact if_neg (by decide)
  rw [(say_no (by rw [hw]; decide)).1, hw]
 ·rcases Nat.lt_or_ge a s with hs | hs
  ·exact (say_stopped (h.off hs) _ _).2 n
  ·have hw : l.wrong stopZ true = 1 := by rw [wrong_of (h.on hs).1]; exact if_neg (by decide)
   exact (say_no (by rw [hw]; decide)).2 n
theorem st_say {a k s : Nat} {l : Lg} (h : StA a k s l) (hk : s ≤ a → k ≤ s) (ha : a ≤ 5) : (s < a → l.sayE stopA true = 0 ∧ ∀ n, StA a (k + 1) (s + 1) (l.say stopA true n)) ∧ (a ≤ s → l.sayE stopA true = 6 ∧ ∀ n, StA a k (s + 1) (l.say stopA true n)) := by
 have hop : openN (l.fs ++ [aloneF stopA true]) l.u.toNat = true := by
  rw [h.u, h.fs]
  exact stop_open fun f hf => by
   rcases List.mem_append.1 hf with hf | hf
   ·exact st_members f hf
   ·exact Or.inl (by simpa using hf)
 have hlen : l.fs.length < 6 := by rw [h.fs, List.length_replicate]; have := h.k5; omega
 refine ⟨fun hs => ?_, fun hs => ?_⟩
 ·obtain ⟨h1, h2⟩ := h.on (by omega)
  obtain ⟨e1, e2⟩ := say_ok h1 stop_faults.1 hlen hop (by rw [h2]; omega)
  refine ⟨e1, fun n => ?_⟩
  rw [e2 n]
  refine ⟨h.u, ?_, ?_, by have := hk (by omega); omega, fun _ => ⟨h1, ?_⟩, fun h' => by omega⟩
  ·show l.fs ++ [aloneF stopA true] = _
   rw [h.fs, List.replicate_succ']
  ·show (l.ends ++ [l.bytes + n]).length = k + 1
   rw [List.length_append, h.ends]; rfl
  ·show lessN1 l.left = (a : Int) - ((s + 1 : Nat) : Int)
   unfold lessN1
   rw [h2, if_neg (by omega)]; omega
 ·rcases Nat.lt_or_ge a s with hs' | hs'
  ·obtain ⟨e1, e2⟩ := say_stopped (h.off hs') stopA true
   refine ⟨e1, fun n => ?_⟩
   rw [e2 n]
   exact ⟨h.u, h.fs, h.ends, h.k5, fun h' => by omega, fun _ => h.off hs'⟩
  ·obtain ⟨h1, h2⟩ := h.on hs'
   obtain ⟨e1, e2⟩ := say_stop h1 stop_faults.1 hlen hop (by rw [h2]; omega)
   refine ⟨e1, fun n => ?_⟩
   rw [e2 n]
   exact ⟨h.u, h.fs, h.ends, h.k5, fun h' => by omega, fun _ => rfl⟩
theorem st_sync {a k s : Nat} {l : Lg} (h : StA a k s l) : (s < a → l.syncE = 0 ∧ StA a k (s + 1) l.sync) ∧ (a ≤ s → l.syncE = 6 ∧ StA a k (s + 1) l.sync) := by
 unfold Lg.syncE Lg.sync
 refine ⟨fun hs => ?_, fun hs => ?_⟩
 ·obtain ⟨h1, h2⟩ := h.on (by omega)
  rw [h1, if_neg (by decide), if_neg (by rw [h2]; omega), if_neg (by decide), if_neg (by rw [h2]; omega)]
  refine ⟨rfl, h.u, h.fs, h.ends, h.k5, fun _ => ⟨rfl, ?_⟩, fun h' => by omega⟩
  show lessN1 l.left = (a : Int) - ((s + 1 : Nat) : Int)
  unfold lessN1
  rw [h2, if_neg (by omega)]; omega
 ·rcases Nat.lt_or_ge a s with hs' | hs'
  ·rw [if_pos (h.off hs'), if_pos (h.off hs')]
   exact ⟨rfl, h.u, h.fs, h.ends, h.k5, fun h' => by omega, fun _ => h.off hs'⟩
  ·obtain ⟨h1, h2⟩ := h.on hs'
   rw [h1, if_neg (by decide), if_pos (by rw [h2]; omega), if_neg (by decide), if_pos (by rw [h2]; omega)]
   exact ⟨rfl, h.u, h.fs, h.ends, h.k5, fun h' => by omega, fun _ => rfl⟩
theorem st_crash {a k s : Nat} {l : Lg} (h : StA a k s l) (keep : Int) : ∃ m, m ≤ 5 ∧ (l.crash keep).fs = List.replicate m (aloneF stopA true) ∧ (l.crash keep).sayE stopC true = 0 ∧ ∀ n, ((l.crash keep).say stopC true n).syncE = 0 ∧ ((l.crash keep).say stopC true n).sync.fs = List.replicate m (aloneF stopA true) ++ [aloneF stopC true] ∧ ((l.crash keep).say stopC true n).sync.safe = ((l.crash keep).say stopC true n).sync.bytes := by
 have hfs : (l.crash keep).fs = List.replicate (min (wholeN l.ends (l.high keep)) k) (aloneF stopA true) := by
  show l.fs.take _ = _
  rw [h.fs, List.take_replicate]
 have h5 := h.k5
 refine ⟨min (wholeN l.ends (l.high keep)) k, by omega, hfs, ?_⟩
 have hop : openN ((l.crash keep).fs ++ [aloneF stopC true]) (l.crash keep).u.toNat = true := by
  have eu : (l.crash keep).u = 1 := h.u
  rw [eu, hfs]
  exact stop_open fun f hf => by
   rcases List.mem_append.1 hf with hf | hf
   ·exact st_members f hf
   ·exact Or.inr (by simpa using hf)
 obtain ⟨e1, e2⟩ := say_ok (l := l.crash keep) (a := stopC) (h := true) rfl stop_faults.2.1 (by rw [hfs, List.length_replicate]; omega) hop (by show ¬ (-1 : Int) = 0; decide)
 refine ⟨e1, fun n => ?_⟩
 rw [e2 n, hfs]
 unfold Lg.syncE Lg.sync
 simp only [Lg.crash, lessN1]
 refine ⟨?_, ?_, ?_⟩
 ·simp
 ·simp
 ·simp
end Go.Proofs.YtjmeakkmfeoigaaGreatDoor
namespace Go.Proofs.YtjmeakkmfeoigaaGreatDoor
open Go.RowKit
structure LgK (u : Int) (l : Lg) : Prop where
 hu : l.u = u
 good : ∀ f ∈ l.fs, ∃ a h, f = aloneF a h ∧ a.fault = 0
 n6 : l.fs.length ≤ 6
 op : openN l.fs u.toNat = true
 len : l.ends.length = l.fs.length
 rise : (0 :: l.ends).Pairwise (· < ·)
 top : ∀ e ∈ l.ends, e ≤ l.bytes
 bn : 0 ≤ l.bytes
theorem lgk0 (u : Int) : LgK u (lg0 u) := ⟨rfl, fun f h => (by cases h), Nat.zero_le _, open_nil _, rfl, by show List.Pairwise (· < ·) [(0 : Int)]; simp, fun e h => (by cases h), Int.le_refl _⟩
def sayR (u : Int) (fs : List Fm) (a : At) (h : Bool) : Int := if a.fault = 0 then (if 6 ≤ fs.length then 4 else if openN (fs ++ [aloneF a h]) u.toNat = true then 0 else 7) else a.fault
theorem lgk_told {u : Int} {l : Lg} (k : LgK u l) (a : At) (h : Bool) : (l.sayE a h = 6 ∧ (l.stop = true ∨ l.left = 0)) ∨ l.sayE a h = sayR u l.fs a h := by
 by_cases hs : l.stop = true
 ·exact Or.inl ⟨(say_stopped hs a h).1, Or.inl hs⟩
 ·have hs : l.stop = false := by simpa using hs
  have e : l.wrong a h = sayR u l.fs a h := by rw [wrong_of hs, k.hu]; rfl
  unfold Lg.sayE
  by_cases hw : l.wrong a h = 0
  ·rw [if_pos hw]
   by_cases hl : l.left = 0
   ·rw [if_pos hl]; exact Or.inl ⟨rfl, Or.inr hl⟩
   ·rw [if_neg hl, ← e, hw]; exact Or.inr rfl
  ·rw [if_neg hw, e]; exact Or.inr rfl
theorem lgk_say {u : Int} {l : Lg} (k : LgK u l) (a : At) (h : Bool) {n : Int} (hn : 2 ≤ n) : LgK u (l.say a h n) ∧
    ((l.sayE a h = 0 ∧ sayR u l.fs a h = 0 ∧ (l.say a h n).fs = l.fs ++ [aloneF a h] ∧ (l.say a h n).ends = l.ends ++ [l.bytes + n] ∧ (l.say a h n).bytes = l.bytes + n) ∨ (¬ l.sayE a h = 0 ∧ (l.say a h n).fs = l.fs ∧ (l.say a h n).ends = l.ends)) := by
 by_cases hw : l.wrong a h = 0
 ·have hs : l.stop = false := by
   cases hs : l.stop
   ·rfl
   ·unfold Lg.wrong at hw; rw [if_pos hs] at hw; exact absurd hw (by decide)
  have e := wrong_of hs a h
  rw [hw] at e
  have ha : a.fault = 0 := by
   by_cases ha : a.fault = 0
   ·exact ha
   ·rw [if_neg ha] at e; exact absurd e.symm ha
  rw [if_pos ha] at e
  have h6 : l.fs.length < 6 := by
   by_cases h6 : 6 ≤ l.fs.length
   ·rw [if_pos h6] at e; exact absurd e (by decide)
   ·omega
  rw [if_neg (by omega)] at e
  have ho : openN (l.fs ++ [aloneF a h]) l.u.toNat = true := by
   by_cases ho : openN (l.fs ++ [aloneF a h]) l.u.toNat = true
   ·exact ho
   ·rw [if_neg ho] at e; exact absurd e (by decide)
  by_cases hl : l.left = 0
  ·obtain ⟨e1, e2⟩ := say_stop hs ha h6 ho hl
   rw [e2 n]
   exact ⟨⟨k.hu, k.good, k.n6, k.op, k.len, k.rise, fun x hx => Int.le_trans (k.top x hx) (by show l.bytes ≤ l.bytes + n / 2; omega), by show 0 ≤ l.bytes + n / 2; have := k.bn; omega⟩, Or.inr ⟨by rw [e1]; decide, rfl, rfl⟩⟩
  ·obtain ⟨e1, e2⟩ := say_ok hs ha h6 ho hl
   rw [e2 n]
   have hr : sayR u l.fs a h = 0 := by
    unfold sayR
    rw [if_pos ha, if_neg (by omega)]
    rw [k.hu] at ho
    exact if_pos ho
   refine ⟨⟨k.hu, fun f hf => ?_, ?_, ?_, ?_, ?_, fun x hx => ?_, ?_⟩, Or.inl ⟨e1, hr, rfl, rfl, rfl⟩⟩
   ·rcases List.mem_append.1 hf with hf | hf
    ·exact k.good f hf
    ·exact ⟨a, h, by simpa using hf, ha⟩
   ·show (l.fs ++ [aloneF a h]).length ≤ 6
    rw [List.length_append]; show _ + 1 ≤ 6; omega
   ·rw [k.hu] at ho; exact ho
   ·show (l.ends ++ [l.bytes + n]).length = (l.fs ++ [aloneF a h]).length
    rw [List.length_append, List.length_append, k.len]; rfl
   ·show (0 :: (l.ends ++ [l.bytes + n])).Pairwise (· < ·)
    rw [← List.cons_append, List.pairwise_append]
    refine ⟨k.rise, by simp, fun x hx y hy => ?_⟩
    obtain rfl : y = l.bytes + n := by simpa using hy
    rcases List.mem_cons.1 hx with rfl | hx
    ·have := k.bn; omega
    ·have := k.top x hx; omega
   ·show x ≤ l.bytes + n
    rcases List.mem_append.1 hx with hx | hx
    ·have := k.top x hx; omega
    ·have : x = l.bytes + n := by simpa using hx
     omega
   ·show 0 ≤ l.bytes + n
    have := k.bn; omega
 ·obtain ⟨e1, e2⟩ := say_no hw
  rw [e2 n]
  exact ⟨k, Or.inr ⟨by rw [e1]; exact hw, rfl, rfl⟩⟩
theorem lgk_sync {u : Int} {l : Lg} (k : LgK u l) : LgK u l.sync ∧ l.sync.fs = l.fs ∧ l.sync.ends = l.ends ∧ (l.syncE = 0 → l.sync.safe = l.sync.bytes) ∧ l.sync.bytes = l.bytes := by
 unfold Lg.sync Lg.syncE
 by_cases hs : l.stop = true
 ·rw [if_pos hs, if_pos hs]; exact ⟨k, rfl, rfl, fun h => absurd h (by decide), rfl⟩
 ·rw [if_neg hs, if_neg hs]
  by_cases hl : l.left = 0
  ·rw [if_pos hl, if_pos hl]; exact ⟨⟨k.hu, k.good, k.n6, k.op, k.len, k.rise, k.top, k.bn⟩, rfl, rfl, fun h => absurd h (by decide), rfl⟩
  ·rw [if_neg hl, if_neg hl]; exact ⟨⟨k.hu, k.good, k.n6, k.op, k.len, k.rise, k.top, k.bn⟩, rfl, rfl, fun _ => rfl, rfl⟩
theorem lgk_fail {u : Int} {l : Lg} (k : LgK u l) (n : Int) : LgK u (l.fail n) ∧ (l.fail n).fs = l.fs ∧ (l.fail n).ends = l.ends ∧ (l.fail n).bytes = l.bytes ∧ (l.fail n).safe = l.safe :=
 ⟨⟨k.hu, k.good, k.n6, k.op, k.len, k.rise, k.top, k.bn⟩, rfl, rfl, rfl, rfl⟩
theorem lgk_open {u : Int} {l : Lg} (k : LgK u l) : l.openB = true := by unfold Lg.openB; rw [k.hu]; exact k.op
theorem whole_le (es : List Int) (high : Int) : wholeN es high ≤ es.length := by
 unfold wholeN
 exact (List.takeWhile_sublist _).length_le
theorem whole_at : ∀ {es : List Int}, es.Pairwise (· < ·) → ∀ {high : Int} {i : Nat}, i < es.length → (es.getD i 0 ≤ high ↔ i < wholeN es high) := by
 intro es
 induction es with
 | nil => intro _ high i hi; simp at hi
 | cons e es ih =>
  intro hp high i hi
  obtain ⟨h1, h2⟩ := List.pairwise_cons.1 hp
  unfold wholeN
  rw [List.takeWhile_cons]
  by_cases he : e ≤ high
  ·rw [if_pos (by simpa using he)]
   cases i with
   | zero => exact ⟨fun _ => by simp, fun _ => he⟩
   | succ i =>
    have := ih h2 (high := high) (i := i) (by simpa using hi)
    unfold wholeN at this
    rw [List.length_cons]
    show es.getD i 0 ≤ high ↔ _
    rw [this]; omega
  ·rw [if_neg (by simpa using he)]
   refine ⟨fun h => ?_, fun h => by simp at h⟩
   exfalso
   cases i with
   | zero => exact he h
   | succ i =>
    have hi' : i < es.length := by simpa using hi
    have : es.getD i 0 ≤ high := h
    rw [List.getD_eq_getElem?_getD, List.getElem?_eq_getElem hi'] at this
    have hlt := h1 es[i] (List.getElem_mem hi')
    have : es[i] ≤ high := this
    omega
def lastTo' (marks : List Int) (high : Int) : Nat → Nat
 | 0 => 0
 | k + 1 => if marks.getD k 0 ≤ high then k else lastTo' marks high k
theorem last_whole {es : List Int} (hp : (0 :: es).Pairwise (· < ·)) (high : Int) : lastTo' (0 :: es) high (es.length + 1) = wholeN es high := by
 have h2 := (List.pairwise_cons.1 hp).2
 have key : ∀ k, k ≤ es.length → lastTo' (0 :: es) high (k + 1) = min k (wholeN es high) := by
  intro k
  induction k with
  | zero =>
   intro _
   rw [Nat.zero_min]
   show (if (0 :: es).getD 0 0 ≤ high then 0 else 0) = 0
   split <;> rfl
  | succ k ih =>
   intro hk
   have hat := whole_at h2 (high := high) (i := k) (by omega)
   have hu : lastTo' (0 :: es) high (k + 1 + 1) = if es.getD k 0 ≤ high then k + 1 else lastTo' (0 :: es) high (k + 1) := rfl
   rw [hu]
   by_cases h : es.getD k 0 ≤ high
   ·rw [if_pos h]
    have := hat.1 h
    omega
   ·rw [if_neg h, ih (by omega)]
    have : ¬ k < wholeN es high := fun g => h (hat.2 g)
    omega
 rw [key es.length (Nat.le_refl _)]
 have := whole_le es high
 omega
theorem lgk_crash {u : Int} {l : Lg} (k : LgK u l) (keep : Int) {m : Nat} (hm : m = wholeN l.ends (l.high keep)) :
    LgK u (l.crash keep) ∧ m ≤ l.fs.length ∧ (l.crash keep).fs = l.fs.take m ∧ (l.crash keep).ends = l.ends.take m ∧ (l.crash keep).bytes = (0 :: l.ends).getD m 0 ∧ (l.crash keep).safe = (0 :: l.ends).getD m 0 := by
 subst hm
 have hle := whole_le l.ends (l.high keep)
 have hlen := k.len
 have hb : (l.crash keep).bytes = (0 :: l.ends).getD (wholeN l.ends (l.high keep)) 0 := by
  show endAt l.ends _ = _
  unfold endAt
  cases e : wholeN l.ends (l.high keep) with
  | zero => rfl
  | succ j => rw [if_neg (by omega)]; rfl
 have hrise2 := (List.pairwise_cons.1 k.rise).2
 refine ⟨⟨k.hu, fun f hf => k.good f (List.mem_of_mem_take hf), ?_, open_less (fun f hf => List.mem_of_mem_take hf) k.op, ?_, ?_, fun x hx => ?_, ?_⟩, by omega, rfl, rfl, hb, hb⟩
 ·show (l.fs.take _).length ≤ 6
  rw [List.length_take]; have := k.n6; omega
 ·show (l.ends.take _).length = (l.fs.take _).length
  rw [List.length_take, List.length_take, hlen]
 ·show (0 :: l.ends.take _).Pairwise (· < ·)
  exact List.Pairwise.sublist (List.Sublist.cons_cons 0 (List.take_sublist _ _)) k.rise
 ·rw [hb]
  obtain ⟨i, hi⟩ := List.mem_iff_getElem?.1 hx
  obtain ⟨h1, h2⟩ := List.getElem?_eq_some_iff.1 hi
  have hil : i < wholeN l.ends (l.high keep) := by
   have : i < (l.ends.take (wholeN l.ends (l.high keep))).length := h1
   rw [List.length_take] at this; omega
  have hx2 : l.ends[i]? = some x := by
   have : (l.ends.take (wholeN l.ends (l.high keep)))[i]? = some x := hi
   rw [List.getElem?_take_of_lt hil] at this
   exact this
  obtain ⟨j, hj⟩ : ∃ j, wholeN l.ends (l.high keep) = j + 1 := ⟨wholeN l.ends (l.high keep) - 1, by omega⟩
  rw [hj]
  show x ≤ l.ends.getD j 0
  rw [List.getD_eq_getElem?_getD, List.getElem?_eq_getElem (by omega)]
  show x ≤ l.ends[j]
  obtain ⟨g1, g2⟩ := List.getElem?_eq_some_iff.1 hx2
  rcases Nat.lt_or_ge i j with hij | hij
  ·have := List.pairwise_iff_getElem.1 hrise2 i j g1 (by omega) hij
   rw [g2] at this; omega
  ·obtain rfl : i = j := by omega
   rw [g2]; exact Int.le_refl _
 ·rw [hb]
  cases e : wholeN l.ends (l.high keep) with
  | zero => exact Int.le_refl _
  | succ j =>
   show 0 ≤ l.ends.getD j 0
   rw [List.getD_eq_getElem?_getD, List.getElem?_eq_getElem (by omega)]
   have := (List.pairwise_cons.1 k.rise).1 l.ends[j] (List.getElem_mem (by omega))
   show 0 ≤ l.ends[j]
   omega
end Go.Proofs.YtjmeakkmfeoigaaGreatDoor
namespace Go.Proofs.YtjmeakkmfeoigaaGreatDoor
open Go.RowKit
structure LgB (M : Int) (l : Lg) : Prop where
 s0 : 0 ≤ l.safe
 sb : l.safe ≤ l.bytes
 bm : l.bytes ≤ M
theorem LgB.mono {M M' : Int} {l : Lg} (h : LgB M l) (hm : M ≤ M') : LgB M' l := ⟨h.s0, h.sb, Int.le_trans h.bm hm⟩
theorem lgb0 (u : Int) : LgB 0 (lg0 u) := ⟨Int.le_refl _, Int.le_refl _, Int.le_refl _⟩
theorem lgb_say {M : Int} {l : Lg} (k : LgB M l) (a : At) (h : Bool) {n : Int} (hn : 2 ≤ n ∧ n ≤ 1000000) : LgB (M + 1000000) (l.say a h n) := by
 obtain ⟨h1, h2, h3⟩ := k
 unfold Lg.say
 by_cases hw : l.wrong a h = 0
 ·rw [if_pos hw]
  by_cases hl : l.left = 0
  ·rw [if_pos hl]
   exact ⟨h1, by show l.safe ≤ l.bytes + n / 2; omega, by show l.bytes + n / 2 ≤ M + 1000000; omega⟩
  ·rw [if_neg hl]
   exact ⟨h1, by show l.safe ≤ l.bytes + n; omega, by show l.bytes + n ≤ M + 1000000; omega⟩
 ·rw [if_neg hw]; exact ⟨h1, h2, by omega⟩
theorem lgb_sync {M : Int} {l : Lg} (k : LgB M l) : LgB M l.sync := by
 obtain ⟨h1, h2, h3⟩ := k
 unfold Lg.sync
 by_cases hs : l.stop = true
 ·rw [if_pos hs]; exact ⟨h1, h2, h3⟩
 ·rw [if_neg hs]
  by_cases hl : l.left = 0
  ·rw [if_pos hl]; exact ⟨h1, h2, h3⟩
  ·rw [if_neg hl]; exact ⟨by show 0 ≤ l.bytes; omega, Int.le_refl _, h3⟩
theorem lgb_fail {M : Int} {l : Lg} (k : LgB M l) (n : Int) : LgB M (l.fail n) := ⟨k.s0, k.sb, k.bm⟩
theorem lgb_crash {M : Int} {u : Int} {l : Lg} (k : LgB M l) (g : LgK u l) (keep : Int) : LgB M (l.crash keep) := by
 have hm0 : 0 ≤ M := Int.le_trans (Int.le_trans k.s0 k.sb) k.bm
 have key : 0 ≤ endAt l.ends (wholeN l.ends (l.high keep)) ∧ endAt l.ends (wholeN l.ends (l.high keep)) ≤ M := by
  unfold endAt
  by_cases h0 : wholeN l.ends (l.high keep) = 0
  ·rw [if_pos h0]; exact ⟨Int.le_refl _, hm0⟩
  ·rw [if_neg h0]
   have hle := whole_le l.ends (l.high keep)
   have hlt : wholeN l.ends (l.high keep) - 1 < l.ends.length := by omega
   rw [List.getD_eq_getElem?_getD, List.getElem?_eq_getElem hlt]
   have hmem := List.getElem_mem hlt
   generalize l.ends[wholeN l.ends (l.high keep) - 1] = z at hmem ⊢
   show 0 ≤ z ∧ z ≤ M
   have h1 := (List.pairwise_cons.1 g.rise).1 _ hmem
   have h2 := g.top _ hmem
   have h3 := k.bm
   omega
 exact ⟨key.1, Int.le_refl _, key.2⟩
def keepA : At := ⟨3, [0], [], 1⟩
theorem keepA_open : keepA.fault = 0 ∧ openN [aloneF keepA true] 2 = true ∧ openN [aloneF keepA true, aloneF keepA true] 2 = true ∧ openN [aloneF keepA true, aloneF keepA true, aloneF keepA false] 2 = false := by decide +kernel
def keepL1 (n : Int) : Lg := ⟨2, [aloneF keepA true], [0 + n], 0 + n, 0, -1, false⟩
def keepL2 (n : Int) : Lg := ⟨2, [aloneF keepA true], [0 + n], 0 + n, 0 + n, -1, false⟩
def keepL3 (n m : Int) : Lg := ⟨2, [aloneF keepA true, aloneF keepA true], [0 + n, 0 + n + m], 0 + n + m, 0 + n, -1, false⟩
theorem keep_one : (lg0 2).sayE keepA true = 0 ∧ ∀ n, (lg0 2).say keepA true n = keepL1 n := by
 obtain ⟨h1, h2, _, _⟩ := keepA_open
 obtain ⟨e1, e2⟩ := say_ok (l := lg0 2) (a := keepA) (h := true) rfl h1 (by decide) h2 (by decide)
 exact ⟨e1, fun n => e2 n⟩
theorem keep_two (n : Int) : (keepL1 n).syncE = 0 ∧ (keepL1 n).sync = keepL2 n := ⟨rfl, rfl⟩
theorem keep_three (n : Int) : (keepL2 n).sayE keepA true = 0 ∧ ∀ m, (keepL2 n).say keepA true m = keepL3 n m := by
 obtain ⟨h1, _, h3, _⟩ := keepA_open
 obtain ⟨e1, e2⟩ := say_ok (l := keepL2 n) (a := keepA) (h := true) rfl h1 (by show 1 < 6; decide) h3 (by show ¬ (-1 : Int) = 0; decide)
 exact ⟨e1, fun m => e2 m⟩
theorem keep_four (n m : Int) : (keepL3 n m).sayE keepA false = 7 ∧ ∀ k, (keepL3 n m).say keepA false k = keepL3 n m := by
 obtain ⟨h1, _, _, h4⟩ := keepA_open
 have hw : (keepL3 n m).wrong keepA false = 7 := by
  rw [wrong_of rfl, if_pos h1, if_neg (by show ¬ 6 ≤ 2; decide)]
  exact if_neg (by show ¬ openN [aloneF keepA true, aloneF keepA true, aloneF keepA false] 2 = true; rw [h4]; decide)
 have := say_no (l := keepL3 n m) (a := keepA) (h := false) (by rw [hw]; decide)
 rw [hw] at this
 exact this
theorem keep_five {n m : Int} (hm : 2 ≤ m) : ((keepL3 n m).crash 0).fs = [aloneF keepA true] ∧ ((keepL3 n m).crash 0).bytes = ((keepL3 n m).crash 0).safe := by
 refine ⟨?_, rfl⟩
 have hw : wholeN [0 + n, 0 + n + m] ((keepL3 n m).high 0) = 1 := by
  show wholeN [0 + n, 0 + n + m] (0 + n) = 1
  unfold wholeN
  rw [List.takeWhile_cons, if_pos (by simp), List.takeWhile_cons, if_neg (by simp; omega)]
  rfl
 show ([aloneF keepA true, aloneF keepA true] : List Fm).take (wholeN [0 + n, 0 + n + m] ((keepL3 n m).high 0)) = _
 rw [hw]; rfl
theorem high_is {l : Lg} (keep : Int) : l.high keep = if 0 < keep then (if keep < l.bytes - l.safe then l.safe + keep else l.bytes) else l.safe := rfl
theorem sayR_bad {u : Int} {fs : List Fm} {a : At} {h : Bool} (ha : ¬ a.fault = 0) : sayR u fs a h = a.fault := by unfold sayR; rw [if_neg ha]
theorem sayR_full {u : Int} {fs : List Fm} {a : At} {h : Bool} (ha : a.fault = 0) (h6 : 6 ≤ fs.length) : sayR u fs a h = 4 := by unfold sayR; rw [if_pos ha, if_pos h6]
theorem sayR_open {u : Int} {fs : List Fm} {a : At} {h : Bool} (ha : a.fault = 0) (h6 : ¬ 6 ≤ fs.length) : sayR u fs a h = if openN (fs ++ [aloneF a h]) u.toNat = true then 0 else 7 := by unfold sayR; rw [if_pos ha, if_neg h6]
theorem keeps_told {u : Int} {l : Lg} (k : LgK u l) (a : At) (h : Bool) : l.sayE a h = 6 ∨ l.sayE a h = sayR u l.fs a h := by
 rcases lgk_told k a h with ⟨h, _⟩ | h
 ·exact Or.inl h
 ·exact Or.inr h
end Go.Proofs.YtjmeakkmfeoigaaGreatDoor
namespace Go.Proofs.YtjmeakkmfeoigaaGreatDoor
open Go.RowKit
def spanStep (ats : List At) (c t : List Int) (p : Int × Int) (D : Wd) : Int × Int :=
 if D.formIs ats c = true then (if pcN (D.val t) < p.1 then pcN (D.val t) else p.1, if p.2 < pcN (D.val t) then pcN (D.val t) else p.2) else p
def spanOver (ats : List At) (c t : List Int) (L : List Wd) : Int × Int := L.foldl (spanStep ats c t) (100, -1)
def spanP (ats : List At) (c t : List Int) (u : Nat) : Int × Int := spanOver ats c t (worldsL u)
def spanFault (ats : List At) (c t : List Int) (u : Int) : Int := if formFault ats c = 0 then (if faultN t = 0 then (if 0 ≤ u ∧ u ≤ 6 then (if (spanP ats c t u.toNat).2 < 0 then 5 else 0) else 1) else faultN t) else formFault ats c
def spanLo (ats : List At) (c t : List Int) (u : Int) : Int := if spanFault ats c t u = 0 then (spanP ats c t u.toNat).1 else 0
def spanHi (ats : List At) (c t : List Int) (u : Int) : Int := if spanFault ats c t u = 0 then (spanP ats c t u.toNat).2 else 0
def exactFault (ats : List At) (c t : List Int) (u : Int) : Int := if spanFault ats c t u = 0 then (if spanLo ats c t u = spanHi ats c t u then 0 else 8) else spanFault ats c t u
def exactN (ats : List At) (c t : List Int) (u : Int) : Int := if exactFault ats c t u = 0 then spanLo ats c t u else 0
theorem revInd {α : Type} {P : List α → Prop} (h0 : P []) (h1 : ∀ L a, P L → P (L ++ [a])) : ∀ L, P L := by
 intro L
 have key : ∀ n, P (L.take n) := by
  intro n
  induction n with
  | zero => exact h0
  | succ n ih =>
   rw [List.take_add_one]
   cases h : L[n]? with
   | none => simpa using ih
   | some a => exact h1 _ _ ih
 have := key L.length
 rwa [List.take_length] at this
theorem spanOver_add (ats : List At) (c t : List Int) (L : List Wd) (D : Wd) : spanOver ats c t (L ++ [D]) = spanStep ats c t (spanOver ats c t L) D := by
 unfold spanOver; rw [List.foldl_append]; rfl
theorem span_bound {ats : List At} {c t : List Int} : ∀ L : List Wd, ∀ D ∈ L, D.formIs ats c = true → (spanOver ats c t L).1 ≤ pcN (D.val t) ∧ pcN (D.val t) ≤ (spanOver ats c t L).2 := by
 refine revInd ?_ ?_
 ·intro D hD; cases hD
 ·intro L E ih D hD hf
  rw [spanOver_add]
  unfold spanStep
  rcases List.mem_append.1 hD with h | h
  ·obtain ⟨a, b⟩ := ih D h hf
   by_cases hE : E.formIs ats c = true
   ·rw [if_pos hE]
    constructor
    ·show (if _ then _ else _) ≤ _
     split <;> omega
    ·show _ ≤ (if _ then _ else _)
     split <;> omega
   ·rw [if_neg hE]; exact ⟨a, b⟩
  ·obtain rfl : D = E := by simpa using h
   rw [if_pos hf]
   constructor
   ·show (if _ then _ else _) ≤ _
    split <;> omega
   ·show _ ≤ (if _ then _ else _)
    split <;> omega
theorem span_hit {ats : List At} {c t : List Int} : ∀ L : List Wd, (spanOver ats c t L = (100, -1) ∧ ∀ D ∈ L, D.formIs ats c = false) ∨ ((∃ D ∈ L, D.formIs ats c = true ∧ pcN (D.val t) = (spanOver ats c t L).1) ∧ ∃ D ∈ L, D.formIs ats c = true ∧ pcN (D.val t) = (spanOver ats c t L).2) := by
 refine revInd ?_ ?_
 ·exact Or.inl ⟨rfl, fun D h => by cases h⟩
 ·intro L E ih
  rw [spanOver_add]
  have hl : ∀ D, D ∈ L → D ∈ L ++ [E] := fun D h => List.mem_append_left _ h
  have hr : E ∈ L ++ [E] := by simp
  have hp := pcN_le (E.val t)
  rcases Bool.eq_false_or_eq_true (E.formIs ats c) with hE | hE
  ·right
   rcases ih with ⟨h1, _⟩ | ⟨⟨D, hD, hf, e⟩, ⟨D', hD', hf', e'⟩⟩
   ·rw [h1]
    unfold spanStep
    rw [if_pos hE]
    refine ⟨⟨E, hr, hE, ?_⟩, ⟨E, hr, hE, ?_⟩⟩
    ·show _ = (if _ then _ else _)
     rw [if_pos (by show pcN (E.val t) < 100; omega)]
    ·show _ = (if _ then _ else _)
     rw [if_pos (by show (-1 : Int) < pcN (E.val t); omega)]
   ·unfold spanStep
    rw [if_pos hE]
    constructor
    ·by_cases h : pcN (E.val t) < (spanOver ats c t L).1
     ·exact ⟨E, hr, hE, by show _ = (if _ then _ else _); rw [if_pos h]⟩
     ·exact ⟨D, hl D hD, hf, by show _ = (if _ then _ else _); rw [if_neg h]; exact e⟩
    ·by_cases h : (spanOver ats c t L).2 < pcN (E.val t)
     ·exact ⟨E, hr, hE, by show _ = (if _ then _ else _); rw [if_pos h]⟩
     ·exact ⟨D', hl D' hD', hf', by show _ = (if _ then _ else _); rw [if_neg h]; exact e'⟩
  ·have es : spanStep ats c t (spanOver ats c t L) E = spanOver ats c t L := by unfold spanStep; rw [if_neg (by rw [hE]; decide)]
   rw [es]
   rcases ih with ⟨h1, h2⟩ | ⟨⟨D, hD, hf, e⟩, ⟨D', hD', hf', e'⟩⟩
   ·left
    refine ⟨h1, fun D hD => ?_⟩
    rcases List.mem_append.1 hD with h | h
    ·exact h2 D h
    ·obtain rfl : D = E := by simpa using h
     exact hE
   ·right
    exact ⟨⟨D, hl D hD, hf, e⟩, ⟨D', hl D' hD', hf', e'⟩⟩
theorem span_zero {ats : List At} {c t : List Int} {u : Int} : spanFault ats c t u = 0 ↔ formFault ats c = 0 ∧ faultN t = 0 ∧ (0 ≤ u ∧ u ≤ 6) ∧ ¬ (spanP ats c t u.toNat).2 < 0 := by
 unfold spanFault
 by_cases h1 : formFault ats c = 0
 ·rw [if_pos h1]
  by_cases h2 : faultN t = 0
  ·rw [if_pos h2]
   by_cases h3 : 0 ≤ u ∧ u ≤ 6
   ·rw [if_pos h3]
    by_cases h4 : (spanP ats c t u.toNat).2 < 0
    ·rw [if_pos h4]; exact ⟨fun h => absurd h (by decide), fun h => absurd h4 h.2.2.2⟩
    ·rw [if_neg h4]; exact ⟨fun _ => ⟨h1, h2, h3, h4⟩, fun _ => rfl⟩
   ·rw [if_neg h3]; exact ⟨fun h => absurd h (by decide), fun h => absurd h.2.2.1 h3⟩
  ·rw [if_neg h2]; exact ⟨fun h => absurd h h2, fun h => absurd h.2.1 h2⟩
 ·rw [if_neg h1]; exact ⟨fun h => absurd h h1, fun h => absurd h.1 h1⟩
theorem span_world {ats : List At} {c t : List Int} {u : Int} (h : spanFault ats c t u = 0) {w : Wd} (hw : w.ok = true) (hu : w.u = u) (hf : w.formIs ats c = true) : spanLo ats c t u ≤ pcN (w.val t) ∧ pcN (w.val t) ≤ spanHi ats c t u := by
 obtain ⟨_, h2, h3, _⟩ := span_zero.1 h
 unfold spanLo spanHi
 rw [if_pos h, if_pos h]
 obtain ⟨D, hD, hl⟩ := worldsL_like (u := u.toNat) hw (by omega)
 obtain ⟨n, hn⟩ := one_term h2
 have := span_bound (worldsL u.toNat) D hD (by rw [hl.form]; exact hf) (t := t)
 rw [hl.size hn] at this
 exact this
theorem span_ends {ats : List At} {c t : List Int} {u : Int} (h : spanFault ats c t u = 0) : (0 ≤ spanLo ats c t u ∧ spanLo ats c t u ≤ spanHi ats c t u ∧ spanHi ats c t u ≤ 6) ∧
    (∃ w : Wd, w.ok = true ∧ w.u = u ∧ w.formIs ats c = true ∧ pcN (w.val t) = spanLo ats c t u) ∧ ∃ w : Wd, w.ok = true ∧ w.u = u ∧ w.formIs ats c = true ∧ pcN (w.val t) = spanHi ats c t u := by
 obtain ⟨_, h2, h3, h4⟩ := span_zero.1 h
 have e1 : spanLo ats c t u = (spanP ats c t u.toNat).1 := by unfold spanLo; rw [if_pos h]
 have e2 : spanHi ats c t u = (spanP ats c t u.toNat).2 := by unfold spanHi; rw [if_pos h]
 rcases span_hit (ats := ats) (c := c) (t := t) (worldsL u.toNat) with ⟨h5, _⟩ | ⟨⟨D, hD, hf, e⟩, ⟨D', hD', hf', e'⟩⟩
 ·exact absurd (show (spanP ats c t u.toNat).2 < 0 by unfold spanP; rw [h5]; decide) h4
 ·have hb := span_bound (t := t) _ D hD hf
  have hb' := span_bound (t := t) _ D' hD' hf'
  have p1 := pcN_le (D.val t)
  have p2 := pcN_le (D'.val t)
  have q1 : (spanP ats c t u.toNat).1 = pcN (D.val t) := e.symm
  have q2 : (spanP ats c t u.toNat).2 = pcN (D'.val t) := e'.symm
  rw [e1, e2, q1, q2]
  refine ⟨⟨by omega, ?_, by omega⟩, ⟨D, worldsL_ok (by omega) hD, by rw [worldsL_u (by omega) hD]; omega, hf, rfl⟩, ⟨D', worldsL_ok (by omega) hD', by rw [worldsL_u (by omega) hD']; omega, hf', rfl⟩⟩
  have := hb.2
  rw [← e'] at this
  exact this
end Go.Proofs.YtjmeakkmfeoigaaGreatDoor
namespace Go.Proofs.YtjmeakkmfeoigaaGreatDoor
open Go.RowKit
def askStep (fs : List Fm) (ats : List At) (c : List Int) (p : Int × Int) (D : Wd) : Int × Int :=
 (if (D.so fs && D.formIs ats c) = true then p.1 + 1 else p.1, if (D.so fs && !D.formIs ats c) = true then p.2 + 1 else p.2)
def askOver (fs : List Fm) (ats : List At) (c : List Int) (L : List Wd) : Int × Int := L.foldl (askStep fs ats c) (0, 0)
def askP (fs : List Fm) (ats : List At) (c : List Int) (u : Nat) : Int × Int := askOver fs ats c (worldsL u)
def answerN (p : Int × Int) : Int := if p.2 = 0 then 1 else if p.1 = 0 then -1 else 0
def askFault (fs : List Fm) (ats : List At) (c : List Int) (u : Int) : Int := if formsFault fs u = 0 then (if formFault ats c = 0 then (if (askP fs ats c u.toNat).1 + (askP fs ats c u.toNat).2 = 0 then 6 else 0) else formFault ats c) else formsFault fs u
def askN (fs : List Fm) (ats : List At) (c : List Int) (u : Int) : Int := if askFault fs ats c u = 0 then answerN (askP fs ats c u.toNat) else 0
def sumP (f : Nat → Int × Int) : Nat → Int × Int
 | 0 => (0, 0)
 | k + 1 => ((sumP f k).1 + (f k).1, (sumP f k).2 + (f k).2)
def alwaysP (fs : List Fm) (ats : List At) (c : List Int) : Int × Int := sumP (askP fs ats c) 7
def alwaysFault (fs : List Fm) (ats : List At) (c : List Int) : Int := if formsFault fs 0 = 0 then (if formFault ats c = 0 then (if (alwaysP fs ats c).1 + (alwaysP fs ats c).2 = 0 then 6 else 0) else formFault ats c) else formsFault fs 0
def alwaysN (fs : List Fm) (ats : List At) (c : List Int) : Int := if alwaysFault fs ats c = 0 then answerN (alwaysP fs ats c) else 0
theorem askOver_add (fs : List Fm) (ats : List At) (c : List Int) (L : List Wd) (D : Wd) : askOver fs ats c (L ++ [D]) = askStep fs ats c (askOver fs ats c L) D := by
 unfold askOver; rw [List.foldl_append]; rfl
theorem ask_range (fs : List Fm) (ats : List At) (c : List Int) : ∀ L : List Wd, (0 ≤ (askOver fs ats c L).1 ∧ 0 ≤ (askOver fs ats c L).2) ∧ (askOver fs ats c L).1 + (askOver fs ats c L).2 ≤ L.length := by
 refine revInd ?_ ?_
 ·exact ⟨⟨Int.le_refl _, Int.le_refl _⟩, Int.le_refl _⟩
 ·intro L E ih
  rw [askOver_add]
  unfold askStep
  rw [List.length_append]
  cases E.so fs <;> cases E.formIs ats c <;> simp <;> omega
theorem ask_yes (fs : List Fm) (ats : List At) (c : List Int) : ∀ L : List Wd, (askOver fs ats c L).1 = 0 ↔ ∀ D ∈ L, D.so fs = true → D.formIs ats c = false := by
 refine revInd ?_ ?_
 ·exact ⟨fun _ D h => (by cases h), fun _ => rfl⟩
 ·intro L E ih
  have hr := (ask_range fs ats c L).1.1
  rw [askOver_add]
  show (if (E.so fs && E.formIs ats c) = true then _ else _) = 0 ↔ _
  by_cases h : (E.so fs && E.formIs ats c) = true
  ·rw [if_pos h]
   constructor
   ·intro g; omega
   ·intro g
    rw [Bool.and_eq_true] at h
    have := g E (by simp) h.1
    rw [h.2] at this; exact absurd this (by decide)
  ·rw [if_neg h, ih]
   constructor
   ·intro g D hD hs
    rcases List.mem_append.1 hD with hD | hD
    ·exact g D hD hs
    ·obtain rfl : D = E := by simpa using hD
     rw [hs] at h
     simpa using h
   ·intro g D hD hs
    exact g D (List.mem_append_left _ hD) hs
theorem ask_no (fs : List Fm) (ats : List At) (c : List Int) : ∀ L : List Wd, (askOver fs ats c L).2 = 0 ↔ ∀ D ∈ L, D.so fs = true → D.formIs ats c = true := by
 refine revInd ?_ ?_
 ·exact ⟨fun _ D h => (by cases h), fun _ => rfl⟩
 ·intro L E ih
  have hr := (ask_range fs ats c L).1.2
  rw [askOver_add]
  show (if (E.so fs && !E.formIs ats c) = true then _ else _) = 0 ↔ _
  by_cases h : (E.so fs && !E.formIs ats c) = true
  ·rw [if_pos h]
   constructor
   ·intro g; omega
   ·intro g
    rw [Bool.and_eq_true] at h
    have := g E (by simp) h.1
    rw [this] at h; exact absurd h.2 (by decide)
  ·rw [if_neg h, ih]
   constructor
   ·intro g D hD hs
    rcases List.mem_append.1 hD with hD | hD
    ·exact g D hD hs
    ·obtain rfl : D = E := by simpa using hD
     rw [hs] at h
     simpa using h
   ·intro g D hD hs
    exact g D (List.mem_append_left _ hD) hs
theorem so_alike {w D : Wd} (h : Alike w D) (fs : List Fm) : D.so fs = w.so fs := by
 unfold Wd.so
 congr 1
 funext f
 exact h.form f.ats f.c
theorem ask_all_no {fs : List Fm} {ats : List At} {c : List Int} {u : Nat} (h : (askP fs ats c u).2 = 0) {w : Wd} (hw : w.ok = true) (hu : w.u = u) (hs : w.so fs = true) : w.formIs ats c = true := by
 obtain ⟨D, hD, hl⟩ := worldsL_like hw hu
 have := (ask_no fs ats c _).1 h D hD (by rw [so_alike hl]; exact hs)
 rw [hl.form] at this
 exact this
theorem ask_all_yes {fs : List Fm} {ats : List At} {c : List Int} {u : Nat} (h : (askP fs ats c u).1 = 0) {w : Wd} (hw : w.ok = true) (hu : w.u = u) (hs : w.so fs = true) : w.formIs ats c = false := by
 obtain ⟨D, hD, hl⟩ := worldsL_like hw hu
 have := (ask_yes fs ats c _).1 h D hD (by rw [so_alike hl]; exact hs)
 rw [hl.form] at this
 exact this
theorem ask_open {fs : List Fm} {ats : List At} {c : List Int} {u : Nat} : (askP fs ats c u).1 + (askP fs ats c u).2 = 0 ↔ openN fs u = false := by
 have hr := (ask_range fs ats c (worldsL u)).1
 have eO : openN fs u = (worldsL u).any fun D => D.so fs := by unfold openN worldsL; rw [List.any_map]; rfl
 have e1 := ask_yes fs ats c (worldsL u)
 have e2 := ask_no fs ats c (worldsL u)
 unfold askP
 constructor
 ·intro h
  rw [eO, List.any_eq_false]
  intro D hD hs
  have h1 := e1.1 (by omega) D hD hs
  have h2 := e2.1 (by omega) D hD hs
  rw [h1] at h2; exact absurd h2 (by decide)
 ·intro h
  rw [eO, List.any_eq_false] at h
  have h1 := e1.2 fun D hD hs => absurd hs (h D hD)
  have h2 := e2.2 fun D hD hs => absurd hs (h D hD)
  omega
theorem ask_zero {fs : List Fm} {ats : List At} {c : List Int} {u : Int} : askFault fs ats c u = 0 ↔ formsFault fs u = 0 ∧ formFault ats c = 0 ∧ ¬ (askP fs ats c u.toNat).1 + (askP fs ats c u.toNat).2 = 0 := by
 unfold askFault
 by_cases h1 : formsFault fs u = 0
 ·rw [if_pos h1]
  by_cases h2 : formFault ats c = 0
  ·rw [if_pos h2]
   by_cases h3 : (askP fs ats c u.toNat).1 + (askP fs ats c u.toNat).2 = 0
   ·rw [if_pos h3]; exact ⟨fun h => absurd h (by decide), fun h => absurd h3 h.2.2⟩
   ·rw [if_neg h3]; exact ⟨fun _ => ⟨h1, h2, h3⟩, fun _ => rfl⟩
  ·rw [if_neg h2]; exact ⟨fun h => absurd h h2, fun h => absurd h.2.1 h2⟩
 ·rw [if_neg h1]; exact ⟨fun h => absurd h h1, fun h => absurd h.1 h1⟩
theorem ask_neg {fs : List Fm} {ats : List At} {c : List Int} (hf : formFault ats c = 0) (h19 : c.length ≤ 19) {u : Nat} (hu : u ≤ 6) : askP fs ats (c ++ [12]) u = ((askP fs ats c u).2, (askP fs ats c u).1) := by
 have key : ∀ L : List Wd, (∀ D ∈ L, D.ok = true) → askOver fs ats (c ++ [12]) L = ((askOver fs ats c L).2, (askOver fs ats c L).1) := by
  refine revInd ?_ ?_
  ·intro _; rfl
  ·intro L E ih h
   rw [askOver_add, askOver_add, ih fun D hD => h D (List.mem_append_left _ hD)]
   unfold askStep
   rw [formIs_no hf h19 (h E (by simp)), Bool.not_not]
 exact key _ fun D hD => worldsL_ok hu hD
theorem answer_neg {p : Int × Int} (h : ¬ p.1 + p.2 = 0) : answerN (p.2, p.1) = - answerN p := by
 unfold answerN
 simp only
 by_cases h1 : p.1 = 0
 ·rw [if_pos h1, if_neg (by omega : ¬ p.2 = 0), if_pos h1]; rfl
 ·rw [if_neg h1]
  by_cases h2 : p.2 = 0
  ·rw [if_pos h2, if_pos h2]
  ·rw [if_neg h2, if_neg h2, if_neg h1]; rfl
theorem answer_one {p : Int × Int} : answerN p = 1 ↔ p.2 = 0 := by
 unfold answerN
 by_cases h2 : p.2 = 0
 ·rw [if_pos h2]; exact ⟨fun _ => h2, fun _ => rfl⟩
 ·rw [if_neg h2]
  by_cases h1 : p.1 = 0
  ·rw [if_pos h1]; exact ⟨fun h => absurd h (by decide), fun h => absurd h h2⟩
  ·rw [if_neg h1]; exact ⟨fun h => absurd h (by decide), fun h => absurd h h2⟩
theorem answer_range (p : Int × Int) : -1 ≤ answerN p ∧ answerN p ≤ 1 := by
 unfold answerN
 split
 ·decide
 ·split <;> decide
theorem answer_less {p : Int × Int} (h : answerN p = -1) : p.1 = 0 := by
 unfold answerN at h
 by_cases h2 : p.2 = 0
 ·rw [if_pos h2] at h; exact absurd h (by decide)
 ·rw [if_neg h2] at h
  by_cases h1 : p.1 = 0
  ·exact h1
  ·rw [if_neg h1] at h; exact absurd h (by decide)
end Go.Proofs.YtjmeakkmfeoigaaGreatDoor
namespace Go.Proofs.YtjmeakkmfeoigaaGreatDoor
open Go.RowKit
structure LgOk (u : Int) (l : Lg) : Prop where
 hu : l.u = u
 good : ∀ f ∈ l.fs, ∃ a h, f = aloneF a h ∧ a.fault = 0
 n6 : l.fs.length ≤ 6
 op : openN l.fs u.toNat = true
 stop : l.stop = false
 left : l.left < 0
theorem lgok0 (u : Int) : LgOk u (lg0 u) := ⟨rfl, fun f h => (by cases h), Nat.zero_le _, open_nil _, rfl, by show (-1 : Int) < 0; decide⟩
theorem lgok_say {u : Int} {l : Lg} (h : LgOk u l) (a : At) (b : Bool) (n : Int) : LgOk u (l.say a b n) ∧ ((l.sayE a b = 0 ∧ (l.say a b n).fs.length = l.fs.length + 1) ∨ (¬ l.sayE a b = 0 ∧ (l.say a b n).fs.length = l.fs.length)) := by
 by_cases hw : l.wrong a b = 0
 ·have e := wrong_of h.stop a b
  rw [hw] at e
  have ha : a.fault = 0 := by
   by_cases ha : a.fault = 0
   ·exact ha
   ·rw [if_neg ha] at e; exact absurd e.symm ha
  rw [if_pos ha] at e
  have h6 : l.fs.length < 6 := by
   by_cases h6 : 6 ≤ l.fs.length
   ·rw [if_pos h6] at e; exact absurd e (by decide)
   ·omega
  rw [if_neg (by omega)] at e
  have ho : openN (l.fs ++ [aloneF a b]) l.u.toNat = true := by
   by_cases ho : openN (l.fs ++ [aloneF a b]) l.u.toNat = true
   ·exact ho
   ·rw [if_neg ho] at e; exact absurd e (by decide)
  obtain ⟨e1, e2⟩ := say_ok h.stop ha h6 ho (by have := h.left; omega)
  rw [e2 n]
  refine ⟨⟨h.hu, fun f hf => ?_, ?_, ?_, h.stop, ?_⟩, Or.inl ⟨e1, ?_⟩⟩
  ·rcases List.mem_append.1 hf with hf | hf
   ·exact h.good f hf
   ·exact ⟨a, b, by simpa using hf, ha⟩
  ·show (l.fs ++ [aloneF a b]).length ≤ 6
   rw [List.length_append]; show _ + 1 ≤ 6; omega
  ·rw [h.hu] at ho; exact ho
  ·show lessN1 l.left < 0
   unfold lessN1; rw [if_pos h.left]; exact h.left
  ·show (l.fs ++ [aloneF a b]).length = _
   rw [List.length_append]; rfl
 ·obtain ⟨e1, e2⟩ := say_no hw
  rw [e2 n]
  exact ⟨h, Or.inr ⟨by rw [e1]; exact hw, rfl⟩⟩
theorem lgok_sync {u : Int} {l : Lg} (h : LgOk u l) : l.syncE = 0 ∧ LgOk u l.sync ∧ l.sync.fs = l.fs := by
 have hl : ¬ l.left = 0 := by have := h.left; omega
 unfold Lg.syncE Lg.sync
 rw [h.stop, if_neg (by decide), if_neg hl, if_neg (by decide), if_neg hl]
 refine ⟨rfl, ⟨h.hu, h.good, h.n6, h.op, rfl, ?_⟩, rfl⟩
 show lessN1 l.left < 0
 unfold lessN1; rw [if_pos h.left]; exact h.left
theorem lgok_crash {u : Int} {l : Lg} (h : LgOk u l) (keep : Int) : LgOk u (l.crash keep) ∧ (l.crash keep).fs.length ≤ l.fs.length := by
 have hl : (l.crash keep).fs.length ≤ l.fs.length := by show (l.fs.take _).length ≤ _; rw [List.length_take]; omega
 refine ⟨⟨h.hu, fun f hf => h.good f (List.mem_of_mem_take hf), by have := h.n6; omega, open_less (fun f hf => List.mem_of_mem_take hf) h.op, rfl, by show (-1 : Int) < 0; decide⟩, hl⟩
theorem lgok_open {u : Int} {l : Lg} (h : LgOk u l) : l.openB = true := by unfold Lg.openB; rw [h.hu]; exact h.op
theorem alone_fm {f : Fm} (h : ∃ a b, f = aloneF a b ∧ a.fault = 0) : f.fault = 0 ∧ f.ats.length = 1 ∧ f.c.length ≤ 2 := by
 obtain ⟨a, b, rfl, ha⟩ := h
 refine ⟨alone_right ha b, rfl, ?_⟩
 cases b
 ·exact Nat.le_refl 2
 ·exact (by decide : 1 ≤ 2)
def bothFm (f g : Fm) : Fm := ⟨f.ats ++ g.ats, f.c ++ (g.c.map (movedF f.ats.length) ++ [10])⟩
def accF (fs : List Fm) : Nat → Fm
 | 0 => fs.getD 0 fmZ
 | i + 1 => bothFm (accF fs i) (fs.getD (i + 1) fmZ)
theorem both_is {f g : Fm} (hf : f.fault = 0) (hg : g.fault = 0) (hl : f.ats.length + g.ats.length ≤ 6) (hc : f.c.length + g.c.length ≤ 19) : (bothFm f g).fault = 0 ∧ ∀ D : Wd, D.ok = true → D.formIs (bothFm f g).ats (bothFm f g).c = (D.formIs f.ats f.c && D.formIs g.ats g.c) := by
 have h0 : formFault (bothFm f g).ats (bothFm f g).c = 0 := good_both hf hg hl hc
 refine ⟨h0, fun D hD => ?_⟩
 unfold Wd.formIs
 rw [if_pos (wdForm_zero.2 ⟨h0, hD⟩), if_pos (wdForm_zero.2 ⟨hf, hD⟩), if_pos (wdForm_zero.2 ⟨hg, hD⟩)]
 have e : D.heldL (bothFm f g).ats = D.heldL f.ats ++ D.heldL g.ats := by unfold Wd.heldL bothFm; rw [List.map_append]
 rw [e]
 exact val_both _ _ (by unfold Wd.heldL; rw [List.length_map]) hf hg hl
theorem acc_facts {fs : List Fm} (hgood : ∀ f ∈ fs, ∃ a h, f = aloneF a h ∧ a.fault = 0) (h6 : fs.length ≤ 6) : ∀ i, i < fs.length → (accF fs i).fault = 0 ∧ (accF fs i).ats.length = i + 1 ∧ (accF fs i).c.length ≤ 3 * i + 2 ∧ ∀ D : Wd, D.ok = true → D.formIs (accF fs i).ats (accF fs i).c = true → ∀ j, j ≤ i → ∀ f, fs[j]? = some f → D.formIs f.ats f.c = true := by
 intro i
 induction i with
 | zero =>
  intro hi
  have e : fs.getD 0 fmZ = fs[0] := by rw [List.getD_eq_getElem?_getD, List.getElem?_eq_getElem hi]; rfl
  have ha := alone_fm (hgood fs[0] (List.getElem_mem hi))
  unfold accF
  rw [e]
  refine ⟨ha.1, ha.2.1, by have := ha.2.2; omega, fun D _ hD j hj f hf => ?_⟩
  obtain rfl : j = 0 := by omega
  rw [List.getElem?_eq_getElem hi] at hf
  obtain rfl := Option.some.inj hf
  exact hD
 | succ i ih =>
  intro hi
  obtain ⟨a1, a2, a3, a4⟩ := ih (by omega)
  have e : fs.getD (i + 1) fmZ = fs[i + 1] := by rw [List.getD_eq_getElem?_getD, List.getElem?_eq_getElem hi]; rfl
  have ha := alone_fm (hgood fs[i + 1] (List.getElem_mem hi))
  have hu : accF fs (i + 1) = bothFm (accF fs i) fs[i + 1] := by
   show bothFm (accF fs i) (fs.getD (i + 1) fmZ) = _
   rw [e]
  rw [hu]
  obtain ⟨b1, b2⟩ := both_is a1 ha.1 (by rw [a2, ha.2.1]; omega) (by have := ha.2.2; omega)
  refine ⟨b1, ?_, ?_, fun D hD h j hj f hf => ?_⟩
  ·show (_ ++ _ : List At).length = _
   rw [List.length_append, a2, ha.2.1]
  ·show (_ ++ (_ ++ _) : List Int).length ≤ _
   rw [List.length_append, List.length_append, List.length_map]
   have := ha.2.2
   show _ + (_ + 1) ≤ _
   omega
  ·rw [b2 D hD, Bool.and_eq_true] at h
   rcases Nat.lt_or_ge i j with hji | hji
   ·obtain rfl : j = i + 1 := by omega
    rw [List.getElem?_eq_getElem hi] at hf
    obtain rfl := Option.some.inj hf
    exact h.2
   ·exact a4 D hD h.1 j hji f hf
theorem acc_so {fs : List Fm} (hgood : ∀ f ∈ fs, ∃ a h, f = aloneF a h ∧ a.fault = 0) (h6 : fs.length ≤ 6) {D : Wd} (hD : D.ok = true) (hs : D.so fs = true) : ∀ i, i < fs.length → D.formIs (accF fs i).ats (accF fs i).c = true := by
 have hall : ∀ f ∈ fs, D.formIs f.ats f.c = true := by unfold Wd.so at hs; rw [List.all_eq_true] at hs; exact hs
 intro i
 induction i with
 | zero =>
  intro hi
  have e : fs.getD 0 fmZ = fs[0] := by rw [List.getD_eq_getElem?_getD, List.getElem?_eq_getElem hi]; rfl
  unfold accF
  rw [e]
  exact hall _ (List.getElem_mem hi)
 | succ i ih =>
  intro hi
  obtain ⟨a1, a2, a3, _⟩ := acc_facts hgood h6 i (by omega)
  have e : fs.getD (i + 1) fmZ = fs[i + 1] := by rw [List.getD_eq_getElem?_getD, List.getElem?_eq_getElem hi]; rfl
  have ha := alone_fm (hgood fs[i + 1] (List.getElem_mem hi))
  have hu : accF fs (i + 1) = bothFm (accF fs i) fs[i + 1] := by
   show bothFm (accF fs i) (fs.getD (i + 1) fmZ) = _
   rw [e]
  rw [hu, (both_is a1 ha.1 (by rw [a2, ha.2.1]; omega) (by have := ha.2.2; omega)).2 D hD, ih (by omega), hall _ (List.getElem_mem hi)]
  rfl
theorem said_follows {fs : List Fm} {u : Int} (hu : 0 ≤ u ∧ u ≤ 6) (hgood : ∀ f ∈ fs, ∃ a h, f = aloneF a h ∧ a.fault = 0) (h6 : fs.length ≤ 6) (ho : openN fs u.toNat = true) {f : Fm} (hf : f ∈ fs) : askFault fs f.ats f.c u = 0 ∧ askN fs f.ats f.c u = 1 := by
 have hz : formsFault fs u = 0 := forms_zero.2 ⟨⟨List.length_pos_iff.2 (List.ne_nil_of_mem hf), h6⟩, fun g hg => (alone_fm (hgood g hg)).1, hu⟩
 have hff : formFault f.ats f.c = 0 := (alone_fm (hgood f hf)).1
 have hall : ∀ D : Wd, D.so fs = true → D.formIs f.ats f.c = true := fun D hs => by
  unfold Wd.so at hs
  rw [List.all_eq_true] at hs
  exact hs f hf
 have p2 : (askP fs f.ats f.c u.toNat).2 = 0 := (ask_no fs f.ats f.c _).2 fun D _ hs => hall D hs
 have p1 : ¬ (askP fs f.ats f.c u.toNat).1 = 0 := fun h => by
  have hno := (ask_yes fs f.ats f.c _).1 h
  unfold openN at ho
  rw [List.any_eq_true] at ho
  obtain ⟨N, hN, hs⟩ := ho
  have := hno (madeN N 8) (List.mem_map.2 ⟨N, hN, rfl⟩) hs
  rw [hall _ hs] at this
  exact absurd this (by decide)
 have e0 : askFault fs f.ats f.c u = 0 := by unfold askFault; rw [if_pos hz, if_pos hff, if_neg (by rw [p2]; omega)]
 refine ⟨e0, ?_⟩
 unfold askN answerN
 rw [if_pos e0, if_pos p2]
theorem said_model {fs : List Fm} {u : Int} (hu : 0 ≤ u ∧ u ≤ 6) (hgood : ∀ f ∈ fs, ∃ a h, f = aloneF a h ∧ a.fault = 0) (h6 : fs.length ≤ 6) (ho : openN fs u.toNat = true) {i : Nat} (hi : i + 1 = fs.length) :
    (modelFault (accF fs i).ats (accF fs i).c u = 4 ∨ modelFault (accF fs i).ats (accF fs i).c u = 0) ∧ (modelFault (accF fs i).ats (accF fs i).c u = 0 → (modelW (accF fs i).ats (accF fs i).c u).ok = true ∧ ∀ f ∈ fs, (modelW (accF fs i).ats (accF fs i).c u).formIs f.ats f.c = true) := by
 obtain ⟨a1, _, _, a4⟩ := acc_facts hgood h6 i (by omega)
 have hff : formFault (accF fs i).ats (accF fs i).c = 0 := a1
 refine ⟨?_, fun h0 => ?_⟩
 ·cases hL : cubesC (accF fs i).c with
  | none => left; unfold modelFault; rw [if_pos hff, hL]
  | some L =>
   right
   have e : modelFault (accF fs i).ats (accF fs i).c u = if (modelL (accF fs i).ats u.toNat L).isSome = true then 0 else 5 := by
    unfold modelFault; rw [if_pos hff, hL]; show (if 0 ≤ u ∧ u ≤ 6 then _ else (1 : Int)) = _; rw [if_pos hu]
   by_cases hm : (modelL (accF fs i).ats u.toNat L).isSome = true
   ·rw [e, if_pos hm]
   ·rw [if_neg hm] at e
    obtain ⟨D, hD, hDu, hs⟩ := open_has (u := u.toNat) (by omega) ho
    have h1 := acc_so hgood h6 hD hs i (by omega)
    rw [model_five e hff hD (by rw [hDu]; omega)] at h1
    exact absurd h1 (by decide)
 ·obtain ⟨_, g2, _, g4⟩ := model_zero h0
  refine ⟨g2, fun f hf => ?_⟩
  obtain ⟨j, hj⟩ := List.mem_iff_getElem?.1 hf
  have hjl := (List.getElem?_eq_some_iff.1 hj).1
  exact a4 _ g2 g4 j (by omega) f hj
end Go.Proofs.YtjmeakkmfeoigaaGreatDoor