/-
  Facts and contracts that the statement leans on.
-/
import Derived.Test.YtjaedfjfcghgcabGreatDoorLibX13
import Derived.Test.YtjaedfjfcghgcabGreatDoorLibX16
import Derived.Test.YtjaedfjfcghgcabGreatDoorLibX6
import Derived.Test.YtjaedfjfcghgcabGreatDoorLibX5
import Derived.Test.YtjaedfjfcghgcabGreatDoorLibX10
import Derived.Test.YtjaedfjfcghgcabGreatDoorLibX2
import Derived.Test.YtjaedfjfcghgcabGreatDoorLibX8
import Derived.Test.YtjaedfjfcghgcabGreatDoorLibX3
import Derived.Test.YtjaedfjfcghgcabGreatDoorLibX4
import Derived.Test.YtjaedfjfcghgcabGreatDoorLibX7
namespace Go.Proofs.YtjaedfjfcghgcabGreatDoor
open Go.ChangeShapes Go.WideShapes Go.ChangeAt Go.RowKit
set_option maxRecDepth 100000
theorem modelOf_any (va vc : Value) (ats : List At) (c : List Int) (u : Int) (w : World) (hA : ReadsA w va ats) (hC : Reads w vc c) (hK : KindsLaid w) (hT : TimesLaid w) (hg : Laid w) :
    Calls Tryz.prog 7 #[.agg #[va, vc], .int .i64 u] w (Bk w (.tuple #[.agg (arrW (modelW ats c u)), errV (modelFault ats c u)])) := by
 obtain ⟨ao, acap, rfl, _⟩ := hA.slice
 obtain ⟨co, ccap, rfl, _⟩ := hC.slice
 by_cases hf : formFault ats c = 0
 ·cases hL : cubesC c with
  | none =>
   have ef : modelFault ats c u = 4 := by unfold modelFault; rw [if_pos hf, hL]
   have ew : modelW ats c u = ⟨0, 0, 0, 0⟩ := by unfold modelW; rw [if_neg (by rw [ef]; decide)]
   rw [ef, ew, errV_no (by decide)]
   refine modelOf_err ao _ acap co _ ccap u 4 w fun W hW => ?_
   have h := of_good _ _ ats c W (hA.below hW) (hC.below hW) (hK.below hW) hf
   rw [hL] at h
   exact h
  | some L =>
   have hCu : ∀ W, Below w.heap.size w W → Calls Tryz.prog 6 #[.agg #[.slice ao ats.length acap, .slice co c.length ccap]] W fun e w' => ∃ lo lcap, e = .returned (.tuple #[.slice lo L.length lcap, .nilIface]) ∧ RS2 (fun _ => True) w' (.slice lo L.length lcap) L ∧ Below W.heap.size W w' := fun W hW => by
    refine (of_good _ _ ats c W (hA.below hW) (hC.below hW) (hK.below hW) hf).mono ?_
    rintro e w' ⟨ho, hb⟩
    rw [hL] at ho
    obtain ⟨v, rfl, hr⟩ := ho
    obtain ⟨lo, lcap, rfl, _⟩ := hr.slice
    exact ⟨lo, lcap, rfl, hr.mono fun _ _ _ => trivial, hb⟩
   by_cases hu : 0 ≤ u ∧ u ≤ 6
   ·obtain ⟨n, rfl⟩ := Int.eq_ofNat_of_zero_le hu.1
    refine (modelOf_in n (by omega) ats c L ao acap co ccap w hA hK hT hg hf hL hCu).mono ?_
    rintro e w' ⟨hor, hb⟩
    refine ⟨?_, hb⟩
    rcases hor with ⟨N, hN, rfl⟩ | ⟨hN, rfl⟩
    ·have ef : modelFault ats c n = 0 := by unfold modelFault; rw [if_pos hf, hL]; simp only; rw [if_pos hu, Int.toNat_natCast, hN]; rfl
     have ew : modelW ats c n = madeN N 8 := by unfold modelW modelN; rw [if_pos ef, hL, Int.toNat_natCast]; simp only [Option.getD_some]; rw [hN]; rfl
     rw [ef, ew]; rfl
    ·have ef : modelFault ats c n = 5 := by unfold modelFault; rw [if_pos hf, hL]; simp only; rw [if_pos hu, Int.toNat_natCast, hN]; rfl
     have ew : modelW ats c n = ⟨0, 0, 0, 0⟩ := by unfold modelW; rw [if_neg (by rw [ef]; decide)]
     rw [ef, ew, errV_no (by decide)]
   ·have ef : modelFault ats c u = 1 := by unfold modelFault; rw [if_pos hf, hL]; simp only; rw [if_neg hu]
    have ew : modelW ats c u = ⟨0, 0, 0, 0⟩ := by unfold modelW; rw [if_neg (by rw [ef]; decide)]
    rw [ef, ew, errV_no (by decide)]
    refine modelOf_out ao _ acap co _ ccap u hu w fun W hW => ?_
    refine (hCu W hW).mono ?_
    rintro e w' ⟨lo, lcap, rfl, _, hb⟩
    exact ⟨lo, _, lcap, rfl, hb⟩
 ·have ef : modelFault ats c u = formFault ats c := by unfold modelFault; rw [if_neg hf]
  have ew : modelW ats c u = ⟨0, 0, 0, 0⟩ := by unfold modelW; rw [if_neg (by rw [ef]; exact hf)]
  rw [ef, ew, errV_no hf]
  exact modelOf_err ao _ acap co _ ccap u _ w fun W hW => of_bad _ _ ats c W (hA.below hW) (hC.below hW) (hK.below hW) hf
end Go.Proofs.YtjaedfjfcghgcabGreatDoor
namespace Go.Proofs.YtjaedfjfcghgcabGreatDoor
open Go.ChangeShapes Go.WideShapes Go.ChangeAt Go.RowKit
set_option maxRecDepth 100000
theorem firstTo_at {ats : List At} {c : List Int} {n : Nat} (hs : someM ats c n = true) (hz : ∀ j, j < n → someM ats c j = false) : ∀ k, n < k → firstTo ats c k = n := by
 intro k
 induction k with
 | zero => intro h; omega
 | succ k ih =>
  intro h
  unfold firstTo
  rcases Nat.lt_or_ge n k with h1 | h1
  ·rw [ih h1, if_neg (by omega)]
  ·obtain rfl : n = k := by omega
   have : firstTo ats c n < 0 := by
    have hr := firstTo_range ats c n
    by_cases hl : firstTo ats c n < 0
    ·exact hl
    ·exfalso
     obtain ⟨j, hj⟩ := Int.eq_ofNat_of_zero_le (Int.not_lt.1 hl)
     obtain ⟨a, b, _⟩ := firstTo_some hj
     rw [hz j b] at a; exact absurd a (by decide)
   rw [if_pos this, if_pos hs]
theorem firstTo_no {ats : List At} {c : List Int} {k : Nat} (hz : ∀ j, j < k → someM ats c j = false) : firstTo ats c k < 0 := by
 by_cases hl : firstTo ats c k < 0
 ·exact hl
 ·exfalso
  obtain ⟨j, hj⟩ := Int.eq_ofNat_of_zero_le (Int.not_lt.1 hl)
  obtain ⟨a, b, _⟩ := firstTo_some hj
  rw [hz j b] at a; exact absurd a (by decide)
theorem getD_some (m : Nat → Bool) {j : Nat} (h : j < 7) : ((List.range 7).map m).getD j false = m j := by
 rw [List.getD_eq_getElem?_getD, List.getElem?_map, List.getElem?_range h]; rfl
theorem list_any (va vc : Value) (ats : List At) (c : List Int) (w : World) (hA : ReadsA w va ats) (hC : Reads w vc c) (hK : KindsLaid w) (hT : TimesLaid w) (hg : Laid w) :
    Calls Tryz.prog 56 #[.agg #[va, vc]] w fun e w' => (∃ v, e = .returned (.tuple #[v, errV (listFault ats c)]) ∧ ReadsO w' v (listL ats c)) ∧ Below w.heap.size w w' := by
 have hM := fun (u : Int) W hW => modelOf_any va vc ats c u W (hA.below hW) (hC.below hW) (hK.below hW) (hT.below hW) (hg.below hW)
 obtain ⟨ao, acap, rfl, _⟩ := hA.slice
 obtain ⟨co, ccap, rfl, _⟩ := hC.slice
 by_cases h0 : listFault ats c = 0
 ·have el : listL ats c = (List.range 7).map (someM ats c) := by unfold listL; rw [if_pos h0]
  rw [el, h0]
  refine list_good ao _ acap co _ ccap (someM ats c) w fun u hu W hW => ?_
  refine (hM (u : Int) W hW).mono ?_
  rintro e w' ⟨rfl, hb⟩
  refine ⟨⟨modelW ats c (u : Int), ?_⟩, hb⟩
  have hm := list_well h0 hu
  rcases (Bool.eq_false_or_eq_true (someM ats c u)) with hs | hs
  ·rw [hs, if_pos rfl] at hm; rw [hm, hs]; rfl
  ·rw [hs, if_neg (by decide)] at hm; rw [hm, hs]; rfl
 ·obtain ⟨⟨e1, h5⟩, hm⟩ := list_ill h0
  have el : listL ats c = [] := by unfold listL; rw [if_neg h0]
  rw [el, errV_no h0]
  refine (list_bad ao _ acap co _ ccap (listFault ats c) (by rw [e1]; exact h5) w fun W hW => ?_).mono ?_
  ·refine (hM 0 W hW).mono ?_
   rintro e w' ⟨rfl, hb⟩
   have := hm 0
   refine ⟨⟨modelW ats c 0, ?_⟩, hb⟩
   rw [show modelFault ats c 0 = listFault ats c from this, errV_no h0]; rfl
  ·rintro e w' ⟨rfl, hb⟩
   exact ⟨⟨_, rfl, Or.inl ⟨none, 0, rfl, rfl⟩⟩, hb⟩
theorem leastOf_any (va vc : Value) (ats : List At) (c : List Int) (w : World) (hA : ReadsA w va ats) (hC : Reads w vc c) (hK : KindsLaid w) (hT : TimesLaid w) (hg : Laid w) :
    Calls Tryz.prog 18 #[.agg #[va, vc]] w (Bk w (.tuple #[.int .i64 (leastOfN ats c), errV (leastFaultF ats c)])) := by
 have hL := fun W hW => list_any va vc ats c W (hA.below hW) (hC.below hW) (hK.below hW) (hT.below hW) (hg.below hW)
 have hM := fun (u : Int) W hW => modelOf_any va vc ats c u W (hA.below hW) (hC.below hW) (hK.below hW) (hT.below hW) (hg.below hW)
 obtain ⟨ao, acap, rfl, _⟩ := hA.slice
 obtain ⟨co, ccap, rfl, _⟩ := hC.slice
 by_cases h0 : listFault ats c = 0
 ·have el : listL ats c = (List.range 7).map (someM ats c) := by unfold listL; rw [if_pos h0]
  rw [el, h0] at hL
  refine (least_good ao _ acap co _ ccap _ w hL).mono ?_
  rintro e w' ⟨hor, hb⟩
  refine ⟨?_, hb⟩
  have h7 : ((List.range 7).map (someM ats c)).length = 7 := by simp
  rcases hor with ⟨k, hk, h1, h2, rfl⟩ | ⟨h1, rfl⟩
  ·rw [h7] at hk
   rw [getD_some _ hk] at h1
   have hz : ∀ j, j < k → someM ats c j = false := fun j hj => by have := h2 j hj; rw [getD_some _ (by omega)] at this; exact this
   have hF := firstTo_at h1 hz 7 hk
   have hc : cubeFault ats c = 0 := by
    by_cases hc : cubeFault ats c = 0
    ·exact hc
    ·exfalso
     have hm : modelFault ats c (k : Int) = 0 := of_decide_eq_true h1
     rw [cube_bad hc] at hm; exact hc hm
   have ef : leastFaultF ats c = 0 := by unfold leastFaultF; rw [if_pos hc, if_neg (by rw [hF]; omega)]
   have en : leastOfN ats c = k := by unfold leastOfN; rw [if_pos ef, hF]
   rw [ef, en]; rfl
  ·have hz : ∀ j, j < 7 → someM ats c j = false := fun j hj => by have := h1 j (by rw [h7]; exact hj); rw [getD_some _ hj] at this; exact this
   have hF := firstTo_no hz
   have ef : leastFaultF ats c = 5 := by
    unfold leastFaultF
    by_cases hc : cubeFault ats c = 0
    ·rw [if_pos hc, if_pos hF]
    ·rw [if_neg hc]
     unfold listFault at h0
     by_cases h5 : cubeFault ats c = 5
     ·exact h5
     ·rw [if_neg h5] at h0; exact absurd h0 hc
   have en : leastOfN ats c = 0 := by unfold leastOfN; rw [if_neg (by rw [ef]; decide)]
   rw [ef, en]; rfl
 ·obtain ⟨⟨e1, h5⟩, hm⟩ := list_ill h0
  have hc : ¬ cubeFault ats c = 0 := by rw [← e1]; exact h0
  have ef : leastFaultF ats c = listFault ats c := by unfold leastFaultF; rw [if_neg hc, e1]
  have en : leastOfN ats c = 0 := by unfold leastOfN; rw [if_neg (by rw [ef]; exact h0)]
  rw [ef, en, errV_no h0]
  refine least_bad ao _ acap co _ ccap (listFault ats c) w fun W hW => ?_
  refine list_bad ao _ acap co _ ccap (listFault ats c) (by rw [e1]; exact h5) W fun W' hW' => ?_
  refine (hM 0 W' (hW.trans (hW'.mono hW.size))).mono ?_
  rintro e w' ⟨rfl, hb⟩
  have := hm 0
  refine ⟨⟨modelW ats c 0, ?_⟩, hb⟩
  rw [show modelFault ats c 0 = listFault ats c from this, errV_no h0]; rfl
end Go.Proofs.YtjaedfjfcghgcabGreatDoor
namespace Go.Proofs.YtjaedfjfcghgcabGreatDoor
open Go.RowKit
def sameTo (s t : List Int) (k : Nat) : Bool := (List.range k).all fun f => liesB s f == liesB t f
def partTo (s t : List Int) (k : Nat) : Bool := (List.range k).all fun f => !liesB s f || liesB t f
def apartTo (s t : List Int) (k : Nat) : Bool := (List.range k).all fun f => !(liesB s f && liesB t f)
def alikeFault (s t : List Int) : Int := if faultN s = 0 then faultN t else faultN s
def sameT (s t : List Int) : Bool := if alikeFault s t = 0 then sameTo s t 8 else false
def partT (s t : List Int) : Bool := if alikeFault s t = 0 then partTo s t 8 else false
def apartT (s t : List Int) : Bool := if alikeFault s t = 0 then apartTo s t 8 else false
def swapS (x y n : Int) : Int := if n = x then y else if n = y then x else n
def swapFault (s : List Int) (x y : Int) : Int := if faultN s = 0 then (if (0 ≤ x ∧ x ≤ 2) ∧ 0 ≤ y ∧ y ≤ 2 then 0 else 1) else faultN s
def swapL (s : List Int) (x y : Int) : List Int := if swapFault s x y = 0 then s.map (swapS x y) else []
def sameA (s t : List Int) : List At := [⟨2, s, t, 0⟩]
theorem swap_zero {s : List Int} {x y : Int} : swapFault s x y = 0 ↔ faultN s = 0 ∧ (0 ≤ x ∧ x ≤ 2) ∧ 0 ≤ y ∧ y ≤ 2 := by
 unfold swapFault
 by_cases h : faultN s = 0
 ·rw [if_pos h]
  by_cases g : (0 ≤ x ∧ x ≤ 2) ∧ 0 ≤ y ∧ y ≤ 2
  ·rw [if_pos g]; exact ⟨fun _ => ⟨h, g⟩, fun _ => rfl⟩
  ·rw [if_neg g]; exact ⟨fun e => absurd e (by decide), fun e => absurd e.2 g⟩
 ·rw [if_neg h]; exact ⟨fun e => absurd e h, fun e => absurd e.1 h⟩
end Go.Proofs.YtjaedfjfcghgcabGreatDoor
namespace Go.Proofs.YtjaedfjfcghgcabGreatDoor
open Go.ChangeShapes Go.WideShapes Go.ChangeAt Go.RowKit
set_option maxRecDepth 100000
theorem isName_any (x : Int) (w : World) :
    Calls Tryz.prog 59 #[.int .i64 x] w (Sk w (.bool (decide (0 ≤ x ∧ x ≤ 2)))) := by
 by_cases h0 : x < 0
 ·have e : decide (0 ≤ x ∧ x ≤ 2) = false := by simp; omega
  rw [e]
  clear e
  go_enter Tryz.func59, Tryz.ntmps59
  go_wp2
  go_ret
  exact ⟨rfl, rfl⟩
 by_cases h2 : 2 < x
 ·have e : decide (0 ≤ x ∧ x ≤ 2) = false := by simp; omega
  rw [e]
  clear e
  go_enter Tryz.func59, Tryz.ntmps59
  go_wp2
  go_ret
  refine ⟨?_, rfl⟩
  show Ending.returned (Value.bool (decide (x ≤ 2))) = _
  rw [decide_eq_false (by omega)]
 have e : decide (0 ≤ x ∧ x ≤ 2) = true := by simp; omega
 rw [e]
 clear e
 go_enter Tryz.func59, Tryz.ntmps59
 go_wp2
 go_ret
 exact ⟨rfl, rfl⟩
theorem swapped_any (n x y : Int) (w : World) :
    Calls Tryz.prog 60 #[.int .i64 n, .int .i64 x, .int .i64 y] w (Sk w (.int .i64 (swapS x y n))) := by
 by_cases h1 : n = x
 ·have e : swapS x y n = y := by unfold swapS; rw [if_pos h1]
  rw [e]
  clear e
  have h1' : (n == x) = true := by simpa using h1
  clear h1
  go_enter Tryz.func60, Tryz.ntmps60
  go_wp2
  go_ret
  exact ⟨rfl, rfl⟩
 by_cases h2 : n = y
 ·have e : swapS x y n = x := by unfold swapS; rw [if_neg h1, if_pos h2]
  rw [e]
  clear e
  have h1' : (n == x) = false := by simpa using h1
  have h2' : (n == y) = true := by simpa using h2
  clear h1 h2
  go_enter Tryz.func60, Tryz.ntmps60
  go_wp2
  go_ret
  exact ⟨rfl, rfl⟩
 have e : swapS x y n = n := by unfold swapS; rw [if_neg h1, if_neg h2]
 rw [e]
 clear e
 have h1' : (n == x) = false := by simpa using h1
 have h2' : (n == y) = false := by simpa using h2
 clear h1 h2
 go_enter Tryz.func60, Tryz.ntmps60
 go_wp2
 go_ret
 exact ⟨rfl, rfl⟩
theorem infoSw : (Tryz.prog.info? 3).map (fun i => (i.zero, i.size, i.bytes)) = some (some (.int .i64 0), 1, 8) := by kernel_rfl
theorem own_readsW {w : World} {base : Nat} {e : TypeId} {g cap n : Nat} {xs : List Value} {t : List Int} (h : w.ownsRow base e 1 (.slice (some ⟨g, 0, none⟩) n cap) n xs) (hn : t.length = n) (hx : ∀ j, j < n → xs[j]? = some (.int .i64 (t.getD j 0))) (hm : n ≤ 13) : Reads w (.slice (some ⟨g, 0, none⟩) n cap) t := by
 rcases Nat.eq_zero_or_pos n with h0 | h0
 ·exact Or.inl ⟨_, cap, by rw [h0], List.eq_nil_of_length_eq_zero (by omega)⟩
 ·refine Or.inr ⟨g, 0, cap, by rw [hn], (ownsRow_block h).2.1, by omega, ⟨by omega, by have := (ownsRow_block h).2.2; omega⟩, fun k hk => ?_⟩
  rw [Nat.zero_add, h.cellAt k (by omega)]
  exact hx k (by omega)
set_option maxHeartbeats 4000000 in
theorem swap_good (B off cap m : Nat) (t : List Int) (x y : Int) (w : World) (hm : m = t.length) (hm0 : 0 < m) (hm12 : m ≤ 12) (hmc : m ≤ cap) (hB : B < w.heap.size)
    (hc : ∀ k, k < t.length → w.cell? ⟨B, off + k, none⟩ = some (.int .i64 (t.getD k 0)))
    (hC : Calls Tryz.prog 58 #[.slice (some ⟨B, off, none⟩) m cap] w (Sk w .nilIface))
    (hx : decide (0 ≤ x ∧ x ≤ 2) = true) (hy : decide (0 ≤ y ∧ y ≤ 2) = true) :
    Calls Tryz.prog 19 #[.slice (some ⟨B, off, none⟩) m cap, .int .i64 x, .int .i64 y] w fun e w' => (∃ v, e = .returned (.tuple #[v, .nilIface]) ∧ Reads w' v (t.map (swapS x y))) ∧ Below w.heap.size w w' := by
 obtain ⟨i0, hi, hz0, hz1, hz2⟩ := info_parts infoSw
 have HNx : Hid (∀ W, Calls Tryz.prog 59 #[.int .i64 x] W (Sk W (.bool true))) := fun W => by have := isName_any x W; rw [hx] at this; exact this
 have HNy : Hid (∀ W, Calls Tryz.prog 59 #[.int .i64 y] W (Sk W (.bool true))) := fun W => by have := isName_any y W; rw [hy] at this; exact this
 have HC := hide hC
 have HCell : Hid (∀ W, Below w.heap.size w W → ∀ k, k < m → W.cell? ⟨B, off + k, none⟩ = some (.int .i64 (t.getD k 0))) := fun W hW k hk => by rw [hW.cell hB]; exact hc k (by omega)
 obtain ⟨f, hf⟩ : ∃ f : Nat → Value, f = fun j => .int .i64 (swapS x y (t.getD j 0)) := ⟨_, rfl⟩
 have HF := hide hf
 have HM := hide hm
 obtain ⟨G, hG⟩ := nm w.heap.size
 have HG : Hid (w.heap.size ≤ G) := by unfold Hid; omega
 have HBG : Hid (B < G) := by unfold Hid; omega
 clear hC hc hx hy hf hm hB
 go_enter Tryz.func19, Tryz.ntmps19
 go_wp2_with fail
 go_at_call 58
 refine HC.out.mono ?_
 rintro e w' ⟨rfl, rfl⟩
 go_wp2_with fail
 go_at_call 59
 refine (HNx.out _).mono ?_
 rintro e w' ⟨rfl, rfl⟩
 go_wp2_with fail
 go_at_call 59
 refine (HNy.out _).mono ?_
 rintro e w' ⟨rfl, rfl⟩
 go_wp2_with (first | (at_make; refine wpList_make_full _ rfl _ _ 23 rfl G 3 i0 (.int .i64 0) 1 Tryz.underlying23 hi hz0 hz1 .i64 .i64 _ _ m rfl rfl ?m0 ?m1 ?m2 ?m3 ?m4 ?_))
 case m0 => rfl
 case m1 => rfl
 case m2 => rw [hz2]; omega
 case m3 => unfold maxLen; omega
 case m4 => omega
 intro w1 hown1 hgrow1
 have HO : Hid (w1.ownsRow G 3 1 (.slice (some ⟨G, 0, none⟩) m m) m (fill f (.int .i64 0) m 0) ∧ Below w.heap.size w w1) := by
  refine ⟨?_, ?_⟩
  ·rw [fill_zero, ← toList_madeCells_one, hG]
   simpa [Value.cells] using hown1
  ·exact (Below.refl _ _).grown hgrow1 (by omega) (fun k hk => by cases hk)
 rw [← hG]
 clear hown1 hgrow1 hG HC HNx HNy
 go_wp2
 go_loopw [31] (fun i wr => ∃ k : Nat, k ≤ m ∧ i = .int .i64 k ∧ wr.ownsRow G 3 1 (.slice (some ⟨G, 0, none⟩) m m) m (fill f (.int .i64 0) m k) ∧ Below w.heap.size w wr) (fun i _ => m - (intOf i).toNat)
 case atStart => exact ⟨0, Nat.zero_le _, rfl, HO.out.1, HO.out.2⟩
 case round =>
  obtain ⟨k, hk, rfl, hown, hbel⟩ := hrel
  by_cases hlt : k < m
  ·have hfr : wr.frozen? ⟨G, k, none⟩ = false := hown.frozenAt k
   have hcg : wr.cell? ⟨G, k, none⟩ = some (.int .i64 0) := by rw [hown.cellAt k (by omega), fill_get _ _ _ _ _ hlt, if_neg (by omega)]
   have hcb := HCell.out wr hbel k hlt
   obtain ⟨q, hq⟩ := nm (t.getD k 0)
   rw [← hq] at hcb
   have HR : Hid ((wr.setCell ⟨G, k, none⟩ (.int .i64 (swapS x y q))).ownsRow G 3 1 (.slice (some ⟨G, 0, none⟩) m m) m (fill f (.int .i64 0) m (k + 1)) ∧ Below w.heap.size w (wr.setCell ⟨G, k, none⟩ (.int .i64 (swapS x y q)))) := by
    have := hown.stored k (f k)
    rw [fill_set] at this
    have e : f k = .int .i64 (swapS x y q) := by rw [HF.out, hq]
    rw [e] at this
    exact ⟨this.1, hbel.setCell HG.out _⟩
   clear hown hbel hq
   go_wp2_with fail
   go_at_call 60
   refine (swapped_any _ _ _ _).mono ?_
   rintro e w' ⟨rfl, rfl⟩
   obtain ⟨Q, hQ⟩ := nm (swapS x y q)
   rw [← hQ] at HR ⊢
   clear hQ
   go_wp2
   go_roundw
   case rel => exact ⟨k + 1, by omega, by go_num, HR.out.1, HR.out.2⟩
   case measure => simp [intOf]; omega
  ·obtain rfl : k = m := by omega
   have hR : Reads wr (.slice (some ⟨G, 0, none⟩) k k) (t.map (swapS x y)) := own_readsW hown (by rw [List.length_map]; exact HM.out.symm) (fun j hj => by
    rw [fill_get _ _ _ _ _ hj, if_pos hj, HF.out]
    have hjt : j < t.length := by have := HM.out; omega
    show some (Value.int .i64 (swapS x y (t.getD j 0))) = _
    rw [List.getD_eq_getElem?_getD, List.getD_eq_getElem?_getD, List.getElem?_map, List.getElem?_eq_getElem hjt]; rfl) (by omega)
   have HRd := hide hR
   have HBw := hide hbel
   clear hown hbel hR
   go_wp2
   go_ret2
   exact ⟨⟨_, rfl, HRd.out⟩, HBw.out⟩
set_option maxHeartbeats 4000000 in
theorem swap_bad (ao : Option Addr) (m cap : Nat) (x y F : Int) (w : World) 
    (hC : Calls Tryz.prog 58 #[.slice ao m cap] w (Sk w (.iface 75 (.int .i64 F)))) :
    Calls Tryz.prog 19 #[.slice ao m cap, .int .i64 x, .int .i64 y] w (Sk w (.tuple #[.slice none 0 0, .iface 75 (.int .i64 F)])) := by
 have HC := hide hC
 clear hC
 go_enter Tryz.func19, Tryz.ntmps19
 go_wp2_with fail
 go_at_call 58
 refine HC.out.mono ?_
 rintro e w' ⟨rfl, rfl⟩
 go_wp2
 go_ret2
 exact ⟨rfl, rfl⟩
set_option maxHeartbeats 4000000 in
theorem swap_range1 (ao : Option Addr) (m cap : Nat) (x y : Int) (w : World) 
    (hC : Calls Tryz.prog 58 #[.slice ao m cap] w (Sk w .nilIface)) (hx : decide (0 ≤ x ∧ x ≤ 2) = false) :
    Calls Tryz.prog 19 #[.slice ao m cap, .int .i64 x, .int .i64 y] w (Sk w (.tuple #[.slice none 0 0, .iface 75 (.int .i64 1)])) := by
 have HC := hide hC
 have HNx : Hid (∀ W, Calls Tryz.prog 59 #[.int .i64 x] W (Sk W (.bool false))) := fun W => by have := isName_any x W; rw [hx] at this; exact this
 clear hC hx
 go_enter Tryz.func19, Tryz.ntmps19
 go_wp2_with fail
 go_at_call 58
 refine HC.out.mono ?_
 rintro e w' ⟨rfl, rfl⟩
 go_wp2_with fail
 go_at_call 59
 refine (HNx.out _).mono ?_
 rintro e w' ⟨rfl, rfl⟩
 go_wp2
 go_ret2
 exact ⟨rfl, rfl⟩
set_option maxHeartbeats 4000000 in
theorem swap_range2 (ao : Option Addr) (m cap : Nat) (x y : Int) (w : World) 
    (hC : Calls Tryz.prog 58 #[.slice ao m cap] w (Sk w .nilIface)) (hx : decide (0 ≤ x ∧ x ≤ 2) = true) (hy : decide (0 ≤ y ∧ y ≤ 2) = false) :
    Calls Tryz.prog 19 #[.slice ao m cap, .int .i64 x, .int .i64 y] w (Sk w (.tuple #[.slice none 0 0, .iface 75 (.int .i64 1)])) := by
 have HC := hide hC
 have HNx : Hid (∀ W, Calls Tryz.prog 59 #[.int .i64 x] W (Sk W (.bool true))) := fun W => by have := isName_any x W; rw [hx] at this; exact this
 have HNy : Hid (∀ W, Calls Tryz.prog 59 #[.int .i64 y] W (Sk W (.bool false))) := fun W => by have := isName_any y W; rw [hy] at this; exact this
 clear hC hx hy
 go_enter Tryz.func19, Tryz.ntmps19
 go_wp2_with fail
 go_at_call 58
 refine HC.out.mono ?_
 rintro e w' ⟨rfl, rfl⟩
 go_wp2_with fail
 go_at_call 59
 refine (HNx.out _).mono ?_
 rintro e w' ⟨rfl, rfl⟩
 go_wp2_with fail
 go_at_call 59
 refine (HNy.out _).mono ?_
 rintro e w' ⟨rfl, rfl⟩
 go_wp2
 go_ret2
 exact ⟨rfl, rfl⟩
theorem alikeSwap_any (vs : Value) (s : List Int) (x y : Int) (w : World) (hS : Reads w vs s) :
    Calls Tryz.prog 19 #[vs, .int .i64 x, .int .i64 y] w fun e w' => (∃ v, e = .returned (.tuple #[v, errV (swapFault s x y)]) ∧ Reads w' v (swapL s x y)) ∧ Below w.heap.size w w' := by
 have hC := tcheck_any s vs w hS
 obtain ⟨so, sc, hv⟩ : ∃ so sc, vs = .slice so s.length sc := by
  rcases hS with ⟨ao, cap, rfl, rfl⟩ | ⟨b, off, cap, rfl, _⟩
  ·exact ⟨ao, cap, rfl⟩
  ·exact ⟨_, cap, rfl⟩
 have hnone : ∀ (W : World), Reads W (.slice none 0 0) [] := fun W => Or.inl ⟨none, 0, rfl, rfl⟩
 by_cases hf : faultN s = 0
 ·have e0 : errV (faultN s) = .nilIface := by rw [hf]; rfl
  rw [e0] at hC
  by_cases hx : 0 ≤ x ∧ x ≤ 2
  ·by_cases hy : 0 ≤ y ∧ y ≤ 2
   ·have hz : swapFault s x y = 0 := swap_zero.2 ⟨hf, hx, hy⟩
    have el : swapL s x y = s.map (swapS x y) := by unfold swapL; rw [if_pos hz]
    rw [hz, el]
    obtain ⟨l0, l1, _, _⟩ := fault_zero.1 hf
    rcases hS with ⟨ao, cap, rfl, rfl⟩ | ⟨b, off, cap, rfl, hb, hl, ⟨_, hcp⟩, hcell⟩
    ·exact absurd rfl l0
    ·exact swap_good b off cap s.length s x y w rfl (by omega) l1 hcp hb hcell hC (decide_eq_true hx) (decide_eq_true hy)
   ·have hz : swapFault s x y = 1 := by unfold swapFault; rw [if_pos hf, if_neg (fun h => hy h.2)]
    have el : swapL s x y = [] := by unfold swapL; rw [if_neg (by rw [hz]; decide)]
    rw [hz, el]
    subst hv
    refine (swap_range2 so _ sc x y w hC (decide_eq_true hx) (decide_eq_false hy)).mono ?_
    rintro e w' ⟨rfl, rfl⟩
    exact ⟨⟨_, rfl, hnone _⟩, Below.refl _ _⟩
  ·have hz : swapFault s x y = 1 := by unfold swapFault; rw [if_pos hf, if_neg (fun h => hx h.1)]
   have el : swapL s x y = [] := by unfold swapL; rw [if_neg (by rw [hz]; decide)]
   rw [hz, el]
   subst hv
   refine (swap_range1 so _ sc x y w hC (decide_eq_false hx)).mono ?_
   rintro e w' ⟨rfl, rfl⟩
   exact ⟨⟨_, rfl, hnone _⟩, Below.refl _ _⟩
 ·have hz : swapFault s x y = faultN s := by unfold swapFault; rw [if_neg hf]
  have el : swapL s x y = [] := by unfold swapL; rw [if_neg (by rw [hz]; exact hf)]
  have e0 : errV (faultN s) = .iface 75 (.int .i64 (faultN s)) := by unfold errV; rw [if_neg hf]
  rw [hz, el, e0]
  rw [e0] at hC
  subst hv
  refine (swap_bad so _ sc x y (faultN s) w hC).mono ?_
  rintro e w' ⟨rfl, rfl⟩
  exact ⟨⟨_, rfl, hnone _⟩, Below.refl _ _⟩
end Go.Proofs.YtjaedfjfcghgcabGreatDoor
namespace Go.Proofs.YtjaedfjfcghgcabGreatDoor
open Go.ChangeShapes Go.WideShapes Go.ChangeAt Go.RowKit
set_option maxRecDepth 100000
def spanFrom (ats : List At) (c t : List Int) (u : Int) (L : List Wd) : Int × Int := L.foldl (spanStep ats c t) (u + 1, -1)
theorem spanFrom_add (ats : List At) (c t : List Int) (u : Int) (L : List Wd) (D : Wd) : spanFrom ats c t u (L ++ [D]) = spanStep ats c t (spanFrom ats c t u L) D := by
 unfold spanFrom; rw [List.foldl_append]; rfl
theorem span_from {ats : List At} {c t : List Int} {u : Int} : ∀ L : List Wd, (∀ D ∈ L, pcN (D.val t) ≤ u) →
    (spanFrom ats c t u L = (u + 1, -1) ∧ spanOver ats c t L = (100, -1)) ∨ (spanFrom ats c t u L = spanOver ats c t L ∧ 0 ≤ (spanOver ats c t L).1 ∧ (spanOver ats c t L).1 ≤ (spanOver ats c t L).2 ∧ (spanOver ats c t L).2 ≤ 6) := by
 refine revInd ?_ ?_
 ·intro _; exact Or.inl ⟨rfl, rfl⟩
 ·intro L E ih hL
  have ih := ih fun D hD => hL D (List.mem_append_left _ hD)
  have hE := hL E (by simp)
  have hp := pcN_le (E.val t)
  rw [spanFrom_add, spanOver_add]
  rcases Bool.eq_false_or_eq_true (E.formIs ats c) with hf | hf
  ·right
   unfold spanStep
   rw [if_pos hf, if_pos hf]
   rcases ih with ⟨h1, h2⟩ | ⟨h1, h2, h3, h4⟩
   ·rw [h1, h2]
    have e1 : pcN (E.val t) < u + 1 := by omega
    have e2 : pcN (E.val t) < 100 := by omega
    have e3 : (-1 : Int) < pcN (E.val t) := by omega
    rw [if_pos e1, if_pos e2, if_pos e3]
    exact ⟨rfl, hp.1, Int.le_refl _, hp.2⟩
   ·rw [h1]
    refine ⟨rfl, ?_, ?_, ?_⟩
    ·dsimp only
     split <;> omega
    ·dsimp only
     split <;> split <;> omega
    ·dsimp only
     split <;> omega
  ·have es : ∀ p, spanStep ats c t p E = p := fun p => by unfold spanStep; rw [if_neg (by rw [hf]; decide)]
   rw [es, es]
   exact ih
theorem made_size {t : List Int} (ht : faultN t = 0) {N : Nat → Int} (h0 : countsFault N = 0) : pcN ((madeN N 8).val t) = sumIn (liesB t) N 8 := by
 obtain ⟨n, hn⟩ := one_term ht
 rw [size_fields (made_ok h0) hn]
 exact sumIn_same fun f hf => made_fc h0 hf
theorem made_few {t : List Int} (ht : faultN t = 0) {u : Nat} (hu : u ≤ 6) : ∀ D ∈ worldsL u, pcN (D.val t) ≤ u := by
 intro D hD
 unfold worldsL at hD
 obtain ⟨N, hN, rfl⟩ := List.mem_map.1 hD
 have h0 := everyC_right hu hN
 rw [made_size ht h0, ← (everyC_sum hN).2]
 exact (sumIn_le (counts_zero.1 h0).1).2
def spCheckN (ats : List At) (c t : List Int) (u : Int) : Int := if formFault ats c = 0 then (if faultN t = 0 then (if 0 ≤ u ∧ u ≤ 6 then 0 else 1) else faultN t) else formFault ats c
theorem spcheck_form (ao : Option Addr) (al acap : Nat) (co : Option Addr) (cl ccap : Nat) (vt : Value) (u m : Int) (w : World)
    (HF : Hid (∀ W, Below w.heap.size w W → Calls Tryz.prog 14 #[.agg #[.slice ao al acap, .slice co cl ccap]] W (Bk W (.iface 75 (.int .i64 m))))) :
    Calls Tryz.prog 61 #[.agg #[.slice ao al acap, .slice co cl ccap], vt, .int .i64 u] w (Bk w (.iface 75 (.int .i64 m))) := by
 go_enter Tryz.func61, Tryz.ntmps61
 go_wp2_with fail
 go_at_call 14
 refine (HF.out _ (below_alloc1 _ _)).mono ?_
 rintro e w2 ⟨rfl, hb⟩
 have HB : Hid (Below w.heap.size w w2) := (below_alloc1 w _).trans (hb.mono (by simp))
 clear hb
 go_wp2
 go_ret
 exact ⟨rfl, HB.out⟩
theorem spcheck_term (ao : Option Addr) (al acap : Nat) (co : Option Addr) (cl ccap : Nat) (vt : Value) (u m : Int) (w : World)
    (HF : Hid (∀ W, Below w.heap.size w W → Calls Tryz.prog 14 #[.agg #[.slice ao al acap, .slice co cl ccap]] W (Bk W .nilIface)))
    (HT : Hid (∀ W, Below w.heap.size w W → Calls Tryz.prog 58 #[vt] W (Sk W (.iface 75 (.int .i64 m))))) :
    Calls Tryz.prog 61 #[.agg #[.slice ao al acap, .slice co cl ccap], vt, .int .i64 u] w (Bk w (.iface 75 (.int .i64 m))) := by
 go_enter Tryz.func61, Tryz.ntmps61
 go_wp2_with fail
 go_at_call 14
 refine (HF.out _ (below_alloc1 _ _)).mono ?_
 rintro e w2 ⟨rfl, hb⟩
 have HB : Hid (Below w.heap.size w w2) := (below_alloc1 w _).trans (hb.mono (by simp))
 clear hb
 go_wp2_with fail
 go_at_call 58
 refine (HT.out _ HB.out).mono ?_
 rintro e w3 ⟨rfl, rfl⟩
 go_wp2
 go_ret
 exact ⟨rfl, HB.out⟩
theorem spcheck_good (ao : Option Addr) (al acap : Nat) (co : Option Addr) (cl ccap : Nat) (vt E : Value) (u : Int) (w : World)
    (HF : Hid (∀ W, Below w.heap.size w W → Calls Tryz.prog 14 #[.agg #[.slice ao al acap, .slice co cl ccap]] W (Bk W .nilIface)))
    (HT : Hid (∀ W, Below w.heap.size w W → Calls Tryz.prog 58 #[vt] W (Sk W .nilIface)))
    (HS : Hid (∀ W, Calls Tryz.prog 24 #[.int .i64 u, .int .i64 0] W (Sk W E))) :
    Calls Tryz.prog 61 #[.agg #[.slice ao al acap, .slice co cl ccap], vt, .int .i64 u] w (Bk w E) := by
 go_enter Tryz.func61, Tryz.ntmps61
 go_wp2_with fail
 go_at_call 14
 refine (HF.out _ (below_alloc1 _ _)).mono ?_
 rintro e w2 ⟨rfl, hb⟩
 have HB : Hid (Below w.heap.size w w2) := (below_alloc1 w _).trans (hb.mono (by simp))
 clear hb
 go_wp2_with fail
 go_at_call 58
 refine (HT.out _ HB.out).mono ?_
 rintro e w3 ⟨rfl, rfl⟩
 go_wp2_with fail
 go_at_call 24
 refine (HS.out _).mono ?_
 rintro e w3 ⟨rfl, rfl⟩
 go_wp2
 go_ret
 exact ⟨rfl, HB.out⟩
theorem spcheck_any (va vc vt : Value) (ats : List At) (c t : List Int) (u : Int) (w : World) (hA : ReadsA w va ats) (hC : Reads w vc c) (hT : Reads w vt t) (hK : KindsLaid w) :
    Calls Tryz.prog 61 #[.agg #[va, vc], vt, .int .i64 u] w (Bk w (errV (spCheckN ats c t u))) := by
 have hF := fun W (hW : Below w.heap.size w W) => fcheck_any va vc ats c W (hA.below hW) (hC.below hW) (hK.below hW)
 have hTc := fun W (hW : Below w.heap.size w W) => tcheck_any t vt W (hT.below hW)
 obtain ⟨ao, acap, rfl, _⟩ := hA.slice
 obtain ⟨co, ccap, rfl, _⟩ := hC.slice
 unfold spCheckN
 by_cases hf : formFault ats c = 0
 ·rw [if_pos hf]
  rw [hf] at hF
  by_cases ht : faultN t = 0
  ·rw [if_pos ht]
   rw [ht] at hTc
   by_cases hu : 0 ≤ u ∧ u ≤ 6
   ·rw [if_pos hu]
    exact spcheck_good ao _ acap co _ ccap vt _ u w hF hTc fun W => check_ok _ _ (ok_zero hu.1 hu.2) W
   ·rw [if_neg hu]
    exact spcheck_good ao _ acap co _ ccap vt _ u w hF hTc fun W => check_no _ _ (okB_not.2 fun h => hu ⟨h.1, h.2.1⟩) W
  ·rw [if_neg ht, errV_no ht]
   rw [errV_no ht] at hTc
   exact spcheck_term ao _ acap co _ ccap vt u _ w hF hTc
 ·rw [if_neg hf, errV_no hf]
  rw [errV_no hf] at hF
  exact spcheck_form ao _ acap co _ ccap vt u _ w hF
end Go.Proofs.YtjaedfjfcghgcabGreatDoor
namespace Go.Proofs.YtjaedfjfcghgcabGreatDoor
open Go.ChangeShapes Go.WideShapes Go.ChangeAt Go.RowKit
def countFault (t : List Int) (N : Nat → Int) : Int := if faultN t = 0 then countsFault N else faultN t
def countN (t : List Int) (N : Nat → Int) : Int := if countFault t N = 0 then sumIn (liesB t) N 8 else 0
theorem mask_bit (L : Nat → Bool) {k : Nat} (hk : k < 8) : bits .and .i64 (maskTo L 8 / 2 ^ k) 1 = oneB (L k) := by
 obtain ⟨m0, m1⟩ := maskTo_le L 8
 have : maskTo L 8 < 256 := m1
 rw [bit_at _ k m0 this hk, has_mask L (Nat.le_refl _) hk]
set_option maxRecDepth 100000 in
set_option maxHeartbeats 4000000 in
theorem count_any (t : List Int) (v : Value) (N : Nat → Int) (w : World) (h : Reads w v t) :
    Calls Tryz.prog 62 #[v, .agg #[.int .i64 (N 0), .int .i64 (N 1), .int .i64 (N 2), .int .i64 (N 3), .int .i64 (N 4), .int .i64 (N 5), .int .i64 (N 6), .int .i64 (N 7)]] w (Bk w (.tuple #[.int .i64 (countN t N), errV (countFault t N)])) := by
 obtain ⟨w1, hw1⟩ := nm (w.alloc (.cells #[.int .i64 (N 0), .int .i64 (N 1), .int .i64 (N 2), .int .i64 (N 3), .int .i64 (N 4), .int .i64 (N 5), .int .i64 (N 6), .int .i64 (N 7)] 44))
 have HW : Hid (Below w.heap.size w w1) := by unfold Hid; rw [hw1]; exact below_alloc1 _ _
 have HK0 : Hid (Blk w1 w.heap.size 44 (arr8 N)) := by unfold Hid; rw [hw1]; exact Blk.new _ _ _
 have HMa : Hid (Calls Tryz.prog 82 #[v] w1 (Bk w1 (.tuple #[.int .i64 (maskN t), errV (faultN t)]))) := mask_any t v w1 (h.below HW.out)
 have HCa : Hid (∀ W, Calls Tryz.prog 102 #[.agg #[.int .i64 (N 0), .int .i64 (N 1), .int .i64 (N 2), .int .i64 (N 3), .int .i64 (N 4), .int .i64 (N 5), .int .i64 (N 6), .int .i64 (N 7)]] W (Bk W (errV (countsFault N)))) := fun W => fcounts_any N W
 clear h
 by_cases hf : faultN t = 0
 ·have e0 : countFault t N = countsFault N := by unfold countFault; rw [if_pos hf]
  have e1 : maskN t = maskTo (liesB t) 8 := by unfold maskN; rw [if_pos hf]
  have HM : Hid (Calls Tryz.prog 82 #[v] w1 (Bk w1 (.tuple #[.int .i64 (maskTo (liesB t) 8), .nilIface]))) := by
   have := HMa.out
   rw [hf, e1] at this
   exact this
  clear HMa
  by_cases hc : countsFault N = 0
  ·have e2 : countN t N = sumIn (liesB t) N 8 := by unfold countN; rw [e0, if_pos hc]
   have HC : Hid (∀ W, Calls Tryz.prog 102 #[.agg #[.int .i64 (N 0), .int .i64 (N 1), .int .i64 (N 2), .int .i64 (N 3), .int .i64 (N 4), .int .i64 (N 5), .int .i64 (N 6), .int .i64 (N 7)]] W (Bk W .nilIface)) := fun W => by
    have := HCa.out W
    rw [hc] at this
    exact this
   have e3 : errV (countFault t N) = .nilIface := by rw [e0, hc]; rfl
   rw [e2, e3]
   have HN : Hid (∀ k, k < 8 → 0 ≤ N k ∧ N k ≤ 6) := (counts_zero.1 hc).1
   clear HCa e0 e1 e2 e3 hf hc
   obtain ⟨L, hL⟩ := nm (liesB t)
   rw [← hL] at HM ⊢
   clear hL
   have HBt : Hid (∀ k, k < 8 → bits .and .i64 (maskTo L 8 / 2 ^ k) 1 = oneB (L k)) := fun k hk => mask_bit L hk
   have HML : Hid (0 ≤ maskTo L 8 ∧ maskTo L 8 < 256) := maskTo_le L 8
   obtain ⟨M, hM⟩ := nm (maskTo L 8)
   rw [← hM] at HM HBt HML
   clear hM
   obtain ⟨m0, m1⟩ := HML.out
   go_enter Tryz.func62, Tryz.ntmps62
   go_wp2_with fail
   rw [← hw1]
   clear hw1
   go_wp2_with fail
   go_at_call 82
   refine HM.out.mono ?_
   rintro e w2 ⟨rfl, hb⟩
   have HB2 := hide (HW.out.trans (hb.mono HW.out.size))
   have HK2 := hide (HK0.out.below hb)
   clear hb
   obtain ⟨x0, x1, x2, x3, x4, x5, x6, x7⟩ := HK2.out.cells8
   go_wp2_with fail
   go_at_call 102
   refine (HC.out _).mono ?_
   rintro e w3 ⟨rfl, hb⟩
   have HB3 := hide (HB2.out.trans (hb.mono HB2.out.size))
   have HK3 := hide (HK2.out.below hb)
   clear hb x0 x1 x2 x3 x4 x5 x6 x7
   go_wp2
   go_loop [9, 24] (fun s i => ∃ k : Nat, k ≤ 8 ∧ i = .int .i64 k ∧ s = .int .i64 (sumIn L N k)) (fun _ i => 8 - (intOf i).toNat)
   case atStart => exact ⟨0, Nat.zero_le _, rfl, rfl⟩
   case round =>
    obtain ⟨k, hk, rfl, rfl⟩ := hrel
    by_cases hlt : k < 8
    ·have y : w3.cell? ⟨w.heap.size, k, none⟩ = some (.int .i64 (N k)) := by rw [HK3.out.cell, arr8_get _ hlt]
     have p1 := sumIn_le (L := L) (N := N) (k := k) fun f hf => HN.out f (by omega)
     have p2 := sumN_le (N := N) (k := k) fun f hf => HN.out f (by omega)
     have p3 := HN.out k hlt
     have hb := HBt.out k hlt
     rcases (Bool.eq_false_or_eq_true (L k)).symm with l | l
     ·have HS : Hid (sumIn L N (k + 1) = sumIn L N k) := by unfold Hid; show sumIn L N k + _ = _; rw [l]; simp
      rw [l] at hb
      replace hb : bits .and .i64 (M / 2 ^ k) 1 = 0 := hb
      clear l
      go_wp2
      go_round
      case rel => exact ⟨k + 1, by omega, by go_num, by rw [HS.out]⟩
      case measure => simp [intOf]; omega
     ·have HS : Hid (sumIn L N (k + 1) = sumIn L N k + N k) := by unfold Hid; show sumIn L N k + _ = _; rw [l]; simp
      rw [l] at hb
      replace hb : bits .and .i64 (M / 2 ^ k) 1 = 1 := hb
      clear l
      go_wp2
      go_round
      case rel => exact ⟨k + 1, by omega, by go_num, by rw [HS.out]⟩
      case measure => simp [intOf]; omega
    ·obtain rfl : k = 8 := by omega
     go_wp2
     go_ret2
     exact ⟨rfl, HB3.out⟩
  ·have e2 : countN t N = 0 := by unfold countN; rw [e0, if_neg hc]
   have e3 : errV (countFault t N) = .iface 75 (.int .i64 (countsFault N)) := by rw [e0]; unfold errV; rw [if_neg hc]
   have HC : Hid (∀ W, Calls Tryz.prog 102 #[.agg #[.int .i64 (N 0), .int .i64 (N 1), .int .i64 (N 2), .int .i64 (N 3), .int .i64 (N 4), .int .i64 (N 5), .int .i64 (N 6), .int .i64 (N 7)]] W (Bk W (.iface 75 (.int .i64 (countsFault N))))) := fun W => by
    have := HCa.out W
    unfold errV at this
    rw [if_neg hc] at this
    exact this
   rw [e2, e3]
   clear HCa e0 e1 e2 e3 hf hc
   obtain ⟨M, hM⟩ := nm (maskTo (liesB t) 8)
   rw [← hM] at HM
   clear hM
   obtain ⟨F, hF⟩ := nm (countsFault N)
   rw [← hF] at HC ⊢
   clear hF
   go_enter Tryz.func62, Tryz.ntmps62
   go_wp2_with fail
   rw [← hw1]
   clear hw1
   go_wp2_with fail
   go_at_call 82
   refine HM.out.mono ?_
   rintro e w2 ⟨rfl, hb⟩
   have HB2 := hide (HW.out.trans (hb.mono HW.out.size))
   have HK2 := hide (HK0.out.below hb)
   clear hb
   obtain ⟨x0, x1, x2, x3, x4, x5, x6, x7⟩ := HK2.out.cells8
   go_wp2_with fail
   go_at_call 102
   refine (HC.out _).mono ?_
   rintro e w3 ⟨rfl, hb⟩
   have HB3 := hide (HB2.out.trans (hb.mono HB2.out.size))
   clear hb x0 x1 x2 x3 x4 x5 x6 x7
   go_wp2
   go_ret2
   exact ⟨rfl, HB3.out⟩
 ·have e0 : countFault t N = faultN t := by unfold countFault; rw [if_neg hf]
  have e1 : maskN t = 0 := by unfold maskN; rw [if_neg hf]
  have e2 : countN t N = 0 := by unfold countN; rw [e0, if_neg hf]
  have e3 : errV (faultN t) = .iface 75 (.int .i64 (faultN t)) := by unfold errV; rw [if_neg hf]
  have HM : Hid (Calls Tryz.prog 82 #[v] w1 (Bk w1 (.tuple #[.int .i64 0, .iface 75 (.int .i64 (faultN t))]))) := by
   have := HMa.out
   rw [e1, e3] at this
   exact this
  rw [e2, e0, e3]
  clear HMa HCa e0 e1 e2 e3 hf
  obtain ⟨F, hF⟩ := nm (faultN t)
  rw [← hF] at HM ⊢
  clear hF
  go_enter Tryz.func62, Tryz.ntmps62
  go_wp2_with fail
  rw [← hw1]
  clear hw1
  go_wp2_with fail
  go_at_call 82
  refine HM.out.mono ?_
  rintro e w2 ⟨rfl, hb⟩
  have HB2 := hide (HW.out.trans (hb.mono HW.out.size))
  clear hb
  go_wp2
  go_ret2
  exact ⟨rfl, HB2.out⟩
end Go.Proofs.YtjaedfjfcghgcabGreatDoor