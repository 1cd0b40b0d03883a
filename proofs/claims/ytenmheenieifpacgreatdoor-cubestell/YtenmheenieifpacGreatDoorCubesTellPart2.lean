/-
  Proved: what cubes.holding returns, of right atoms and any world: which of them hold, in a new row, or that the world is none; what was in memory is as it was (a contract that the statements lean on).
  Proved: what cubes.Holds returns, of any formula, any cubes and any world; what was in memory is as it was (a contract that the statements lean on).
  Proved: what cubes.Holds returns, of any formula, any cubes and any world; what was in memory is as it was (a contract that the statements lean on).
-/
import Derived.Test.YtenmheenieifpacGreatDoorFormCheck2
import Derived.Test.YtenmheenieifpacGreatDoorFormBool
import Derived.Test.YtenmheenieifpacGreatDoorAtomHolds
import Derived.Test.YtenmheenieifpacGreatDoorTermFill
import Derived.Test.YtenmheenieifpacGreatDoorCubesAny
import Derived.Laws.EntriesVeiled
namespace Go.Proofs.YtenmheenieifpacGreatDoor
open Go.ChangeShapes Go.WideShapes Go.ChangeAt Go.RowKit
set_option maxRecDepth 100000

set_option maxHeartbeats 4000000 in
theorem holding_any (ao : Option Addr) (acap : Nat) (ats : List At) (u a b d : Int) (w : World) (hA : ReadsA w (.slice ao ats.length acap) ats) (hK : KindsLaid w) (m1 : 1 ≤ ats.length) (m6 : ats.length ≤ 6) (hall : ∀ x ∈ ats, x.fault = 0) (ok : Bool) (hok : (Wd.mk u a b d).ok = ok) :
    Calls Tryz.prog 30 #[.slice ao ats.length acap, .agg #[.int .i64 u, .int .i64 a, .int .i64 b, .int .i64 d]] w fun e w' => (if ok = true then ∃ G, e = .returned (.tuple #[.slice (some ⟨G, 0, none⟩) ats.length ats.length, .nilIface]) ∧ ReadsB w' G 0 ((Wd.mk u a b d).heldL ats) else e = .returned (.tuple #[.slice none 0 0, .iface 53 (.int .i64 1)])) ∧ Below w.heap.size w w' := by
  obtain ⟨i0, hi, hz0, hz1, hz2⟩ := info_parts infoBool
  obtain ⟨w1, hw1⟩ : ∃ w1, w1 = w.alloc (.cells #[.int .i64 u, .int .i64 a, .int .i64 b, .int .i64 d] 29) := ⟨_, rfl⟩
  have HB1 : Hid (Below w.heap.size w w1) := by unfold Hid; rw [hw1]; exact below_alloc1 _ _
  have HS1 : Hid (w1.heap.size = w.heap.size + 1) := by unfold Hid; rw [hw1]; simp
  have HA : Hid (ReadsA w1 (.slice ao ats.length acap) ats) := hA.below HB1.out
  have HK : Hid (KindsLaid w1) := hK.below HB1.out
  clear hA hK
  have HX : Hid (∀ W, Below w1.heap.size w1 W → W.cell? ⟨w.heap.size, 0, none⟩ = some (.int .i64 u) ∧ W.cell? ⟨w.heap.size, 1, none⟩ = some (.int .i64 a) ∧ W.cell? ⟨w.heap.size, 2, none⟩ = some (.int .i64 b) ∧ W.cell? ⟨w.heap.size, 3, none⟩ = some (.int .i64 d)) := fun W hc => by
    have e0 : ∀ j, W.cell? ⟨w.heap.size, j, none⟩ = w1.cell? ⟨w.heap.size, j, none⟩ := fun j => hc.cell (show (⟨w.heap.size, j, none⟩ : Addr).block < _ by have := HS1.out; simp; omega)
    simp only [e0]
    rw [hw1]
    simp
  have HH : Hid (∀ (x : At) vs vt W, x ∈ ats → Reads W vs x.s → Reads W vt x.t → Below w1.heap.size w1 W → Calls Tryz.prog 49 #[.agg #[.int .i64 x.k, vs, vt, .int .i64 x.n], .agg #[.int .i64 u, .int .i64 a, .int .i64 b, .int .i64 d]] W fun e w' => e = .returned (.tuple #[.bool (if ok = true then (Wd.mk u a b d).holds x.k x.s x.t x.n else false), if ok = true then .nilIface else .iface 53 (.int .i64 1)]) ∧ Below W.heap.size W w') := fun x vs vt W hx h1 h2 hW => by
    have := aholds_any x.k x.n vs vt x.s x.t u a b d W h1 h2 (HK.out.below hW)
    have hxf : atomFault x.k x.s x.t x.n = 0 := hall x hx
    have e0 : (Wd.mk u a b d).holdsFault x.k x.s x.t x.n = if ok = true then 0 else 1 := by unfold Wd.holdsFault; rw [if_pos hxf, hok]
    have e1 : (Wd.mk u a b d).holdsIs x.k x.s x.t x.n = if ok = true then (Wd.mk u a b d).holds x.k x.s x.t x.n else false := by
      unfold Wd.holdsIs; rw [e0]; cases ok <;> rfl
    rw [e0, e1] at this
    cases ok <;> exact this
  clear hall hok
  obtain ⟨Hd, hHd⟩ : ∃ Hd : At → Bool, Hd = fun x => (Wd.mk u a b d).holds x.k x.s x.t x.n := ⟨_, rfl⟩
  have HHd : Hid ((Wd.mk u a b d).heldL ats = ats.map Hd) := by unfold Hid; rw [hHd]; rfl
  have HH' : Hid (∀ (x : At) vs vt W, x ∈ ats → Reads W vs x.s → Reads W vt x.t → Below w1.heap.size w1 W → Calls Tryz.prog 49 #[.agg #[.int .i64 x.k, vs, vt, .int .i64 x.n], .agg #[.int .i64 u, .int .i64 a, .int .i64 b, .int .i64 d]] W fun e w' => e = .returned (.tuple #[.bool (if ok = true then Hd x else false), if ok = true then .nilIface else .iface 53 (.int .i64 1)]) ∧ Below W.heap.size W w') := by
    rw [hHd]; exact HH
  rw [HHd.out]
  clear hHd HH HHd
  obtain ⟨m, hm⟩ : ∃ m, m = ats.length := ⟨_, rfl⟩
  rw [← hm] at m1 m6 HA ⊢
  have HM : Hid (m = ats.length) := hm
  clear hm
  obtain ⟨f, hf⟩ : ∃ f : Nat → Value, f = fun j => .bool ((ats.map Hd).getD j false) := ⟨_, rfl⟩
  have HF : Hid (f = fun j => .bool ((ats.map Hd).getD j false)) := hf
  clear hf
  obtain ⟨G, hG⟩ : ∃ G, G = w.heap.size + 1 := ⟨_, rfl⟩
  have HG : Hid (G = w1.heap.size) := by unfold Hid; rw [hG, HS1.out]
  go_enter Tryz.func30, Tryz.ntmps30
  go_wp2_with (first | (at_make; rw [← hw1]; refine wpList_make_full _ rfl _ _ 63 rfl G 4 i0 (.bool false) 1 Tryz.underlying63 hi hz0 hz1 .i64 .i64 _ _ m rfl rfl ?m0 ?m1 ?m2 ?m3 ?m4 ?_))
  case m0 => rfl
  case m1 => rfl
  case m2 => rw [hz2]; omega
  case m3 => unfold maxLen; omega
  case m4 => rw [HG.out]; exact Nat.le_refl _
  intro w3 hown1 hgrow1
  rw [← hw1] at hgrow1
  have HO : Hid (w3.ownsRow G 4 1 (.slice (some ⟨G, 0, none⟩) m m) m (fill f (.bool false) m 0) ∧ Below G w1 w3) := by
    refine ⟨?_, ?_⟩
    · rw [fill_zero, ← toList_madeCells_one, hG]
      simpa [Value.cells] using hown1
    · exact (Below.refl _ _).grown hgrow1 (by rw [HG.out]; exact Nat.le_refl _) (fun k hk => by cases hk)
  rw [← hG]
  clear hown1 hgrow1 hG hw1
  have HB3 : Hid (∀ W, Below G w1 W → Below w1.heap.size w1 W) := fun W h => by rw [← HG.out]; exact h
  go_wp2_with fail
  go_loopw [7, 9, 10, 16] (fun _ _ _ i wr => ∃ k : Nat, k ≤ m ∧ i = .int .i64 k ∧ wr.ownsRow G 4 1 (.slice (some ⟨G, 0, none⟩) m m) m (fill f (.bool false) m k) ∧ Below G w1 wr ∧ (0 < k → ok = true)) (fun _ _ _ i _ => m - (intOf i).toNat)
  case atStart => exact ⟨0, Nat.zero_le _, rfl, HO.out.1, HO.out.2, fun h => by omega⟩
  case round =>
    obtain ⟨k, hk, rfl, hown, hbel, hkok⟩ := hrel
    have HB : Hid (Below G w1 wr) := hbel
    have HOW : Hid (wr.ownsRow G 4 1 (.slice (some ⟨G, 0, none⟩) m m) m (fill f (.bool false) m k)) := hown
    clear hbel hown
    by_cases hlt : k < m
    · obtain ⟨x, hx⟩ : ∃ x, ats[k]? = some x := ⟨_, List.getElem?_eq_getElem (by have := HM.out; omega)⟩
      have HXm : Hid (x ∈ ats ∧ f k = .bool (Hd x)) := by
        refine ⟨List.mem_of_getElem? hx, ?_⟩
        rw [HF.out]; simp [hx]
      rcases HA.out.below (HB3.out _ HB.out) with ⟨_, _, _, hn0⟩ | ⟨B, off, cap, hv, hb, _, _, hatm⟩
      · have := HM.out; rw [hn0] at this; simp at this; omega
      obtain rfl : ao = some ⟨B, off, none⟩ := by cases hv; rfl
      obtain ⟨vs, vt, c0, c1, c2, c3, r1, r2⟩ := hatm k x hx
      obtain ⟨sao, scap, rfl, _⟩ := r1.slice
      obtain ⟨tao, tcap, rfl, _⟩ := r2.slice
      clear hv hatm
      obtain ⟨w4, hw4⟩ : ∃ w4, w4 = wr.alloc (.cells #[.int .i64 x.k, .slice sao x.s.length scap, .slice tao x.t.length tcap, .int .i64 x.n] 42) := ⟨_, rfl⟩
      have HB4 : Hid (Below wr.heap.size wr w4) := by unfold Hid; rw [hw4]; exact below_alloc1 wr _
      have HGr : Hid (G < wr.heap.size) := (ownsRow_block HOW.out).2.1
      have HBw : Hid (∀ W, Below wr.heap.size wr W → Below G w1 W) := fun W h => HB.out.trans (h.mono (by have := HGr.out; omega))
      have HCa : Hid (Calls Tryz.prog 49 #[.agg #[.int .i64 x.k, .slice sao x.s.length scap, .slice tao x.t.length tcap, .int .i64 x.n], .agg #[.int .i64 u, .int .i64 a, .int .i64 b, .int .i64 d]] w4 fun e w' => e = .returned (.tuple #[.bool (if ok = true then Hd x else false), if ok = true then .nilIface else .iface 53 (.int .i64 1)]) ∧ Below w4.heap.size w4 w') :=
        HH'.out x _ _ w4 HXm.out.1 (r1.below HB4.out) (r2.below HB4.out) (HB3.out _ (HBw.out _ HB4.out))
      clear r1 r2
      obtain ⟨y0, y1, y2, y3⟩ := HX.out w4 (HB3.out _ (HBw.out _ HB4.out))
      rw [hw4] at y0 y1 y2 y3
      have hltz : (k : Int) < (m : Int) := by omega
      go_wp2_with fail
      rw [← hw4]
      clear hw4 y0 y1 y2 y3
      go_at_call 49
      refine HCa.out.mono ?_
      rintro e w5 ⟨rfl, hb5⟩
      have HB5 : Hid (Below wr.heap.size wr w5) := HB4.out.trans (hb5.mono HB4.out.size)
      clear hb5 HCa
      cases ok
      · simp only [Bool.false_eq_true, if_false]
        go_wp2
        go_ret2
        exact ⟨by simp, HB1.out.trans ((HB3.out _ (HBw.out _ HB5.out)).mono HB1.out.size)⟩
      · simp only [if_true]
        have hown5 := ownsRow_below HOW.out HB5.out
        have hfr : w5.frozen? ⟨G, k, none⟩ = false := hown5.frozenAt k
        have hcg : w5.cell? ⟨G, k, none⟩ = some (.bool false) := by rw [hown5.cellAt k (by omega), fill_get _ _ _ _ _ hlt, if_neg (by omega)]
        have HR : Hid ((w5.setCell ⟨G, k, none⟩ (.bool (Hd x))).ownsRow G 4 1 (.slice (some ⟨G, 0, none⟩) m m) m (fill f (.bool false) m (k + 1)) ∧ Below G w1 (w5.setCell ⟨G, k, none⟩ (.bool (Hd x)))) := by
          have := hown5.stored k (f k)
          rw [fill_set, HXm.out.2] at this
          exact ⟨this.1, (HBw.out _ HB5.out).setCell (Nat.le_refl _) _⟩
        clear hown5
        go_wp2
        go_roundw
        case rel => exact ⟨k + 1, by omega, by go_num, HR.out.1, HR.out.2, fun _ => by first | rfl | trivial⟩
        case measure => simp [intOf]; omega
    · have hok : ok = true := hkok (by omega)
      subst hok
      have HRb : Hid (ReadsB wr G 0 (ats.map Hd)) := by
        refine ⟨(ownsRow_block HOW.out).2.1, fun j hj => ?_⟩
        have hj' : j < m := by rw [HM.out]; simpa using hj
        rw [Nat.zero_add, HOW.out.cellAt j (by omega), fill_get _ _ _ _ _ hj', if_pos (by omega), HF.out]
      have hltz : ¬ (k : Int) < (m : Int) := by omega
      go_wp2
      go_ret2
      refine ⟨?_, HB1.out.trans ((HB3.out _ HB.out).mono HB1.out.size)⟩
      exact ⟨G, rfl, HRb.out⟩
end Go.Proofs.YtenmheenieifpacGreatDoor

namespace Go.Proofs.YtenmheenieifpacGreatDoor
open Go.ChangeShapes Go.WideShapes Go.ChangeAt Go.RowKit
set_option maxRecDepth 100000

/-- is it no member, where there are so many atoms? -/
def badM (M : Nat) (m : Int) : Bool := decide (m = 0) || (decide ((M : Int) < m) || decide (m < -(M : Int)))
theorem badM_no {M : Nat} {m : Int} (h : badM M m = false) : m ≠ 0 ∧ m.natAbs ≤ M ∧ 1 ≤ m.natAbs := by
  unfold badM at h
  simp at h
  omega
theorem noMember_any (M : Nat) (ao : Option Addr) (acap P : Nat) (m : Int) (w : World) (hM : M ≤ 6) (hP : w.cell? ⟨P, 0, none⟩ = some (.slice ao M acap)) :
    Calls Tryz.prog 26 #[.int .i64 m, .pointer (some ⟨P, 0, none⟩)] w fun e w' => e = .returned (.bool (badM M m)) ∧ Below w.heap.size w w' := by
  have n1 : -9223372036854775808 ≤ -(M : Int) := by omega
  have n2 : -(M : Int) ≤ 9223372036854775807 := by omega
  by_cases h0 : m = 0
  · have e : badM M m = true := by unfold badM; simp [h0]
    have hb : (m == 0) = true := by simpa using h0
    rw [e]
    clear e h0
    go_enter Tryz.func26, Tryz.ntmps26
    go_wp2
    go_ret
    exact ⟨rfl, Below.refl _ _⟩
  · have hb : (m == 0) = false := by simpa using h0
    by_cases h1 : (M : Int) < m
    · have e : badM M m = true := by unfold badM; simp [h1]
      rw [e]
      clear e h0
      go_enter Tryz.func26, Tryz.ntmps26
      go_wp2
      go_ret
      exact ⟨rfl, Below.refl _ _⟩
    · have e : badM M m = decide (m < -(M : Int)) := by unfold badM; simp [h0, h1]
      rw [e]
      clear e h0
      go_enter Tryz.func26, Tryz.ntmps26
      go_wp2
      go_ret
      exact ⟨rfl, Below.refl _ _⟩
theorem noCube_any (M : Nat) (ao : Option Addr) (acap P1 P2 : Nat) (c : List Int) (v : Value) (w : World) (hM : M ≤ 6) (hB : P1 < w.heap.size) (hP1 : w.cell? ⟨P1, 0, none⟩ = some (.slice ao M acap)) (hP2 : w.cell? ⟨P2, 0, none⟩ = some (.func (.func 26) #[] #[.pointer (some ⟨P1, 0, none⟩)])) (hv : Reads w v c) :
    Calls Tryz.prog 28 #[v, .pointer (some ⟨P2, 0, none⟩)] w fun e w' => e = .returned (.bool (c.any (badM M))) ∧ Below w.heap.size w w' := by
  have e1 : ∀ args w, (callFunc 26 args).run Tryz.prog w = .ok (.enter 26 args) w := enters_of Tryz.func26 (by kernel_rfl) rfl
  have H : Hid (Calls Tryz.prog 29 #[v, .func (.func 26) #[] #[.pointer (some ⟨P1, 0, none⟩)]] w fun e w' => e = .returned (.bool (c.any (badM M))) ∧ Below w.heap.size w w') := anyI c v P1 _ (badM M) w hv e1 (fun W m hW _ => noMember_any M ao acap P1 m W hM (by rw [hW.cell (show (⟨P1, 0, none⟩ : Addr).block < _ from hB)]; exact hP1))
  obtain ⟨R, hR⟩ : ∃ R, R = c.any (badM M) := ⟨_, rfl⟩
  rw [← hR] at H ⊢
  obtain ⟨vo, vcap, rfl, _⟩ := (hv.rs (S := fun _ => True) (fun _ _ => trivial)).slice
  clear hR hv e1 hP1
  go_enter Tryz.func28, Tryz.ntmps28
  go_wp2_with fail
  go_at_call 29
  refine H.out.mono ?_
  rintro e w' ⟨rfl, hb⟩
  have HB : Hid (Below w.heap.size w w') := hb
  clear hb
  go_wp2
  go_ret
  exact ⟨rfl, HB.out⟩
theorem fails_any (held : List Bool) (G P : Nat) (m : Int) (w : World) (h6 : held.length ≤ 6) (hm : badM held.length m = false) (hP : w.cell? ⟨P, 0, none⟩ = some (.slice (some ⟨G, 0, none⟩) held.length held.length)) (hR : ReadsB w G 0 held) :
    Calls Tryz.prog 31 #[.int .i64 m, .pointer (some ⟨P, 0, none⟩)] w fun e w' => e = .returned (.bool (!litC held m)) ∧ Below w.heap.size w w' := by
  obtain ⟨h0, h1, h2⟩ := badM_no hm
  have hc := hR.2 (m.natAbs - 1) (by omega)
  rw [Nat.zero_add] at hc
  have hl : (!litC held m) = (held.getD (m.natAbs - 1) false != decide (0 < m)) := by unfold litC; rfl
  rw [hl]
  obtain ⟨x, hx⟩ : ∃ x, x = held.getD (m.natAbs - 1) false := ⟨_, rfl⟩
  rw [← hx] at hc ⊢
  obtain ⟨j, hj⟩ : ∃ j, j = m.natAbs - 1 := ⟨_, rfl⟩
  rw [← hj] at hc
  obtain ⟨l, hlen⟩ : ∃ l, l = held.length := ⟨_, rfl⟩
  rw [← hlen] at hP h6 h1
  have hjl : (j : Int) < (l : Int) := by omega
  have hj0 : (0 : Int) ≤ (j : Int) := by omega
  by_cases hp : 0 < m
  · obtain rfl : m = (j : Int) + 1 := by omega
    have hd : decide ((0 : Int) < (j : Int) + 1) = true := decide_eq_true (by omega)
    rw [hd]
    have x1 : -9223372036854775808 ≤ -((j : Int) + 1) := by omega
    have x2 : -((j : Int) + 1) ≤ 9223372036854775807 := by omega
    clear hx hl hm hR hlen hj h2 h1 h0 hd
    go_enter Tryz.func31, Tryz.ntmps31
    go_wp2
    go_ret
    exact ⟨back_b (by cases x <;> rfl), Below.refl _ _⟩
  · obtain rfl : m = -((j : Int) + 1) := by omega
    have hd : decide ((0 : Int) < -((j : Int) + 1)) = false := decide_eq_false (by omega)
    rw [hd]
    clear hx hl hm hR hlen hj h2 h1 h0 hd
    go_enter Tryz.func31, Tryz.ntmps31
    go_wp2
    go_ret
    exact ⟨back_b (by cases x <;> rfl), Below.refl _ _⟩
theorem holdsC_any (held : List Bool) (G P1 P2 : Nat) (c : List Int) (v : Value) (w : World) (h6 : held.length ≤ 6) (hc : ∀ m ∈ c, badM held.length m = false) (hB : P1 < w.heap.size) (hP1 : w.cell? ⟨P1, 0, none⟩ = some (.slice (some ⟨G, 0, none⟩) held.length held.length)) (hP2 : w.cell? ⟨P2, 0, none⟩ = some (.func (.func 31) #[] #[.pointer (some ⟨P1, 0, none⟩)])) (hR : ReadsB w G 0 held) (hv : Reads w v c) :
    Calls Tryz.prog 32 #[v, .pointer (some ⟨P2, 0, none⟩)] w fun e w' => e = .returned (.bool (allC held c)) ∧ Below w.heap.size w w' := by
  have e1 : ∀ args w, (callFunc 31 args).run Tryz.prog w = .ok (.enter 31 args) w := enters_of Tryz.func31 (by kernel_rfl) rfl
  have H : Hid (Calls Tryz.prog 29 #[v, .func (.func 31) #[] #[.pointer (some ⟨P1, 0, none⟩)]] w fun e w' => e = .returned (.bool (c.any (fun m => !litC held m))) ∧ Below w.heap.size w w') := anyI c v P1 _ (fun m => !litC held m) w hv e1 (fun W m hW hm => fails_any held G P1 m W h6 (hc m hm) (by rw [hW.cell (show (⟨P1, 0, none⟩ : Addr).block < _ from hB)]; exact hP1) ⟨Nat.lt_of_lt_of_le hR.1 hW.size, fun k hk => by rw [hW.cell (show (⟨G, 0 + k, none⟩ : Addr).block < _ from hR.1)]; exact hR.2 k hk⟩)
  obtain ⟨R, hRR⟩ : ∃ R, R = c.any (fun m => !litC held m) := ⟨_, rfl⟩
  have HE : Hid (allC held c = !R) := by
    unfold Hid
    rw [hRR]
    unfold allC
    rw [List.not_any_eq_all_not]
    simp
  rw [← hRR] at H
  obtain ⟨vo, vcap, rfl, _⟩ := (hv.rs (S := fun _ => True) (fun _ _ => trivial)).slice
  clear hRR hv e1 hP1 hR hc
  rw [HE.out]
  go_enter Tryz.func32, Tryz.ntmps32
  go_wp2_with fail
  go_at_call 29
  refine H.out.mono ?_
  rintro e w' ⟨rfl, hb⟩
  have HB : Hid (Below w.heap.size w w') := hb
  clear hb
  go_wp2
  go_ret
  exact ⟨rfl, HB.out⟩
end Go.Proofs.YtenmheenieifpacGreatDoor

namespace Go.Proofs.YtenmheenieifpacGreatDoor
open Go.ChangeShapes Go.WideShapes Go.ChangeAt Go.RowKit
set_option maxRecDepth 100000

set_option maxHeartbeats 8000000 in
theorem cholds_range (ao co : Option Addr) (acap ccap : Nat) (vl : Value) (ats : List At) (c : List Int) (L : List (List Int)) (u a b d : Int) (w : World) (hA : ReadsA w (.slice ao ats.length acap) ats) (hC : Reads w (.slice co c.length ccap) c) (hL : RS2 (fun _ => True) w vl L) (hK : KindsLaid w) (hf : formFault ats c = 0) (hbad : L.any (fun t => t.any (badM ats.length)) = true) :
    Calls Tryz.prog 12 #[.agg #[.slice ao ats.length acap, .slice co c.length ccap], vl, .agg #[.int .i64 u, .int .i64 a, .int .i64 b, .int .i64 d]] w fun e w' => e = .returned (.tuple #[.bool false, .iface 53 (.int .i64 1)]) ∧ Below w.heap.size w w' := by
  obtain ⟨⟨m1, m6⟩, _, hall, _, _⟩ := formFault_zero.1 hf
  obtain ⟨lo, lcap, rfl, _⟩ := hL.slice
  obtain ⟨w1, hw1⟩ : ∃ w1, w1 = (w.alloc (.cells #[.slice ao ats.length acap, .slice co c.length ccap] 25)).alloc (.cells #[.int .i64 u, .int .i64 a, .int .i64 b, .int .i64 d] 29) := ⟨_, rfl⟩
  have HB1 : Hid (Below w.heap.size w w1) := by unfold Hid; rw [hw1]; exact (below_alloc1 _ _).trans ((below_alloc1 _ _).mono (by simp))
  have HS1 : Hid (w1.heap.size = w.heap.size + 2) := by unfold Hid; rw [hw1]; simp
  have HCk : Hid (Calls Tryz.prog 17 #[.agg #[.slice ao ats.length acap, .slice co c.length ccap]] w1 fun e w' => e = .returned .nilIface ∧ Below w1.heap.size w1 w') := by
    have := fcheck_any _ _ ats c w1 (hA.below HB1.out) (hC.below HB1.out) (hK.below HB1.out)
    rw [hf, errV_0] at this
    exact this
  have HA : Hid (ReadsA w1 (.slice ao ats.length acap) ats) := hA.below HB1.out
  have HK : Hid (KindsLaid w1) := hK.below HB1.out
  have HLr : Hid (∀ W, Below w1.heap.size w1 W → RS2 (fun _ => True) W (.slice lo L.length lcap) L) := fun W hW => (hL.kept (Kept.of_below HB1.out)).kept (Kept.of_below hW)
  have HX : Hid (∀ W, Below w1.heap.size w1 W → (W.cell? ⟨w.heap.size, 0, none⟩ = some (.slice ao ats.length acap) ∧ W.cell? ⟨w.heap.size, 1, none⟩ = some (.slice co c.length ccap)) ∧ (W.cell? ⟨w.heap.size + 1, 0, none⟩ = some (.int .i64 u) ∧ W.cell? ⟨w.heap.size + 1, 1, none⟩ = some (.int .i64 a) ∧ W.cell? ⟨w.heap.size + 1, 2, none⟩ = some (.int .i64 b) ∧ W.cell? ⟨w.heap.size + 1, 3, none⟩ = some (.int .i64 d))) := fun W hc => by
    have l0 : w.heap.size < w1.heap.size := by have := HS1.out; omega
    have l1 : w.heap.size + 1 < w1.heap.size := by have := HS1.out; omega
    have e0 : ∀ j, W.cell? ⟨w.heap.size, j, none⟩ = w1.cell? ⟨w.heap.size, j, none⟩ := fun j => hc.cell (show (⟨w.heap.size, j, none⟩ : Addr).block < _ from l0)
    have e1 : ∀ j, W.cell? ⟨w.heap.size + 1, j, none⟩ = w1.cell? ⟨w.heap.size + 1, j, none⟩ := fun j => hc.cell (show (⟨w.heap.size + 1, j, none⟩ : Addr).block < _ from l1)
    simp only [e0, e1]
    rw [hw1]
    have q : w.heap.size + 1 = (w.alloc (.cells #[.slice ao ats.length acap, .slice co c.length ccap] 25)).heap.size := by simp
    have r : ∀ o j, ((w.alloc (.cells #[.slice ao ats.length acap, .slice co c.length ccap] 25)).alloc o).cell? ⟨w.heap.size, j, none⟩ = (w.alloc (.cells #[.slice ao ats.length acap, .slice co c.length ccap] 25)).cell? ⟨w.heap.size, j, none⟩ := fun o j => World.cell?_alloc_lt _ _ ⟨w.heap.size, j, none⟩ (by simp)
    simp only [r]
    rw [q]
    simp
  clear hA hC hK hL
  have e2 : ∀ args w, (callFunc 28 args).run Tryz.prog w = .ok (.enter 28 args) w := enters_of Tryz.func28 (by kernel_rfl) rfl
  have HA1 : Hid (∀ W P2, Below w1.heap.size w1 W → P2 < W.heap.size → W.cell? ⟨P2, 0, none⟩ = some (.func (.func 26) #[] #[.pointer (some ⟨w.heap.size, 0, none⟩)]) → Calls Tryz.prog 27 #[.slice lo L.length lcap, .func (.func 28) #[] #[.pointer (some ⟨P2, 0, none⟩)]] W fun e w' => e = .returned (.bool true) ∧ Below W.heap.size W w') := fun W P2 hW hlt hP2 => by
    rw [← hbad]
    exact anyL _ L _ P2 _ (fun t => t.any (badM ats.length)) W (HLr.out W hW) e2 (fun W' x t hW' _ hx => noCube_any ats.length ao acap w.heap.size P2 t x W' m6 (by have := (hW.trans (hW'.mono hW.size)).size; have := HS1.out; omega) (HX.out W' (hW.trans (hW'.mono hW.size))).1.1 (by rw [hW'.cell (show (⟨P2, 0, none⟩ : Addr).block < _ from hlt)]; exact hP2) hx)
  clear e2 hbad hall hf
  obtain ⟨m, hm⟩ : ∃ m, m = ats.length := ⟨_, rfl⟩
  obtain ⟨n, hn⟩ : ∃ n, n = c.length := ⟨_, rfl⟩
  obtain ⟨l, hl⟩ : ∃ l, l = L.length := ⟨_, rfl⟩
  rw [← hm] at hw1 HX HCk m1 m6 ⊢
  rw [← hn] at hw1 HX HCk ⊢
  rw [← hl] at HA1 ⊢
  clear hm hn hl HLr HA HK
  obtain ⟨x0, x1⟩ := (HX.out w1 (Below.refl _ _)).1
  rw [hw1] at x0 x1
  go_enter Tryz.func12, Tryz.ntmps12
  go_wp2_with fail
  rw [← hw1]
  clear hw1 x0 x1
  go_at_call 17
  refine HCk.out.mono ?_
  rintro e w2 ⟨rfl, hb⟩
  have HB2 : Hid (Below w1.heap.size w1 w2) := hb
  clear hb HCk
  have z0 : (w2.alloc (.cells #[.nilFunc] 59)).cell? ⟨w2.heap.size, 0, none⟩ = some .nilFunc := by simp
  have z1 : (w2.alloc (.cells #[.nilFunc] 59)).frozen? ⟨w2.heap.size, 0, none⟩ = false := by simp
  obtain ⟨w3, hw3⟩ : ∃ w3, w3 = w2.alloc (.cells #[.func (.func 26) #[] #[.pointer (some ⟨w.heap.size, 0, none⟩)]] 59) := ⟨_, rfl⟩
  have HB3 : Hid (Below w1.heap.size w1 w3 ∧ w2.heap.size < w3.heap.size) := by unfold Hid; rw [hw3]; exact ⟨HB2.out.trans ((below_alloc1 _ _).mono HB2.out.size), by simp⟩
  have HC3 : Hid (w3.cell? ⟨w2.heap.size, 0, none⟩ = some (.func (.func 26) #[] #[.pointer (some ⟨w.heap.size, 0, none⟩)])) := by unfold Hid; rw [hw3]; simp
  go_wp2_with fail
  rw [← hw3]
  clear hw3 z0 z1
  go_at_call 27
  refine (HA1.out w3 w2.heap.size HB3.out.1 HB3.out.2 HC3.out).mono ?_
  rintro e w4 ⟨rfl, hb⟩
  have HB4 : Hid (Below w1.heap.size w1 w4) := HB3.out.1.trans (hb.mono HB3.out.1.size)
  clear hb HA1
  go_wp2
  go_ret2
  exact ⟨rfl, HB1.out.trans (HB4.out.mono HB1.out.size)⟩

set_option maxHeartbeats 8000000 in
theorem cholds_world (ao co : Option Addr) (acap ccap : Nat) (vl : Value) (ats : List At) (c : List Int) (L : List (List Int)) (u a b d : Int) (w : World) (hA : ReadsA w (.slice ao ats.length acap) ats) (hC : Reads w (.slice co c.length ccap) c) (hL : RS2 (fun _ => True) w vl L) (hK : KindsLaid w) (hf : formFault ats c = 0) (hbad : L.any (fun t => t.any (badM ats.length)) = false) (hok : (Wd.mk u a b d).ok = false) :
    Calls Tryz.prog 12 #[.agg #[.slice ao ats.length acap, .slice co c.length ccap], vl, .agg #[.int .i64 u, .int .i64 a, .int .i64 b, .int .i64 d]] w fun e w' => e = .returned (.tuple #[.bool false, .iface 53 (.int .i64 1)]) ∧ Below w.heap.size w w' := by
  obtain ⟨⟨m1, m6⟩, _, hall, _, _⟩ := formFault_zero.1 hf
  obtain ⟨lo, lcap, rfl, _⟩ := hL.slice
  obtain ⟨w1, hw1⟩ : ∃ w1, w1 = (w.alloc (.cells #[.slice ao ats.length acap, .slice co c.length ccap] 25)).alloc (.cells #[.int .i64 u, .int .i64 a, .int .i64 b, .int .i64 d] 29) := ⟨_, rfl⟩
  have HB1 : Hid (Below w.heap.size w w1) := by unfold Hid; rw [hw1]; exact (below_alloc1 _ _).trans ((below_alloc1 _ _).mono (by simp))
  have HS1 : Hid (w1.heap.size = w.heap.size + 2) := by unfold Hid; rw [hw1]; simp
  have HCk : Hid (Calls Tryz.prog 17 #[.agg #[.slice ao ats.length acap, .slice co c.length ccap]] w1 fun e w' => e = .returned .nilIface ∧ Below w1.heap.size w1 w') := by
    have := fcheck_any _ _ ats c w1 (hA.below HB1.out) (hC.below HB1.out) (hK.below HB1.out)
    rw [hf, errV_0] at this
    exact this
  have HA : Hid (ReadsA w1 (.slice ao ats.length acap) ats) := hA.below HB1.out
  have HK : Hid (KindsLaid w1) := hK.below HB1.out
  have HLr : Hid (∀ W, Below w1.heap.size w1 W → RS2 (fun _ => True) W (.slice lo L.length lcap) L) := fun W hW => (hL.kept (Kept.of_below HB1.out)).kept (Kept.of_below hW)
  have HX : Hid (∀ W, Below w1.heap.size w1 W → (W.cell? ⟨w.heap.size, 0, none⟩ = some (.slice ao ats.length acap) ∧ W.cell? ⟨w.heap.size, 1, none⟩ = some (.slice co c.length ccap)) ∧ (W.cell? ⟨w.heap.size + 1, 0, none⟩ = some (.int .i64 u) ∧ W.cell? ⟨w.heap.size + 1, 1, none⟩ = some (.int .i64 a) ∧ W.cell? ⟨w.heap.size + 1, 2, none⟩ = some (.int .i64 b) ∧ W.cell? ⟨w.heap.size + 1, 3, none⟩ = some (.int .i64 d))) := fun W hc => by
    have l0 : w.heap.size < w1.heap.size := by have := HS1.out; omega
    have l1 : w.heap.size + 1 < w1.heap.size := by have := HS1.out; omega
    have e0 : ∀ j, W.cell? ⟨w.heap.size, j, none⟩ = w1.cell? ⟨w.heap.size, j, none⟩ := fun j => hc.cell (show (⟨w.heap.size, j, none⟩ : Addr).block < _ from l0)
    have e1 : ∀ j, W.cell? ⟨w.heap.size + 1, j, none⟩ = w1.cell? ⟨w.heap.size + 1, j, none⟩ := fun j => hc.cell (show (⟨w.heap.size + 1, j, none⟩ : Addr).block < _ from l1)
    simp only [e0, e1]
    rw [hw1]
    have q : w.heap.size + 1 = (w.alloc (.cells #[.slice ao ats.length acap, .slice co c.length ccap] 25)).heap.size := by simp
    have r : ∀ o j, ((w.alloc (.cells #[.slice ao ats.length acap, .slice co c.length ccap] 25)).alloc o).cell? ⟨w.heap.size, j, none⟩ = (w.alloc (.cells #[.slice ao ats.length acap, .slice co c.length ccap] 25)).cell? ⟨w.heap.size, j, none⟩ := fun o j => World.cell?_alloc_lt _ _ ⟨w.heap.size, j, none⟩ (by simp)
    simp only [r]
    rw [q]
    simp
  clear hA hC hK hL
  have e2 : ∀ args w, (callFunc 28 args).run Tryz.prog w = .ok (.enter 28 args) w := enters_of Tryz.func28 (by kernel_rfl) rfl
  have HA1 : Hid (∀ W P2, Below w1.heap.size w1 W → P2 < W.heap.size → W.cell? ⟨P2, 0, none⟩ = some (.func (.func 26) #[] #[.pointer (some ⟨w.heap.size, 0, none⟩)]) → Calls Tryz.prog 27 #[.slice lo L.length lcap, .func (.func 28) #[] #[.pointer (some ⟨P2, 0, none⟩)]] W fun e w' => e = .returned (.bool false) ∧ Below W.heap.size W w') := fun W P2 hW hlt hP2 => by
    rw [← hbad]
    exact anyL _ L _ P2 _ (fun t => t.any (badM ats.length)) W (HLr.out W hW) e2 (fun W' x t hW' _ hx => noCube_any ats.length ao acap w.heap.size P2 t x W' m6 (by have := (hW.trans (hW'.mono hW.size)).size; have := HS1.out; omega) (HX.out W' (hW.trans (hW'.mono hW.size))).1.1 (by rw [hW'.cell (show (⟨P2, 0, none⟩ : Addr).block < _ from hlt)]; exact hP2) hx)
  have HHo : Hid (∀ W, Below w1.heap.size w1 W → _) := fun W hW => holding_any ao acap ats u a b d W (HA.out.below hW) (HK.out.below hW) m1 m6 hall false hok
  clear e2 hbad hall hf
  obtain ⟨m, hm⟩ : ∃ m, m = ats.length := ⟨_, rfl⟩
  obtain ⟨n, hn⟩ : ∃ n, n = c.length := ⟨_, rfl⟩
  obtain ⟨l, hl⟩ : ∃ l, l = L.length := ⟨_, rfl⟩
  rw [← hm] at hw1 HX HCk m1 m6 ⊢
  rw [← hn] at hw1 HX HCk ⊢
  rw [← hl] at HA1 ⊢
  rw [← hm] at HHo
  clear hm hn hl HLr HA HK
  obtain ⟨x0, x1⟩ := (HX.out w1 (Below.refl _ _)).1
  rw [hw1] at x0 x1
  go_enter Tryz.func12, Tryz.ntmps12
  go_wp2_with fail
  rw [← hw1]
  clear hw1 x0 x1
  go_at_call 17
  refine HCk.out.mono ?_
  rintro e w2 ⟨rfl, hb⟩
  have HB2 : Hid (Below w1.heap.size w1 w2) := hb
  clear hb HCk
  have z0 : (w2.alloc (.cells #[.nilFunc] 59)).cell? ⟨w2.heap.size, 0, none⟩ = some .nilFunc := by simp
  have z1 : (w2.alloc (.cells #[.nilFunc] 59)).frozen? ⟨w2.heap.size, 0, none⟩ = false := by simp
  obtain ⟨w3, hw3⟩ : ∃ w3, w3 = w2.alloc (.cells #[.func (.func 26) #[] #[.pointer (some ⟨w.heap.size, 0, none⟩)]] 59) := ⟨_, rfl⟩
  have HB3 : Hid (Below w1.heap.size w1 w3 ∧ w2.heap.size < w3.heap.size) := by unfold Hid; rw [hw3]; exact ⟨HB2.out.trans ((below_alloc1 _ _).mono HB2.out.size), by simp⟩
  have HC3 : Hid (w3.cell? ⟨w2.heap.size, 0, none⟩ = some (.func (.func 26) #[] #[.pointer (some ⟨w.heap.size, 0, none⟩)])) := by unfold Hid; rw [hw3]; simp
  go_wp2_with fail
  rw [← hw3]
  clear hw3 z0 z1
  go_at_call 27
  refine (HA1.out w3 w2.heap.size HB3.out.1 HB3.out.2 HC3.out).mono ?_
  rintro e w4 ⟨rfl, hb⟩
  have HB4 : Hid (Below w1.heap.size w1 w4) := HB3.out.1.trans (hb.mono HB3.out.1.size)
  clear hb HA1
  obtain ⟨⟨x0, x1⟩, ⟨y0, y1, y2, y3⟩⟩ := HX.out w4 HB4.out
  go_wp2_with fail
  clear x0 x1 y0 y1 y2 y3
  go_at_call 30
  refine (HHo.out w4 HB4.out).mono ?_
  rintro e w5 ⟨hh, hb⟩
  have HB5 : Hid (Below w1.heap.size w1 w5) := HB4.out.trans (hb.mono HB4.out.size)
  clear hb HHo
  have he : e = .returned (.tuple #[.slice none 0 0, .iface 53 (.int .i64 1)]) := by simpa using hh
  subst he
  clear hh
  obtain ⟨w6, hw6⟩ : ∃ w6, w6 = w5.alloc (.cells #[.slice none 0 0] 63) := ⟨_, rfl⟩
  have HB6 : Hid (Below w1.heap.size w1 w6) := by unfold Hid; rw [hw6]; exact HB5.out.trans ((below_alloc1 _ _).mono HB5.out.size)
  have z0 : (w5.alloc (.cells #[.slice none 0 0] 63)).cell? ⟨w5.heap.size, 0, none⟩ = some (.slice none 0 0) := by simp
  have z1 : (w5.alloc (.cells #[.slice none 0 0] 63)).frozen? ⟨w5.heap.size, 0, none⟩ = false := by simp
  rw [hw6] at HB6
  clear hw6
  go_wp2
  go_ret2
  exact ⟨rfl, HB1.out.trans (HB6.out.mono HB1.out.size)⟩

set_option maxHeartbeats 8000000 in
theorem cholds_good (ao co : Option Addr) (acap ccap : Nat) (vl : Value) (ats : List At) (c : List Int) (L : List (List Int)) (u a b d : Int) (w : World) (hA : ReadsA w (.slice ao ats.length acap) ats) (hC : Reads w (.slice co c.length ccap) c) (hL : RS2 (fun _ => True) w vl L) (hK : KindsLaid w) (hf : formFault ats c = 0) (hbad : L.any (fun t => t.any (badM ats.length)) = false) (hok : (Wd.mk u a b d).ok = true) :
    Calls Tryz.prog 12 #[.agg #[.slice ao ats.length acap, .slice co c.length ccap], vl, .agg #[.int .i64 u, .int .i64 a, .int .i64 b, .int .i64 d]] w fun e w' => e = .returned (.tuple #[.bool (anyC ((Wd.mk u a b d).heldL ats) L), .nilIface]) ∧ Below w.heap.size w w' := by
  obtain ⟨⟨m1, m6⟩, _, hall, _, _⟩ := formFault_zero.1 hf
  obtain ⟨lo, lcap, rfl, _⟩ := hL.slice
  obtain ⟨w1, hw1⟩ : ∃ w1, w1 = (w.alloc (.cells #[.slice ao ats.length acap, .slice co c.length ccap] 25)).alloc (.cells #[.int .i64 u, .int .i64 a, .int .i64 b, .int .i64 d] 29) := ⟨_, rfl⟩
  have HB1 : Hid (Below w.heap.size w w1) := by unfold Hid; rw [hw1]; exact (below_alloc1 _ _).trans ((below_alloc1 _ _).mono (by simp))
  have HS1 : Hid (w1.heap.size = w.heap.size + 2) := by unfold Hid; rw [hw1]; simp
  have HCk : Hid (Calls Tryz.prog 17 #[.agg #[.slice ao ats.length acap, .slice co c.length ccap]] w1 fun e w' => e = .returned .nilIface ∧ Below w1.heap.size w1 w') := by
    have := fcheck_any _ _ ats c w1 (hA.below HB1.out) (hC.below HB1.out) (hK.below HB1.out)
    rw [hf, errV_0] at this
    exact this
  have HA : Hid (ReadsA w1 (.slice ao ats.length acap) ats) := hA.below HB1.out
  have HK : Hid (KindsLaid w1) := hK.below HB1.out
  have HLr : Hid (∀ W, Below w1.heap.size w1 W → RS2 (fun _ => True) W (.slice lo L.length lcap) L) := fun W hW => (hL.kept (Kept.of_below HB1.out)).kept (Kept.of_below hW)
  have HX : Hid (∀ W, Below w1.heap.size w1 W → (W.cell? ⟨w.heap.size, 0, none⟩ = some (.slice ao ats.length acap) ∧ W.cell? ⟨w.heap.size, 1, none⟩ = some (.slice co c.length ccap)) ∧ (W.cell? ⟨w.heap.size + 1, 0, none⟩ = some (.int .i64 u) ∧ W.cell? ⟨w.heap.size + 1, 1, none⟩ = some (.int .i64 a) ∧ W.cell? ⟨w.heap.size + 1, 2, none⟩ = some (.int .i64 b) ∧ W.cell? ⟨w.heap.size + 1, 3, none⟩ = some (.int .i64 d))) := fun W hc => by
    have l0 : w.heap.size < w1.heap.size := by have := HS1.out; omega
    have l1 : w.heap.size + 1 < w1.heap.size := by have := HS1.out; omega
    have e0 : ∀ j, W.cell? ⟨w.heap.size, j, none⟩ = w1.cell? ⟨w.heap.size, j, none⟩ := fun j => hc.cell (show (⟨w.heap.size, j, none⟩ : Addr).block < _ from l0)
    have e1 : ∀ j, W.cell? ⟨w.heap.size + 1, j, none⟩ = w1.cell? ⟨w.heap.size + 1, j, none⟩ := fun j => hc.cell (show (⟨w.heap.size + 1, j, none⟩ : Addr).block < _ from l1)
    simp only [e0, e1]
    rw [hw1]
    have q : w.heap.size + 1 = (w.alloc (.cells #[.slice ao ats.length acap, .slice co c.length ccap] 25)).heap.size := by simp
    have r : ∀ o j, ((w.alloc (.cells #[.slice ao ats.length acap, .slice co c.length ccap] 25)).alloc o).cell? ⟨w.heap.size, j, none⟩ = (w.alloc (.cells #[.slice ao ats.length acap, .slice co c.length ccap] 25)).cell? ⟨w.heap.size, j, none⟩ := fun o j => World.cell?_alloc_lt _ _ ⟨w.heap.size, j, none⟩ (by simp)
    simp only [r]
    rw [q]
    simp
  clear hA hC hK hL
  have e2 : ∀ args w, (callFunc 28 args).run Tryz.prog w = .ok (.enter 28 args) w := enters_of Tryz.func28 (by kernel_rfl) rfl
  have HA1 : Hid (∀ W P2, Below w1.heap.size w1 W → P2 < W.heap.size → W.cell? ⟨P2, 0, none⟩ = some (.func (.func 26) #[] #[.pointer (some ⟨w.heap.size, 0, none⟩)]) → Calls Tryz.prog 27 #[.slice lo L.length lcap, .func (.func 28) #[] #[.pointer (some ⟨P2, 0, none⟩)]] W fun e w' => e = .returned (.bool false) ∧ Below W.heap.size W w') := fun W P2 hW hlt hP2 => by
    rw [← hbad]
    exact anyL _ L _ P2 _ (fun t => t.any (badM ats.length)) W (HLr.out W hW) e2 (fun W' x t hW' _ hx => noCube_any ats.length ao acap w.heap.size P2 t x W' m6 (by have := (hW.trans (hW'.mono hW.size)).size; have := HS1.out; omega) (HX.out W' (hW.trans (hW'.mono hW.size))).1.1 (by rw [hW'.cell (show (⟨P2, 0, none⟩ : Addr).block < _ from hlt)]; exact hP2) hx)
  have HHo : Hid (∀ W, Below w1.heap.size w1 W → _) := fun W hW => holding_any ao acap ats u a b d W (HA.out.below hW) (HK.out.below hW) m1 m6 hall true hok
  have e4 : ∀ args w, (callFunc 32 args).run Tryz.prog w = .ok (.enter 32 args) w := enters_of Tryz.func32 (by kernel_rfl) rfl
  have hlen : ((Wd.mk u a b d).heldL ats).length = ats.length := by simp [Wd.heldL]
  have hgd : ∀ t ∈ L, ∀ m ∈ t, badM ats.length m = false := fun t ht m hm => by
    have h1 := List.any_eq_false.1 hbad t ht
    rw [Bool.not_eq_true] at h1
    have h2 := List.any_eq_false.1 h1 m hm
    simpa using h2
  have HA2 : Hid (∀ W P1 P2 G, Below w1.heap.size w1 W → P1 < W.heap.size → P2 < W.heap.size → W.cell? ⟨P1, 0, none⟩ = some (.slice (some ⟨G, 0, none⟩) ats.length ats.length) → W.cell? ⟨P2, 0, none⟩ = some (.func (.func 31) #[] #[.pointer (some ⟨P1, 0, none⟩)]) → ReadsB W G 0 ((Wd.mk u a b d).heldL ats) → Calls Tryz.prog 27 #[.slice lo L.length lcap, .func (.func 32) #[] #[.pointer (some ⟨P2, 0, none⟩)]] W fun e w' => e = .returned (.bool (anyC ((Wd.mk u a b d).heldL ats) L)) ∧ Below W.heap.size W w') := fun W P1 P2 G hW h1 h2 c1 c2 hR =>
    anyL _ L _ P2 _ (allC ((Wd.mk u a b d).heldL ats)) W (HLr.out W hW) e4 (fun W' x t hW' ht hx => holdsC_any _ G P1 P2 t x W' (by rw [hlen]; exact m6) (by rw [hlen]; exact hgd t ht) (Nat.lt_of_lt_of_le h1 hW'.size) (by rw [hW'.cell (show (⟨P1, 0, none⟩ : Addr).block < _ from h1), hlen]; exact c1) (by rw [hW'.cell (show (⟨P2, 0, none⟩ : Addr).block < _ from h2)]; exact c2) ⟨Nat.lt_of_lt_of_le hR.1 hW'.size, fun k hk => by rw [hW'.cell (show (⟨G, 0 + k, none⟩ : Addr).block < _ from hR.1)]; exact hR.2 k hk⟩ hx)
  clear e4 hlen hgd hok
  obtain ⟨V, hV⟩ : ∃ V, V = anyC ((Wd.mk u a b d).heldL ats) L := ⟨_, rfl⟩
  rw [← hV] at HA2 ⊢
  clear hV
  clear e2 hbad hall hf
  obtain ⟨m, hm⟩ : ∃ m, m = ats.length := ⟨_, rfl⟩
  obtain ⟨n, hn⟩ : ∃ n, n = c.length := ⟨_, rfl⟩
  obtain ⟨l, hl⟩ : ∃ l, l = L.length := ⟨_, rfl⟩
  rw [← hm] at hw1 HX HCk m1 m6 ⊢
  rw [← hn] at hw1 HX HCk ⊢
  rw [← hl] at HA1 ⊢
  rw [← hm] at HHo
  rw [← hm, ← hl] at HA2
  clear hm hn hl HLr HA HK
  obtain ⟨x0, x1⟩ := (HX.out w1 (Below.refl _ _)).1
  rw [hw1] at x0 x1
  go_enter Tryz.func12, Tryz.ntmps12
  go_wp2_with fail
  rw [← hw1]
  clear hw1 x0 x1
  go_at_call 17
  refine HCk.out.mono ?_
  rintro e w2 ⟨rfl, hb⟩
  have HB2 : Hid (Below w1.heap.size w1 w2) := hb
  clear hb HCk
  have z0 : (w2.alloc (.cells #[.nilFunc] 59)).cell? ⟨w2.heap.size, 0, none⟩ = some .nilFunc := by simp
  have z1 : (w2.alloc (.cells #[.nilFunc] 59)).frozen? ⟨w2.heap.size, 0, none⟩ = false := by simp
  obtain ⟨w3, hw3⟩ : ∃ w3, w3 = w2.alloc (.cells #[.func (.func 26) #[] #[.pointer (some ⟨w.heap.size, 0, none⟩)]] 59) := ⟨_, rfl⟩
  have HB3 : Hid (Below w1.heap.size w1 w3 ∧ w2.heap.size < w3.heap.size) := by unfold Hid; rw [hw3]; exact ⟨HB2.out.trans ((below_alloc1 _ _).mono HB2.out.size), by simp⟩
  have HC3 : Hid (w3.cell? ⟨w2.heap.size, 0, none⟩ = some (.func (.func 26) #[] #[.pointer (some ⟨w.heap.size, 0, none⟩)])) := by unfold Hid; rw [hw3]; simp
  go_wp2_with fail
  rw [← hw3]
  clear hw3 z0 z1
  go_at_call 27
  refine (HA1.out w3 w2.heap.size HB3.out.1 HB3.out.2 HC3.out).mono ?_
  rintro e w4 ⟨rfl, hb⟩
  have HB4 : Hid (Below w1.heap.size w1 w4) := HB3.out.1.trans (hb.mono HB3.out.1.size)
  clear hb HA1
  obtain ⟨⟨x0, x1⟩, ⟨y0, y1, y2, y3⟩⟩ := HX.out w4 HB4.out
  go_wp2_with fail
  clear x0 x1 y0 y1 y2 y3
  go_at_call 30
  refine (HHo.out w4 HB4.out).mono ?_
  rintro e w5 ⟨hh, hb⟩
  have HB5 : Hid (Below w1.heap.size w1 w5) := HB4.out.trans (hb.mono HB4.out.size)
  clear hb HHo
  obtain ⟨G, rfl, hR⟩ : ∃ G, e = .returned (.tuple #[.slice (some ⟨G, 0, none⟩) m m, .nilIface]) ∧ ReadsB w5 G 0 ((Wd.mk u a b d).heldL ats) := by simpa using hh
  clear hh
  obtain ⟨w6, hw6⟩ : ∃ w6, w6 = w5.alloc (.cells #[.slice (some ⟨G, 0, none⟩) m m] 63) := ⟨_, rfl⟩
  obtain ⟨w7, hw7⟩ : ∃ w7, w7 = w6.alloc (.cells #[.func (.func 31) #[] #[.pointer (some ⟨w5.heap.size, 0, none⟩)]] 59) := ⟨_, rfl⟩
  have s6 : w6.heap.size = w5.heap.size + 1 := by rw [hw6]; simp
  have HB7 : Hid (Below w1.heap.size w1 w7 ∧ w7.heap.size = w5.heap.size + 2) := by
    refine ⟨?_, by rw [hw7]; simp [s6]⟩
    rw [hw7]
    exact (by rw [hw6]; exact HB5.out.trans ((below_alloc1 _ _).mono HB5.out.size) : Below w1.heap.size w1 w6).trans ((below_alloc1 _ _).mono (by have := HB5.out.size; omega))
  have HC7 : Hid (w7.cell? ⟨w5.heap.size, 0, none⟩ = some (.slice (some ⟨G, 0, none⟩) m m) ∧ w7.cell? ⟨w5.heap.size + 1, 0, none⟩ = some (.func (.func 31) #[] #[.pointer (some ⟨w5.heap.size, 0, none⟩)]) ∧ ReadsB w7 G 0 ((Wd.mk u a b d).heldL ats)) := by
    have b57 : Below w5.heap.size w5 w7 := by
      rw [hw7]
      exact (by rw [hw6]; exact below_alloc1 _ _ : Below w5.heap.size w5 w6).trans ((below_alloc1 _ _).mono (by omega))
    refine ⟨?_, ?_, Nat.lt_of_lt_of_le hR.1 b57.size, fun k hk => by rw [b57.cell (show (⟨G, 0 + k, none⟩ : Addr).block < _ from hR.1)]; exact hR.2 k hk⟩
    · rw [hw7, World.cell?_alloc_lt _ _ ⟨w5.heap.size, 0, none⟩ (by simp; omega), hw6]; simp
    · rw [← s6, hw7]; simp
  have z0 : (w5.alloc (.cells #[.slice none 0 0] 63)).cell? ⟨w5.heap.size, 0, none⟩ = some (.slice none 0 0) := by simp
  have z1 : (w5.alloc (.cells #[.slice none 0 0] 63)).frozen? ⟨w5.heap.size, 0, none⟩ = false := by simp
  have z2 : ((w5.alloc (.cells #[.slice (some ⟨G, 0, none⟩) m m] 63)).alloc (.cells #[.nilFunc] 59)).cell? ⟨w5.heap.size + 1, 0, none⟩ = some .nilFunc := by rw [← hw6, ← s6]; simp
  have z3 : ((w5.alloc (.cells #[.slice (some ⟨G, 0, none⟩) m m] 63)).alloc (.cells #[.nilFunc] 59)).frozen? ⟨w5.heap.size + 1, 0, none⟩ = false := by rw [← hw6, ← s6]; simp
  have HW7 : Hid ((w5.alloc (.cells #[.slice (some ⟨G, 0, none⟩) m m] 63)).alloc (.cells #[.func (.func 31) #[] #[.pointer (some ⟨w5.heap.size, 0, none⟩)]] 59) = w7) := by unfold Hid; rw [hw7, hw6]
  clear hR hw6 hw7 s6
  go_wp2_with fail
  rw [HW7.out]
  clear z0 z1 z2 z3
  go_at_call 27
  refine (HA2.out w7 w5.heap.size (w5.heap.size + 1) G HB7.out.1 (by have := HB7.out.2; omega) (by have := HB7.out.2; omega) HC7.out.1 HC7.out.2.1 HC7.out.2.2).mono ?_
  rintro e w8 ⟨rfl, hb⟩
  have HB8 : Hid (Below w1.heap.size w1 w8) := HB7.out.1.trans (hb.mono HB7.out.1.size)
  clear hb HA2
  go_wp2
  go_ret2
  exact ⟨rfl, HB1.out.trans (HB8.out.mono HB1.out.size)⟩

set_option maxHeartbeats 4000000 in
theorem cholds_bad (va vc vl : Value) (ats : List At) (c : List Int) (u a b d : Int) (w : World) (hA : ReadsA w va ats) (hC : Reads w vc c) (hK : KindsLaid w) (hf : ¬ formFault ats c = 0) :
    Calls Tryz.prog 12 #[.agg #[va, vc], vl, .agg #[.int .i64 u, .int .i64 a, .int .i64 b, .int .i64 d]] w fun e w' => e = .returned (.tuple #[.bool false, .iface 53 (.int .i64 (formFault ats c))]) ∧ Below w.heap.size w w' := by
  obtain ⟨ao, acap, rfl, _⟩ := hA.slice
  obtain ⟨co, ccap, rfl, _⟩ := hC.slice
  obtain ⟨w1, hw1⟩ : ∃ w1, w1 = (w.alloc (.cells #[.slice ao ats.length acap, .slice co c.length ccap] 25)).alloc (.cells #[.int .i64 u, .int .i64 a, .int .i64 b, .int .i64 d] 29) := ⟨_, rfl⟩
  have HB1 : Hid (Below w.heap.size w w1) := by unfold Hid; rw [hw1]; exact (below_alloc1 _ _).trans ((below_alloc1 _ _).mono (by simp))
  have HC : Hid (Calls Tryz.prog 17 #[.agg #[.slice ao ats.length acap, .slice co c.length ccap]] w1 fun e w' => e = .returned (.iface 53 (.int .i64 (formFault ats c))) ∧ Below w1.heap.size w1 w') := by
    have := fcheck_any _ _ ats c w1 (hA.below HB1.out) (hC.below HB1.out) (hK.below HB1.out)
    rw [errV_no hf] at this
    exact this
  clear hA hC hK
  obtain ⟨F, hF⟩ : ∃ F, F = formFault ats c := ⟨_, rfl⟩
  rw [← hF] at HC ⊢
  clear hF hf
  obtain ⟨m, hm⟩ : ∃ m, m = ats.length := ⟨_, rfl⟩
  obtain ⟨n, hn⟩ : ∃ n, n = c.length := ⟨_, rfl⟩
  rw [← hm, ← hn] at HC hw1 ⊢
  clear hm hn
  have x0 : ((w.alloc (.cells #[.slice ao m acap, .slice co n ccap] 25)).alloc (.cells #[.int .i64 u, .int .i64 a, .int .i64 b, .int .i64 d] 29)).cell? ⟨w.heap.size, 0, none⟩ = some (.slice ao m acap) := by
    rw [World.cell?_alloc_lt _ _ ⟨w.heap.size, 0, none⟩ (by simp)]; simp
  have x1 : ((w.alloc (.cells #[.slice ao m acap, .slice co n ccap] 25)).alloc (.cells #[.int .i64 u, .int .i64 a, .int .i64 b, .int .i64 d] 29)).cell? ⟨w.heap.size, 1, none⟩ = some (.slice co n ccap) := by
    rw [World.cell?_alloc_lt _ _ ⟨w.heap.size, 1, none⟩ (by simp)]; simp
  go_enter Tryz.func12, Tryz.ntmps12
  go_wp2_with fail
  rw [← hw1]
  clear hw1 x0 x1
  go_at_call 17
  refine HC.out.mono ?_
  rintro e w2 ⟨rfl, hb⟩
  have HB2 : Hid (Below w.heap.size w w2) := HB1.out.trans (hb.mono HB1.out.size)
  clear hb
  go_wp2
  go_ret2
  exact ⟨rfl, HB2.out⟩
end Go.Proofs.YtenmheenieifpacGreatDoor
