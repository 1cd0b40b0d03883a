/-
  Proved: vennlaw4.LogClash returns true, of any atom and any number of things, where package log answers as chapter 19 says; what was in memory is as it was (the walk that the statement leans on).
-/
import Derived.Test.YtjmeakkmfeoigaaGreatDoorLibA5
import Derived.Test.YtjmeakkmfeoigaaGreatDoorLibA6
import Derived.Deep.CutRange
namespace Go.Proofs.YtjmeakkmfeoigaaGreatDoor
open Go.ChangeShapes Go.WideShapes Go.ChangeAt Go.RowKit
set_option maxRecDepth 100000

set_option maxHeartbeats 8000000 in
theorem logClash_out (k n : Int) (so : Option Addr) (sl sc : Nat) (tto : Option Addr) (tl tc : Nat) (u : Int) (hu : ¬ (0 ≤ u ∧ u ≤ 6)) (w : World)
    (HNe : Hid (∀ W, Below w.heap.size w W → Calls Tryz.prog 7 #[.int .i64 u] W fun e w' => ∃ q, e = .returned (.tuple #[.pointer q, .iface 64 (.int .i64 1)]) ∧ Below W.heap.size W w')) :
    Calls Tryz.prog 4 #[.agg #[.int .i64 k, .slice so sl sc, .slice tto tl tc, .int .i64 n], .int .i64 u] w fun e w' => e = .returned (.bool true) ∧ Below w.heap.size w w' := by
  have HU : Hid (u < 0 ∨ (¬ u < 0 ∧ 6 < u)) := by unfold Hid; omega
  clear hu
  go_enter Tryz.func4, Tryz.ntmps4
  go_wp2_with fail
  go_at_call 7
  refine (HNe.out _ (below_alloc1 _ _)).mono ?_
  rintro e w2 ⟨q, rfl, hb⟩
  have HB2 : Hid (Below w.heap.size w w2) := (below_alloc1 _ _).trans (hb.mono (by simp))
  clear hb
  rcases HU.out with hu | ⟨hu, hu'⟩
  · go_wp2
    go_ret
    exact ⟨rfl, HB2.out⟩
  · go_wp2
    go_ret
    exact ⟨rfl, HB2.out⟩

set_option maxHeartbeats 16000000 in
theorem logClash_in (a : At) (so : Option Addr) (sc : Nat) (tto : Option Addr) (tc : Nat) (u : Int) (w : World) (Rep : Addr → Lg → (Nat → Prop) → World → Prop) (hok : LogOk w Rep) (hu : 0 ≤ u ∧ u ≤ 6)
    (hS : Reads w (.slice so a.s.length sc) a.s) (hT : Reads w (.slice tto a.t.length tc) a.t)
    (HEr : Hid (∀ n W, Below w.heap.size w W → Calls Tryz.prog 10 #[errV n, .int .i64 n] W fun e w' => e = .returned (.bool true) ∧ Below W.heap.size W w')) :
    Calls Tryz.prog 4 #[.agg #[.int .i64 a.k, .slice so a.s.length sc, .slice tto a.t.length tc, .int .i64 a.n], .int .i64 u] w fun e w' => e = .returned (.bool true) ∧ Below w.heap.size w w' := by
  have HNew : Hid (∀ W, Below w.heap.size w W → Calls Tryz.prog 7 #[.int .i64 u] W fun e w' => ∃ p S, e = .returned (.tuple #[.pointer (some p), .nilIface]) ∧ Rep p (lg0 u) S w' ∧ (∀ b, S b → W.heap.size ≤ b) ∧ Below W.heap.size W w') := fun W hW => hok.new u W hW hu
  have HSay : Hid (∀ p l S W h, Below w.heap.size w W → Rep p l S W → Calls Tryz.prog 9 #[.pointer (some p), .agg #[.int .i64 a.k, .slice so a.s.length sc, .slice tto a.t.length tc, .int .i64 a.n], .bool h] W fun e w' => ∃ n S', 2 ≤ n ∧ e = .returned (errV (l.sayE a h)) ∧ Rep p (l.say a h n) S' w' ∧ LKeep S W w' ∧ Grows S S' W) := fun p l S W h hW hr => (hok.say p l S W a h _ _ hW hr (hS.below hW) (hT.below hW)).mono fun _ _ ⟨n, S', h0, h1, h2, h3, h4⟩ => ⟨n, S', h0.1, h1, h2, h3, h4⟩
  have Hok : Hid (LogOk w Rep) := hok
  have Hu : Hid (0 ≤ u ∧ u ≤ 6) := hu
  obtain ⟨sl, hsl⟩ : ∃ x, x = a.s.length := ⟨_, rfl⟩
  obtain ⟨tl, htl⟩ : ∃ x, x = a.t.length := ⟨_, rfl⟩
  obtain ⟨ak, hak⟩ : ∃ x, x = a.k := ⟨_, rfl⟩
  obtain ⟨an, han⟩ : ∃ x, x = a.n := ⟨_, rfl⟩
  rw [← hsl, ← htl, ← hak, ← han] at HSay ⊢
  clear hok hu hS hT hsl htl hak han
  obtain ⟨w1, hw1⟩ : ∃ w1, w1 = w.alloc (.cells #[.int .i64 ak, .slice so sl sc, .slice tto tl tc, .int .i64 an] 29) := ⟨_, rfl⟩
  have HB1 : Hid (Below w.heap.size w w1) := by unfold Hid; rw [hw1]; exact below_alloc1 _ _
  have HA1 : Hid (Blk w1 w.heap.size 29 #[.int .i64 ak, .slice so sl sc, .slice tto tl tc, .int .i64 an]) := by unfold Hid; rw [hw1]; exact Blk.new _ _ _
  go_enter Tryz.func4, Tryz.ntmps4
  go_upto_region 1 with fail
  rw [← hw1]
  clear hw1
  go_wp2_with fail
  go_at_call 7
  refine (HNew.out _ HB1.out).mono ?_
  rintro e w2 ⟨p, S2, rfl, hr, hge, hb⟩
  have HB2 : Hid (Below w.heap.size w w2) := HB1.out.trans (hb.mono HB1.out.size)
  have HA2 : Hid (Blk w2 w.heap.size 29 #[.int .i64 ak, .slice so sl sc, .slice tto tl tc, .int .i64 an]) := HA1.out.below hb
  have HR2 : Hid (Rep p (lg0 u) S2 w2) := hr
  have HG2 : Hid (∀ b, S2 b → w.heap.size + 1 ≤ b) := fun b hs => Nat.le_trans HA1.out.lt (hge b hs)
  clear hb hr hge
  have a0 : w2.cell? ⟨w.heap.size, 0, none⟩ = some (.int .i64 ak) := HA2.out.cell 0
  have a1 : w2.cell? ⟨w.heap.size, 1, none⟩ = some (.slice so sl sc) := HA2.out.cell 1
  have a2 : w2.cell? ⟨w.heap.size, 2, none⟩ = some (.slice tto tl tc) := HA2.out.cell 2
  have a3 : w2.cell? ⟨w.heap.size, 3, none⟩ = some (.int .i64 an) := HA2.out.cell 3
  go_wp2_with fail
  go_at_call 9
  refine (HSay.out _ _ _ _ _ HB2.out HR2.out).mono ?_
  rintro e w3 ⟨n1, S3, hn1, rfl, hr, hk, hgr⟩
  have hlt2 : w.heap.size + 1 ≤ w2.heap.size := HA2.out.lt
  have HB3 : Hid (Below w.heap.size w w3) := HB2.out.trans (hk.below (fun b hs => by have := HG2.out b hs; omega) (by omega))
  have HA3 : Hid (Blk w3 w.heap.size 29 #[.int .i64 ak, .slice so sl sc, .slice tto tl tc, .int .i64 an]) := hk.blk HA2.out fun hs => by have := HG2.out _ hs; omega
  have HG3 : Hid (∀ b, S3 b → w.heap.size + 1 ≤ b) := hgr.ge HG2.out hlt2
  have HR3 : Hid (Rep p ((lg0 u).say a true n1) S3 w3) := hr
  have Hn1 : Hid (2 ≤ n1) := hn1
  clear hn1 hr hk hgr hlt2 a0 a1 a2 a3
  by_cases h0 : (lg0 u).sayE a true = 0
  · obtain ⟨hfa, hsay⟩ := first_said h0
    obtain ⟨l1, hl1⟩ : ∃ l, l = (lg0 u).say a true n1 := ⟨_, rfl⟩
    have el1 : l1 = ⟨u, [aloneF a true], [0 + n1], 0 + n1, 0, -1, false⟩ := by rw [hl1]; exact hsay n1
    obtain ⟨⟨s1, s2⟩, s3, s4⟩ := second_said Hu.out hfa.1 hfa.2 n1 el1
    have HE2 : Hid (l1.sayE a false = 7) := s1
    have HL2 : Hid (∀ n, l1.say a false n = l1) := s2
    have HE3 : Hid (l1.sayE a true = 0) := s3
    have HL3 : Hid (∀ n, (l1.say a true n).fs = [aloneF a true, aloneF a true] ∧ (l1.say a true n).openB = true) := s4
    have HBy : Hid (l1.bytes = n1) := by unfold Hid; rw [el1]; show 0 + n1 = n1; omega
    have e0 : errV ((lg0 u).sayE a true) = .nilIface := by rw [h0]; rfl
    rw [e0]
    rw [← hl1] at HR3
    clear h0 hfa hsay hl1 el1 s1 s2 s3 s4 e0
    have HBt : Hid (∀ S W, Below w.heap.size w W → Rep p l1 S W → Calls Tryz.prog 16 #[.pointer (some p)] W fun e w' => e = .returned (.int .i64 n1) ∧ Rep p l1 S w' ∧ Below W.heap.size W w') := fun S W hW hr => by
      have h := Hok.out.bytes p l1 S W hW hr
      rw [HBy.out] at h
      exact h
    go_wp2_with fail
    go_at_call 16
    refine (HBt.out _ _ HB3.out HR3.out).mono ?_
    rintro e w4 ⟨rfl, hr, hb⟩
    have HB4 : Hid (Below w.heap.size w w4) := HB3.out.trans (hb.mono HB3.out.size)
    have HA4 : Hid (Blk w4 w.heap.size 29 #[.int .i64 ak, .slice so sl sc, .slice tto tl tc, .int .i64 an]) := HA3.out.below hb
    have HR4 : Hid (Rep p l1 S3 w4) := hr
    clear hr hb
    have a0 : w4.cell? ⟨w.heap.size, 0, none⟩ = some (.int .i64 ak) := HA4.out.cell 0
    have a1 : w4.cell? ⟨w.heap.size, 1, none⟩ = some (.slice so sl sc) := HA4.out.cell 1
    have a2 : w4.cell? ⟨w.heap.size, 2, none⟩ = some (.slice tto tl tc) := HA4.out.cell 2
    have a3 : w4.cell? ⟨w.heap.size, 3, none⟩ = some (.int .i64 an) := HA4.out.cell 3
    go_wp2_with fail
    go_at_call 9
    refine (HSay.out _ _ _ _ _ HB4.out HR4.out).mono ?_
    rintro e w5 ⟨n2, S5, hn2, rfl, hr, hk, hgr⟩
    have hlt4 : w.heap.size + 1 ≤ w4.heap.size := HA4.out.lt
    have HB5 : Hid (Below w.heap.size w w5) := HB4.out.trans (hk.below (fun b hs => by have := HG3.out b hs; omega) (by omega))
    have HA5 : Hid (Blk w5 w.heap.size 29 #[.int .i64 ak, .slice so sl sc, .slice tto tl tc, .int .i64 an]) := hk.blk HA4.out fun hs => by have := HG3.out _ hs; omega
    have HG5 : Hid (∀ b, S5 b → w.heap.size + 1 ≤ b) := hgr.ge HG3.out hlt4
    rw [HL2.out] at hr
    rw [HE2.out]
    have HR5 : Hid (Rep p l1 S5 w5) := hr
    clear hn2 hr hk hgr hlt4 a0 a1 a2 a3
    have a0 : w5.cell? ⟨w.heap.size, 0, none⟩ = some (.int .i64 ak) := HA5.out.cell 0
    have a1 : w5.cell? ⟨w.heap.size, 1, none⟩ = some (.slice so sl sc) := HA5.out.cell 1
    have a2 : w5.cell? ⟨w.heap.size, 2, none⟩ = some (.slice tto tl tc) := HA5.out.cell 2
    have a3 : w5.cell? ⟨w.heap.size, 3, none⟩ = some (.int .i64 an) := HA5.out.cell 3
    have e7 : errV 7 = .iface 64 (.int .i64 7) := rfl
    rw [e7]
    go_wp2_with fail
    go_at_call 9
    refine (HSay.out _ _ _ _ _ HB5.out HR5.out).mono ?_
    rintro e w6 ⟨n3, S6, hn3, rfl, hr, hk, hgr⟩
    have hlt5 : w.heap.size + 1 ≤ w5.heap.size := HA5.out.lt
    have HB6 : Hid (Below w.heap.size w w6) := HB5.out.trans (hk.below (fun b hs => by have := HG5.out b hs; omega) (by omega))
    obtain ⟨q1, q2⟩ := HL3.out n3
    obtain ⟨l6, hl6⟩ : ∃ l, l = l1.say a true n3 := ⟨_, rfl⟩
    rw [← hl6] at hr q1 q2
    rw [HE3.out]
    have e0 : errV 0 = .nilIface := rfl
    rw [e0]
    have HR6 : Hid (Rep p l6 S6 w6) := hr
    have HOp : Hid (∀ S W, Below w.heap.size w W → Rep p l6 S W → Calls Tryz.prog 17 #[.pointer (some p)] W fun e w' => e = .returned (.bool true) ∧ Rep p l6 S w' ∧ Below W.heap.size W w') := fun S W hW hr => by
      have h := Hok.out.openS p l6 S W hW hr
      rw [q2] at h
      exact h
    have HAl : Hid (∀ S W, Below w.heap.size w W → Rep p l6 S W → Calls Tryz.prog 13 #[.pointer (some p)] W fun e w' => (∃ vo vc, e = .returned (.slice vo 2 vc)) ∧ Below W.heap.size W w') := fun S W hW hr => by
      refine (Hok.out.all p l6 S W hW hr).mono ?_
      rintro e w' ⟨v, rfl, hv, _, hb⟩
      obtain ⟨vo, vc, rfl, _⟩ := hv.slice
      rw [q1]
      exact ⟨⟨vo, vc, rfl⟩, hb⟩
    have HEr7 : Hid (∀ W, Below w.heap.size w W → Calls Tryz.prog 10 #[.iface 64 (.int .i64 7), .int .i64 7] W fun e w' => e = .returned (.bool true) ∧ Below W.heap.size W w') := fun W hW => HEr.out 7 W hW
    have h2 : (2 : Int) ≤ n1 := Hn1.out
    clear hn3 hr hk hgr hlt5 a0 a1 a2 a3 hl6 q1 q2 e0 e7
    go_wp2_with fail
    go_at_call 10
    refine (HEr7.out _ HB6.out).mono ?_
    rintro e w7 ⟨rfl, hb⟩
    have HB7 : Hid (Below w.heap.size w w7) := HB6.out.trans (hb.mono HB6.out.size)
    have HR7 : Hid (Rep p l6 S6 w7) := Hok.out.step HR6.out hb
    clear hb
    go_wp2_with fail
    go_at_call 17
    refine (HOp.out _ _ HB7.out HR7.out).mono ?_
    rintro e w8 ⟨rfl, hr, hb⟩
    have HB8 : Hid (Below w.heap.size w w8) := HB7.out.trans (hb.mono HB7.out.size)
    have HR8 : Hid (Rep p l6 S6 w8) := hr
    clear hr hb
    go_wp2_with fail
    go_at_call 13
    refine (HAl.out _ _ HB8.out HR8.out).mono ?_
    rintro e w9 ⟨⟨vo, vc, rfl⟩, hb⟩
    have HB9 : Hid (Below w.heap.size w w9) := HB8.out.trans (hb.mono HB8.out.size)
    clear hb
    go_wp2
    go_ret
    exact ⟨rfl, HB9.out⟩
  · have el : (lg0 u).say a true n1 = lg0 u := first_no h0 n1
    rw [el] at HR3
    have e0 : errV ((lg0 u).sayE a true) = .iface 64 (.int .i64 ((lg0 u).sayE a true)) := by unfold errV; rw [if_neg h0]
    rw [e0]
    obtain ⟨F, hF⟩ : ∃ F, F = (lg0 u).sayE a true := ⟨_, rfl⟩
    rw [← hF]
    clear h0 el e0 hF
    have HBt : Hid (∀ S W, Below w.heap.size w W → Rep p (lg0 u) S W → Calls Tryz.prog 16 #[.pointer (some p)] W fun e w' => e = .returned (.int .i64 0) ∧ Rep p (lg0 u) S w' ∧ Below W.heap.size W w') := fun S W hW hr => Hok.out.bytes p (lg0 u) S W hW hr
    have HOp : Hid (∀ S W, Below w.heap.size w W → Rep p (lg0 u) S W → Calls Tryz.prog 17 #[.pointer (some p)] W fun e w' => e = .returned (.bool true) ∧ Rep p (lg0 u) S w' ∧ Below W.heap.size W w') := fun S W hW hr => by
      have h := Hok.out.openS p (lg0 u) S W hW hr
      rw [lg0_open] at h
      exact h
    have HAl : Hid (∀ S W, Below w.heap.size w W → Rep p (lg0 u) S W → Calls Tryz.prog 13 #[.pointer (some p)] W fun e w' => (∃ vo vc, e = .returned (.slice vo 0 vc)) ∧ Rep p (lg0 u) S w' ∧ Below W.heap.size W w') := fun S W hW hr => by
      refine (Hok.out.all p (lg0 u) S W hW hr).mono ?_
      rintro e w' ⟨v, rfl, hv, hr', hb⟩
      obtain ⟨vo, vc, rfl, _⟩ := hv.slice
      exact ⟨⟨vo, vc, rfl⟩, hr', hb⟩
    go_wp2_with fail
    go_at_call 16
    refine (HBt.out _ _ HB3.out HR3.out).mono ?_
    rintro e w4 ⟨rfl, hr, hb⟩
    have HB4 : Hid (Below w.heap.size w w4) := HB3.out.trans (hb.mono HB3.out.size)
    have HR4 : Hid (Rep p (lg0 u) S3 w4) := hr
    clear hr hb
    go_wp2_with fail
    go_at_call 13
    refine (HAl.out _ _ HB4.out HR4.out).mono ?_
    rintro e w5 ⟨⟨vo, vc, rfl⟩, hr, hb⟩
    have HB5 : Hid (Below w.heap.size w w5) := HB4.out.trans (hb.mono HB4.out.size)
    have HR5 : Hid (Rep p (lg0 u) S3 w5) := hr
    clear hr hb
    go_wp2_with fail
    go_at_call 17
    refine (HOp.out _ _ HB5.out HR5.out).mono ?_
    rintro e w6 ⟨rfl, _, hb⟩
    have HB6 : Hid (Below w.heap.size w w6) := HB5.out.trans (hb.mono HB5.out.size)
    clear hb
    go_wp2
    go_ret
    exact ⟨rfl, HB6.out⟩

theorem logClash_of (a : At) (vs vt : Value) (u : Int) (w : World) (hS : Reads w vs a.s) (hT : Reads w vt a.t) (hg : Laid w) (Rep : Addr → Lg → (Nat → Prop) → World → Prop) (hok : LogOk w Rep) :
    Calls Tryz.prog 4 #[.agg #[.int .i64 a.k, vs, vt, .int .i64 a.n], .int .i64 u] w fun e w' => e = .returned (.bool true) ∧ Below w.heap.size w w' := by
  have hS' := hS
  have hT' := hT
  obtain ⟨so, sc, rfl, _⟩ := hS'.slice
  obtain ⟨tto, tc, rfl, _⟩ := hT'.slice
  by_cases hu : 0 ≤ u ∧ u ≤ 6
  · exact logClash_in a so sc tto tc u w Rep hok hu hS hT fun n W hW => merr_any n W (hg.below hW)
  · exact logClash_out a.k a.n so _ sc tto _ tc u hu w fun W hW => hok.newE u W hW hu
end Go.Proofs.YtjmeakkmfeoigaaGreatDoor
