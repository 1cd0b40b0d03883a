/-
  Proved: whatever the world and the rows, vennlaw1.AtomBack returns true of a text that is an atom and an atom that is right; what was in memory is as it was.
-/
import Derived.Test.YtenmheenieifpabGreatDoorAtomBackHead
import Derived.Deep.CutRange
namespace Go.Proofs.YtenmheenieifpabGreatDoor
open Go.ChangeShapes Go.WideShapes Go.ChangeAt Go.RowKit
set_option maxRecDepth 100000

set_option maxHeartbeats 8000000 in
theorem atomBack_GGe (k n : Int) (sao tao pao qao : Option Addr) (ls lt lp lq scap tcap pcap qcap : Nat) (s t p q : List Int) (st : ByteArray) (u a b c : Int) (w : World) (hS : Reads w (.slice sao ls scap) s) (hT : Reads w (.slice tao lt tcap) t) (hz : st.size ≤ 9223372036854775806) (hP : Reads w (.slice pao lp pcap) p) (hQ : Reads w (.slice qao lq qcap) q) (hK : KindsLaid w) (hL : LibLaid w) (hs : wordsFault (seen st) = 0) (ha : atomFault k s t n = 0) (ht : ¬ (Wd.mk u a b c).holdsFault 2 p q 0 = 0) :
    Calls Tryz.prog 4 #[.agg #[.int .i64 k, .slice sao ls scap, .slice tao lt tcap, .int .i64 n], .string st, .agg #[.int .i64 u, .int .i64 a, .int .i64 b, .int .i64 c], .slice pao lp pcap, .slice qao lq qcap] w fun e w' => e = .returned (.bool true) ∧ Below w.heap.size w w' := by
  obtain ⟨w1, hw1⟩ : ∃ w1, w1 = (w.alloc (.cells #[.int .i64 k, .slice sao ls scap, .slice tao lt tcap, .int .i64 n] 24)).alloc (.cells #[.int .i64 u, .int .i64 a, .int .i64 b, .int .i64 c] 27) := ⟨_, rfl⟩
  have HB : Hid (Car w1.heap.size w1 w1) := ⟨Below.refl _ _, Nat.le_refl _⟩
  have HW : Hid (Below w.heap.size w w1 ∧ w.heap.size + 2 = w1.heap.size) := by
    refine ⟨?_, ?_⟩
    · rw [hw1]; exact (below_alloc1 _ _).trans ((below_alloc1 _ _).mono (by simp))
    · rw [hw1]; simp
  have HY : Hid (∀ W, Car w1.heap.size w1 W → (W.cell? ⟨w.heap.size, 0, none⟩ = some (.int .i64 k) ∧ W.cell? ⟨w.heap.size, 1, none⟩ = some (.slice sao ls scap) ∧ W.cell? ⟨w.heap.size, 2, none⟩ = some (.slice tao lt tcap) ∧ W.cell? ⟨w.heap.size, 3, none⟩ = some (.int .i64 n)) ∧ (W.cell? ⟨w.heap.size + 1, 0, none⟩ = some (.int .i64 u) ∧ W.cell? ⟨w.heap.size + 1, 1, none⟩ = some (.int .i64 a) ∧ W.cell? ⟨w.heap.size + 1, 2, none⟩ = some (.int .i64 b) ∧ W.cell? ⟨w.heap.size + 1, 3, none⟩ = some (.int .i64 c))) := fun W hc => by
    have l0 : w.heap.size < w1.heap.size := by have := HW.out.2; omega
    have l1 : w.heap.size + 1 < w1.heap.size := by have := HW.out.2; omega
    have e0 : ∀ j, W.cell? ⟨w.heap.size, j, none⟩ = w1.cell? ⟨w.heap.size, j, none⟩ := fun j => hc.1.cell (show (⟨w.heap.size, j, none⟩ : Addr).block < _ from l0)
    have e1 : ∀ j, W.cell? ⟨w.heap.size + 1, j, none⟩ = w1.cell? ⟨w.heap.size + 1, j, none⟩ := fun j => hc.1.cell (show (⟨w.heap.size + 1, j, none⟩ : Addr).block < _ from l1)
    simp only [e0, e1]
    rw [hw1]
    have q : w.heap.size + 1 = (w.alloc (.cells #[.int .i64 k, .slice sao ls scap, .slice tao lt tcap, .int .i64 n] 24)).heap.size := by simp
    have r : ∀ o j, ((w.alloc (.cells #[.int .i64 k, .slice sao ls scap, .slice tao lt tcap, .int .i64 n] 24)).alloc o).cell? ⟨w.heap.size, j, none⟩ = (w.alloc (.cells #[.int .i64 k, .slice sao ls scap, .slice tao lt tcap, .int .i64 n] 24)).cell? ⟨w.heap.size, j, none⟩ := fun o j => World.cell?_alloc_lt _ _ ⟨w.heap.size, j, none⟩ (by simp)
    simp only [r]
    rw [q]
    simp
  have HKd : Hid (∀ W, Car w1.heap.size w1 W → KindsLaid W ∧ LibLaid W) := fun W hc => ⟨(hK.below HW.out.1).below hc.1, (hL.below HW.out.1).below hc.1⟩
  have HRp : Hid (∀ W, Car w1.heap.size w1 W → Reads W (.slice pao lp pcap) p ∧ Reads W (.slice qao lq qcap) q) := fun W hc => ⟨(hP.below HW.out.1).below hc.1, (hQ.below HW.out.1).below hc.1⟩
  have HRa : Hid (∀ W, Car w1.heap.size w1 W → Reads W (.slice sao ls scap) s ∧ Reads W (.slice tao lt tcap) t) := fun W hc => ⟨(hS.below HW.out.1).below hc.1, (hT.below HW.out.1).below hc.1⟩
  have HF : Hid (∀ W, Car w1.heap.size w1 W → _) := fun W hc => aparse_fact W (HKd.out W hc).1 (HKd.out W hc).2
  obtain ⟨kx, hkx⟩ : ∃ kx, wordsKind (seen st) = kx := ⟨_, rfl⟩
  obtain ⟨nx, hnx⟩ : ∃ nx, wordsN kx (seen st) = nx := ⟨_, rfl⟩
  obtain ⟨px, hpx⟩ : ∃ px, wordsS (seen st) = px := ⟨_, rfl⟩
  obtain ⟨qx, hqx⟩ : ∃ qx, wordsT kx (seen st) = qx := ⟨_, rfl⟩
  have HPs : Hid (∀ W, Car w1.heap.size w1 W → _) := fun W hc => aparse_good st hz hs hkx hpx hqx hnx W (HKd.out W hc).1 (HKd.out W hc).2
  have HPx : Hid (∀ vs vt W, Car w1.heap.size w1 W → Reads W vs px → Reads W vt qx → _) := fun vs vt W hc h1 h2 => aprint_text kx nx vs vt px qx st (by have := (words_ok hs).2.2; rw [hkx, hpx, hqx, hnx] at this; exact this) (by have := seen_text hs; rw [hkx, hpx, hqx, hnx] at this; exact this) W h1 h2 (HKd.out W hc).1 (HKd.out W hc).2
  obtain ⟨lpx, hlpx⟩ : ∃ lpx, px.length = lpx := ⟨_, rfl⟩
  obtain ⟨lqx, hlqx⟩ : ∃ lqx, qx.length = lqx := ⟨_, rfl⟩
  rw [hlpx, hlqx] at HPs
  clear hkx hnx hpx hqx hlpx hlqx
  obtain ⟨P, hPe⟩ : ∃ P, strOf (atomText k s t n) = P := ⟨_, rfl⟩
  have HPa : Hid (∀ W, Car w1.heap.size w1 W → _) := fun W hc => aprint_text k n (.slice sao ls scap) (.slice tao lt tcap) s t P ha hPe W (HRa.out W hc).1 (HRa.out W hc).2 (HKd.out W hc).1 (HKd.out W hc).2
  have HPy : Hid (∀ W, Car w1.heap.size w1 W → _) := fun W hc => by
    obtain ⟨e1, e2, e3, e4, e5⟩ := words_back ha
    have hw := seen_words ha
    rw [hPe] at hw
    rw [← hw] at e1 e2 e3 e4 e5
    exact aparse_good P (by rw [← hPe, strOf_size]; have := atomText_size ha; omega) e1 e2 e3 e4 e5 W (HKd.out W hc).1 (HKd.out W hc).2
  have HSm : Hid (∀ vs vt W, Car w1.heap.size w1 W → Reads W vs s → Reads W vt t → _) := fun vs vt W hc h1 h2 => atom_same k n vs vt (.slice sao ls scap) (.slice tao lt tcap) s t W h1 h2 (HRa.out W hc).1 (HRa.out W hc).2
  obtain ⟨lsx, hlsx⟩ : ∃ lsx, s.length = lsx := ⟨_, rfl⟩
  obtain ⟨ltx, hltx⟩ : ∃ ltx, t.length = ltx := ⟨_, rfl⟩
  rw [hlsx, hltx] at HPy
  clear hlsx hltx hPe
  have HSame : Hid (∀ W, Car w1.heap.size w1 W → _) := fun W hc => holds_none 2 0 (.slice pao lp pcap) (.slice qao lq qcap) p q u a b c ht W (HRp.out W hc).1 (HRp.out W hc).2 (HKd.out W hc).1
  obtain ⟨Fh, hFh⟩ : ∃ Fh, Fh = (Wd.mk u a b c).holdsFault 2 p q 0 := ⟨_, rfl⟩
  rw [← hFh] at HSame
  clear hFh
  clear hS hT hP hQ hK hL hs ha ht hz
  obtain ⟨⟨a0x, a1x, a2x, a3x⟩, ⟨w0x, w1x, w2x, w3x⟩⟩ := HY.out w1 HB.out
  go_enter Tryz.func4, Tryz.ntmps4
  go_wp2_with fail
  rw [← hw1]
  clear hw1
  go_at_call 14
  refine (HF.out _ HB.out).mono ?_
  rintro e w2 ⟨f0, f1, f2, fb, fo, fc, rfl, hfb, hfc, hb⟩
  have HB : Hid (Car w1.heap.size w1 w2) := HB.out.step hb
  clear hb a0x a1x a2x a3x w0x w1x w2x w3x
  obtain ⟨w3, hw3⟩ : ∃ w3, w3 = w2.alloc (.cells #[.int .i64 5, .slice f0 f1 f2, .slice (some ⟨fb, fo, none⟩) 1 fc, .int .i64 (-3)] 24) := ⟨_, rfl⟩
  have HB : Hid (Car w1.heap.size w1 w3) := by unfold Hid; rw [hw3]; exact HB.out.step (below_alloc1 _ _)
  have hfc' : (w2.alloc (.cells #[.int .i64 5, .slice f0 f1 f2, .slice (some ⟨fb, fo, none⟩) 1 fc, .int .i64 (-3)] 24)).cell? ⟨fb, fo, none⟩ = some (.int .i64 1) := by
    rw [World.cell?_alloc_lt _ _ ⟨fb, fo, none⟩ hfb]; exact hfc
  clear hfc hfb
  go_wp2_with fail
  rw [← hw3]
  clear hfc' hw3
  go_at_call 14
  refine (HPs.out _ HB.out).mono ?_
  rintro e w4 ⟨g0, g1, g2, g3, rfl, r0, r1, hb⟩
  have HB : Hid (Car w1.heap.size w1 w4) := HB.out.step hb
  clear hb
  obtain ⟨w5, hw5⟩ : ∃ w5, w5 = w4.alloc (.cells #[.int .i64 kx, .slice g0 lpx g1, .slice g2 lqx g3, .int .i64 nx] 24) := ⟨_, rfl⟩
  have HB : Hid (Car w1.heap.size w1 w5) := by unfold Hid; rw [hw5]; exact HB.out.step (below_alloc1 _ _)
  have HR0 : Hid (Reads w5 (.slice g0 lpx g1) px ∧ Reads w5 (.slice g2 lqx g3) qx) := by unfold Hid; rw [hw5]; exact ⟨r0.below (below_alloc1 _ _), r1.below (below_alloc1 _ _)⟩
  clear r0 r1
  go_wp2_with fail
  rw [← hw5]
  clear hw5
  go_at_call 9
  refine (HPx.out _ _ _ HB.out HR0.out.1 HR0.out.2).mono ?_
  rintro e w6 ⟨rfl, hb⟩
  have HB : Hid (Car w1.heap.size w1 w6) := HB.out.step hb
  clear hb HR0
  obtain ⟨⟨a0x, a1x, a2x, a3x⟩, ⟨w0x, w1x, w2x, w3x⟩⟩ := HY.out w6 HB.out
  go_wp2_with fail
  go_at_call 9
  refine (HPa.out _ HB.out).mono ?_
  rintro e w7 ⟨rfl, hb⟩
  have HB : Hid (Car w1.heap.size w1 w7) := HB.out.step hb
  clear hb a0x a1x a2x a3x w0x w1x w2x w3x
  obtain ⟨⟨a0x, a1x, a2x, a3x⟩, ⟨w0x, w1x, w2x, w3x⟩⟩ := HY.out w7 HB.out
  go_wp2_with fail
  go_at_call 14
  refine (HPy.out _ HB.out).mono ?_
  rintro e w8 ⟨g0, g1, g2, g3, rfl, r0, r1, hb⟩
  have HB : Hid (Car w1.heap.size w1 w8) := HB.out.step hb
  clear hb a0x a1x a2x a3x w0x w1x w2x w3x
  obtain ⟨w9, hw9⟩ : ∃ w9, w9 = w8.alloc (.cells #[.int .i64 k, .slice g0 lsx g1, .slice g2 ltx g3, .int .i64 n] 24) := ⟨_, rfl⟩
  have HB : Hid (Car w1.heap.size w1 w9) := by unfold Hid; rw [hw9]; exact HB.out.step (below_alloc1 _ _)
  have HR0 : Hid (Reads w9 (.slice g0 lsx g1) s ∧ Reads w9 (.slice g2 ltx g3) t) := by unfold Hid; rw [hw9]; exact ⟨r0.below (below_alloc1 _ _), r1.below (below_alloc1 _ _)⟩
  clear r0 r1
  obtain ⟨⟨a0x, a1x, a2x, a3x⟩, ⟨w0x, w1x, w2x, w3x⟩⟩ := HY.out w9 HB.out
  rw [hw9] at a0x a1x a2x a3x w0x w1x w2x w3x
  go_wp2_with fail
  rw [← hw9]
  clear hw9
  go_at_call 15
  refine (HSm.out _ _ _ HB.out HR0.out.1 HR0.out.2).mono ?_
  rintro e w10 ⟨rfl, hb⟩
  have HB : Hid (Car w1.heap.size w1 w10) := HB.out.step hb
  clear hb HR0 a0x a1x a2x a3x w0x w1x w2x w3x
  obtain ⟨⟨a0x, a1x, a2x, a3x⟩, ⟨w0x, w1x, w2x, w3x⟩⟩ := HY.out w10 HB.out
  go_wp2_with fail
  go_at_call 12
  refine (HSame.out _ HB.out).mono ?_
  rintro e w11 ⟨rfl, hb⟩
  have HB : Hid (Car w1.heap.size w1 w11) := HB.out.step hb
  clear hb a0x a1x a2x a3x w0x w1x w2x w3x
  obtain ⟨⟨a0x, a1x, a2x, a3x⟩, ⟨w0x, w1x, w2x, w3x⟩⟩ := HY.out w11 HB.out
  go_wp2_with fail
  go_ret
  exact ⟨rfl, HW.out.1.trans (HB.out.1.mono (by have := HW.out.2; omega))⟩

set_option maxHeartbeats 8000000 in
theorem atomBack_GGh (k n : Int) (sao tao pao qao : Option Addr) (ls lt lp lq scap tcap pcap qcap : Nat) (s t p q : List Int) (st : ByteArray) (u a b c : Int) (w : World) (hS : Reads w (.slice sao ls scap) s) (hT : Reads w (.slice tao lt tcap) t) (hz : st.size ≤ 9223372036854775806) (hP : Reads w (.slice pao lp pcap) p) (hQ : Reads w (.slice qao lq qcap) q) (hK : KindsLaid w) (hL : LibLaid w) (hs : wordsFault (seen st) = 0) (ha : atomFault k s t n = 0) (ht : (Wd.mk u a b c).holdsFault 2 p q 0 = 0) :
    Calls Tryz.prog 4 #[.agg #[.int .i64 k, .slice sao ls scap, .slice tao lt tcap, .int .i64 n], .string st, .agg #[.int .i64 u, .int .i64 a, .int .i64 b, .int .i64 c], .slice pao lp pcap, .slice qao lq qcap] w fun e w' => e = .returned (.bool true) ∧ Below w.heap.size w w' := by
  obtain ⟨w1, hw1⟩ : ∃ w1, w1 = (w.alloc (.cells #[.int .i64 k, .slice sao ls scap, .slice tao lt tcap, .int .i64 n] 24)).alloc (.cells #[.int .i64 u, .int .i64 a, .int .i64 b, .int .i64 c] 27) := ⟨_, rfl⟩
  have HB : Hid (Car w1.heap.size w1 w1) := ⟨Below.refl _ _, Nat.le_refl _⟩
  have HW : Hid (Below w.heap.size w w1 ∧ w.heap.size + 2 = w1.heap.size) := by
    refine ⟨?_, ?_⟩
    · rw [hw1]; exact (below_alloc1 _ _).trans ((below_alloc1 _ _).mono (by simp))
    · rw [hw1]; simp
  have HY : Hid (∀ W, Car w1.heap.size w1 W → (W.cell? ⟨w.heap.size, 0, none⟩ = some (.int .i64 k) ∧ W.cell? ⟨w.heap.size, 1, none⟩ = some (.slice sao ls scap) ∧ W.cell? ⟨w.heap.size, 2, none⟩ = some (.slice tao lt tcap) ∧ W.cell? ⟨w.heap.size, 3, none⟩ = some (.int .i64 n)) ∧ (W.cell? ⟨w.heap.size + 1, 0, none⟩ = some (.int .i64 u) ∧ W.cell? ⟨w.heap.size + 1, 1, none⟩ = some (.int .i64 a) ∧ W.cell? ⟨w.heap.size + 1, 2, none⟩ = some (.int .i64 b) ∧ W.cell? ⟨w.heap.size + 1, 3, none⟩ = some (.int .i64 c))) := fun W hc => by
    have l0 : w.heap.size < w1.heap.size := by have := HW.out.2; omega
    have l1 : w.heap.size + 1 < w1.heap.size := by have := HW.out.2; omega
    have e0 : ∀ j, W.cell? ⟨w.heap.size, j, none⟩ = w1.cell? ⟨w.heap.size, j, none⟩ := fun j => hc.1.cell (show (⟨w.heap.size, j, none⟩ : Addr).block < _ from l0)
    have e1 : ∀ j, W.cell? ⟨w.heap.size + 1, j, none⟩ = w1.cell? ⟨w.heap.size + 1, j, none⟩ := fun j => hc.1.cell (show (⟨w.heap.size + 1, j, none⟩ : Addr).block < _ from l1)
    simp only [e0, e1]
    rw [hw1]
    have q : w.heap.size + 1 = (w.alloc (.cells #[.int .i64 k, .slice sao ls scap, .slice tao lt tcap, .int .i64 n] 24)).heap.size := by simp
    have r : ∀ o j, ((w.alloc (.cells #[.int .i64 k, .slice sao ls scap, .slice tao lt tcap, .int .i64 n] 24)).alloc o).cell? ⟨w.heap.size, j, none⟩ = (w.alloc (.cells #[.int .i64 k, .slice sao ls scap, .slice tao lt tcap, .int .i64 n] 24)).cell? ⟨w.heap.size, j, none⟩ := fun o j => World.cell?_alloc_lt _ _ ⟨w.heap.size, j, none⟩ (by simp)
    simp only [r]
    rw [q]
    simp
  have HKd : Hid (∀ W, Car w1.heap.size w1 W → KindsLaid W ∧ LibLaid W) := fun W hc => ⟨(hK.below HW.out.1).below hc.1, (hL.below HW.out.1).below hc.1⟩
  have HRp : Hid (∀ W, Car w1.heap.size w1 W → Reads W (.slice pao lp pcap) p ∧ Reads W (.slice qao lq qcap) q) := fun W hc => ⟨(hP.below HW.out.1).below hc.1, (hQ.below HW.out.1).below hc.1⟩
  have HRa : Hid (∀ W, Car w1.heap.size w1 W → Reads W (.slice sao ls scap) s ∧ Reads W (.slice tao lt tcap) t) := fun W hc => ⟨(hS.below HW.out.1).below hc.1, (hT.below HW.out.1).below hc.1⟩
  have HF : Hid (∀ W, Car w1.heap.size w1 W → _) := fun W hc => aparse_fact W (HKd.out W hc).1 (HKd.out W hc).2
  obtain ⟨kx, hkx⟩ : ∃ kx, wordsKind (seen st) = kx := ⟨_, rfl⟩
  obtain ⟨nx, hnx⟩ : ∃ nx, wordsN kx (seen st) = nx := ⟨_, rfl⟩
  obtain ⟨px, hpx⟩ : ∃ px, wordsS (seen st) = px := ⟨_, rfl⟩
  obtain ⟨qx, hqx⟩ : ∃ qx, wordsT kx (seen st) = qx := ⟨_, rfl⟩
  have HPs : Hid (∀ W, Car w1.heap.size w1 W → _) := fun W hc => aparse_good st hz hs hkx hpx hqx hnx W (HKd.out W hc).1 (HKd.out W hc).2
  have HPx : Hid (∀ vs vt W, Car w1.heap.size w1 W → Reads W vs px → Reads W vt qx → _) := fun vs vt W hc h1 h2 => aprint_text kx nx vs vt px qx st (by have := (words_ok hs).2.2; rw [hkx, hpx, hqx, hnx] at this; exact this) (by have := seen_text hs; rw [hkx, hpx, hqx, hnx] at this; exact this) W h1 h2 (HKd.out W hc).1 (HKd.out W hc).2
  obtain ⟨lpx, hlpx⟩ : ∃ lpx, px.length = lpx := ⟨_, rfl⟩
  obtain ⟨lqx, hlqx⟩ : ∃ lqx, qx.length = lqx := ⟨_, rfl⟩
  rw [hlpx, hlqx] at HPs
  clear hkx hnx hpx hqx hlpx hlqx
  obtain ⟨P, hPe⟩ : ∃ P, strOf (atomText k s t n) = P := ⟨_, rfl⟩
  have HPa : Hid (∀ W, Car w1.heap.size w1 W → _) := fun W hc => aprint_text k n (.slice sao ls scap) (.slice tao lt tcap) s t P ha hPe W (HRa.out W hc).1 (HRa.out W hc).2 (HKd.out W hc).1 (HKd.out W hc).2
  have HPy : Hid (∀ W, Car w1.heap.size w1 W → _) := fun W hc => by
    obtain ⟨e1, e2, e3, e4, e5⟩ := words_back ha
    have hw := seen_words ha
    rw [hPe] at hw
    rw [← hw] at e1 e2 e3 e4 e5
    exact aparse_good P (by rw [← hPe, strOf_size]; have := atomText_size ha; omega) e1 e2 e3 e4 e5 W (HKd.out W hc).1 (HKd.out W hc).2
  have HSm : Hid (∀ vs vt W, Car w1.heap.size w1 W → Reads W vs s → Reads W vt t → _) := fun vs vt W hc h1 h2 => atom_same k n vs vt (.slice sao ls scap) (.slice tao lt tcap) s t W h1 h2 (HRa.out W hc).1 (HRa.out W hc).2
  obtain ⟨lsx, hlsx⟩ : ∃ lsx, s.length = lsx := ⟨_, rfl⟩
  obtain ⟨ltx, hltx⟩ : ∃ ltx, t.length = ltx := ⟨_, rfl⟩
  rw [hlsx, hltx] at HPy
  clear hlsx hltx hPe
  obtain ⟨hok, fp, fq⟩ := same_zero ht
  have vp := ok_val hok p
  have vq := ok_val hok q
  obtain ⟨x, hx⟩ : ∃ x, (Wd.mk u a b c).val p = x := ⟨_, rfl⟩
  obtain ⟨y, hy⟩ : ∃ y, (Wd.mk u a b c).val q = y := ⟨_, rfl⟩
  rw [hx] at vp
  rw [hy] at vq
  have HSame : Hid (∀ W, Car w1.heap.size w1 W → _) := fun W hc => holds_good 2 0 (.slice pao lp pcap) (.slice qao lq qcap) p q u a b c (decide (x = y)) hok (two_fault (Or.inr rfl) fp fq) (by rw [← hx, ← hy]; rfl) W (HRp.out W hc).1 (HRp.out W hc).2 (HKd.out W hc).1
  have HTo : Hid (∀ W, Car w1.heap.size w1 W → _) := fun W hc => holds_good 1 0 (.slice pao lp pcap) (.slice qao lq qcap) p q u a b c (decide (lessN x y = 0)) hok (two_fault (Or.inl rfl) fp fq) (by rw [← hx, ← hy]; rfl) W (HRp.out W hc).1 (HRp.out W hc).2 (HKd.out W hc).1
  have HFro : Hid (∀ W, Car w1.heap.size w1 W → _) := fun W hc => holds_good 1 0 (.slice qao lq qcap) (.slice pao lp pcap) q p u a b c (decide (lessN y x = 0)) hok (two_fault (Or.inl rfl) fq fp) (by rw [← hx, ← hy]; rfl) W (HRp.out W hc).2 (HRp.out W hc).1 (HKd.out W hc).1
  have HVal : Hid (∀ W, Car w1.heap.size w1 W → Calls Tryz.prog 16 #[.slice pao lp pcap, .agg #[.int .i64 u, .int .i64 a, .int .i64 b, .int .i64 c]] W fun e w' => e = .returned (.tuple #[.int .i64 x, .nilIface]) ∧ Below W.heap.size W w') := fun W hc => by
    have := value_any p (.slice pao lp pcap) u a b c W (HRp.out W hc).1
    have e0 : (Wd.mk u a b c).fault p = 0 := by unfold Wd.fault; rw [if_pos fp, if_pos hok]
    have e1 : (Wd.mk u a b c).answer p = x := by unfold Wd.answer; rw [if_pos fp, if_pos hok, hx]
    rw [e0, e1, errV_0] at this
    exact this
  have HSize : Hid (∀ W, _) := fun W => size_ok u x vp W
  obtain ⟨z, hzz⟩ : ∃ z, pcN x = z := ⟨_, rfl⟩
  have HUp : Hid (∀ (m : Int) (o : Bool) W, Car w1.heap.size w1 W → -1 ≤ m → m ≤ 7 → decide (m ≤ z) = o → _) := fun m o W hc m0 m1 ho => holds_good 3 m (.slice pao lp pcap) (.slice none 0 0) p [] u a b c o hok (one_fault (Or.inl rfl) (by omega) (by omega) fp) (by rw [← ho, ← hzz, ← hx]; rfl) W (HRp.out W hc).1 (reads_nil W) (HKd.out W hc).1
  have HDn : Hid (∀ (m : Int) (o : Bool) W, Car w1.heap.size w1 W → -1 ≤ m → m ≤ 7 → decide (z ≤ m) = o → _) := fun m o W hc m0 m1 ho => holds_good 4 m (.slice pao lp pcap) (.slice none 0 0) p [] u a b c o hok (one_fault (Or.inr rfl) (by omega) (by omega) fp) (by rw [← ho, ← hzz, ← hx]; rfl) W (HRp.out W hc).1 (reads_nil W) (HKd.out W hc).1
  have z0 : 0 ≤ z ∧ z ≤ 6 := by rw [← hzz]; exact pcN_le x
  rw [hzz] at HSize
  have hsb := same_subs vp vq
  obtain ⟨bs, hbs⟩ : ∃ bs, decide (x = y) = bs := ⟨_, rfl⟩
  obtain ⟨bt, hbt⟩ : ∃ bt, decide (lessN x y = 0) = bt := ⟨_, rfl⟩
  obtain ⟨bf, hbf⟩ : ∃ bf, decide (lessN y x = 0) = bf := ⟨_, rfl⟩
  rw [hbs] at HSame hsb
  rw [hbt] at HTo hsb
  rw [hbf] at HFro hsb
  clear hbs hbt hbf vp vq hx hy hzz fp fq
  clear hS hT hP hQ hK hL hs ha ht hz
  obtain ⟨⟨a0x, a1x, a2x, a3x⟩, ⟨w0x, w1x, w2x, w3x⟩⟩ := HY.out w1 HB.out
  go_enter Tryz.func4, Tryz.ntmps4
  go_wp2_with fail
  rw [← hw1]
  clear hw1
  go_at_call 14
  refine (HF.out _ HB.out).mono ?_
  rintro e w2 ⟨f0, f1, f2, fb, fo, fc, rfl, hfb, hfc, hb⟩
  have HB : Hid (Car w1.heap.size w1 w2) := HB.out.step hb
  clear hb a0x a1x a2x a3x w0x w1x w2x w3x
  obtain ⟨w3, hw3⟩ : ∃ w3, w3 = w2.alloc (.cells #[.int .i64 5, .slice f0 f1 f2, .slice (some ⟨fb, fo, none⟩) 1 fc, .int .i64 (-3)] 24) := ⟨_, rfl⟩
  have HB : Hid (Car w1.heap.size w1 w3) := by unfold Hid; rw [hw3]; exact HB.out.step (below_alloc1 _ _)
  have hfc' : (w2.alloc (.cells #[.int .i64 5, .slice f0 f1 f2, .slice (some ⟨fb, fo, none⟩) 1 fc, .int .i64 (-3)] 24)).cell? ⟨fb, fo, none⟩ = some (.int .i64 1) := by
    rw [World.cell?_alloc_lt _ _ ⟨fb, fo, none⟩ hfb]; exact hfc
  clear hfc hfb
  go_wp2_with fail
  rw [← hw3]
  clear hfc' hw3
  go_at_call 14
  refine (HPs.out _ HB.out).mono ?_
  rintro e w4 ⟨g0, g1, g2, g3, rfl, r0, r1, hb⟩
  have HB : Hid (Car w1.heap.size w1 w4) := HB.out.step hb
  clear hb
  obtain ⟨w5, hw5⟩ : ∃ w5, w5 = w4.alloc (.cells #[.int .i64 kx, .slice g0 lpx g1, .slice g2 lqx g3, .int .i64 nx] 24) := ⟨_, rfl⟩
  have HB : Hid (Car w1.heap.size w1 w5) := by unfold Hid; rw [hw5]; exact HB.out.step (below_alloc1 _ _)
  have HR0 : Hid (Reads w5 (.slice g0 lpx g1) px ∧ Reads w5 (.slice g2 lqx g3) qx) := by unfold Hid; rw [hw5]; exact ⟨r0.below (below_alloc1 _ _), r1.below (below_alloc1 _ _)⟩
  clear r0 r1
  go_wp2_with fail
  rw [← hw5]
  clear hw5
  go_at_call 9
  refine (HPx.out _ _ _ HB.out HR0.out.1 HR0.out.2).mono ?_
  rintro e w6 ⟨rfl, hb⟩
  have HB : Hid (Car w1.heap.size w1 w6) := HB.out.step hb
  clear hb HR0
  obtain ⟨⟨a0x, a1x, a2x, a3x⟩, ⟨w0x, w1x, w2x, w3x⟩⟩ := HY.out w6 HB.out
  go_wp2_with fail
  go_at_call 9
  refine (HPa.out _ HB.out).mono ?_
  rintro e w7 ⟨rfl, hb⟩
  have HB : Hid (Car w1.heap.size w1 w7) := HB.out.step hb
  clear hb a0x a1x a2x a3x w0x w1x w2x w3x
  obtain ⟨⟨a0x, a1x, a2x, a3x⟩, ⟨w0x, w1x, w2x, w3x⟩⟩ := HY.out w7 HB.out
  go_wp2_with fail
  go_at_call 14
  refine (HPy.out _ HB.out).mono ?_
  rintro e w8 ⟨g0, g1, g2, g3, rfl, r0, r1, hb⟩
  have HB : Hid (Car w1.heap.size w1 w8) := HB.out.step hb
  clear hb a0x a1x a2x a3x w0x w1x w2x w3x
  obtain ⟨w9, hw9⟩ : ∃ w9, w9 = w8.alloc (.cells #[.int .i64 k, .slice g0 lsx g1, .slice g2 ltx g3, .int .i64 n] 24) := ⟨_, rfl⟩
  have HB : Hid (Car w1.heap.size w1 w9) := by unfold Hid; rw [hw9]; exact HB.out.step (below_alloc1 _ _)
  have HR0 : Hid (Reads w9 (.slice g0 lsx g1) s ∧ Reads w9 (.slice g2 ltx g3) t) := by unfold Hid; rw [hw9]; exact ⟨r0.below (below_alloc1 _ _), r1.below (below_alloc1 _ _)⟩
  clear r0 r1
  obtain ⟨⟨a0x, a1x, a2x, a3x⟩, ⟨w0x, w1x, w2x, w3x⟩⟩ := HY.out w9 HB.out
  rw [hw9] at a0x a1x a2x a3x w0x w1x w2x w3x
  go_wp2_with fail
  rw [← hw9]
  clear hw9
  go_at_call 15
  refine (HSm.out _ _ _ HB.out HR0.out.1 HR0.out.2).mono ?_
  rintro e w10 ⟨rfl, hb⟩
  have HB : Hid (Car w1.heap.size w1 w10) := HB.out.step hb
  clear hb HR0 a0x a1x a2x a3x w0x w1x w2x w3x
  obtain ⟨⟨a0x, a1x, a2x, a3x⟩, ⟨w0x, w1x, w2x, w3x⟩⟩ := HY.out w10 HB.out
  go_wp2_with fail
  go_at_call 12
  refine (HSame.out _ HB.out).mono ?_
  rintro e w11 ⟨rfl, hb⟩
  have HB : Hid (Car w1.heap.size w1 w11) := HB.out.step hb
  clear hb a0x a1x a2x a3x w0x w1x w2x w3x
  obtain ⟨⟨a0x, a1x, a2x, a3x⟩, ⟨w0x, w1x, w2x, w3x⟩⟩ := HY.out w11 HB.out
  go_wp2_with fail
  go_at_call 12
  refine (HTo.out _ HB.out).mono ?_
  rintro e w12 ⟨rfl, hb⟩
  have HB : Hid (Car w1.heap.size w1 w12) := HB.out.step hb
  clear hb a0x a1x a2x a3x w0x w1x w2x w3x
  obtain ⟨⟨a0x, a1x, a2x, a3x⟩, ⟨w0x, w1x, w2x, w3x⟩⟩ := HY.out w12 HB.out
  go_wp2_with fail
  go_at_call 12
  refine (HFro.out _ HB.out).mono ?_
  rintro e w13 ⟨rfl, hb⟩
  have HB : Hid (Car w1.heap.size w1 w13) := HB.out.step hb
  clear hb a0x a1x a2x a3x w0x w1x w2x w3x
  obtain ⟨⟨a0x, a1x, a2x, a3x⟩, ⟨w0x, w1x, w2x, w3x⟩⟩ := HY.out w13 HB.out
  go_wp2_with fail
  go_at_call 16
  refine (HVal.out _ HB.out).mono ?_
  rintro e w14 ⟨rfl, hb⟩
  have HB : Hid (Car w1.heap.size w1 w14) := HB.out.step hb
  clear hb a0x a1x a2x a3x w0x w1x w2x w3x
  obtain ⟨⟨a0x, a1x, a2x, a3x⟩, ⟨w0x, w1x, w2x, w3x⟩⟩ := HY.out w14 HB.out
  go_upto_region 20 with fail
  go_cut [151] from 134 to 151 (fun r wx => r = .bool false ∧ wx = w14)
  case first =>
    subst hsb
    cases bt <;> cases bf
    all_goals
      go_wp2_with fail
      go_meet
      exact ⟨rfl, rfl⟩
  case rest =>
  obtain ⟨rfl, rfl⟩ := hcut
  clear hsb
  go_wp2_with fail
  go_at_call 17
  refine (HSize.out _).mono ?_
  rintro e w15 ⟨rfl, rfl⟩
  go_wp2_with fail
  go_loopw [29] (fun i wr => ∃ m : Int, -1 ≤ m ∧ m ≤ 8 ∧ i = .int .i64 m ∧ Car w1.heap.size w1 wr) (fun i _ => (8 - intOf i).toNat)
  case atStart => exact ⟨-1, by omega, by omega, rfl, HB.out⟩
  case round =>
    obtain ⟨m, m0, m1, rfl, hcar⟩ := hrel
    have HB : Hid (Car w1.heap.size w1 wr) := hcar
    clear hcar a0x a1x a2x a3x w0x w1x w2x w3x
    obtain ⟨⟨a0x, a1x, a2x, a3x⟩, ⟨w0x, w1x, w2x, w3x⟩⟩ := HY.out wr HB.out
    by_cases hm : m ≤ 7
    · obtain ⟨o1, ho1⟩ : ∃ o1, decide (m ≤ z) = o1 := ⟨_, rfl⟩
      obtain ⟨o2, ho2⟩ : ∃ o2, decide (z ≤ m) = o2 := ⟨_, rfl⟩
      have HU : Hid (∀ W, Car w1.heap.size w1 W → _) := fun W hc => HUp.out m o1 W hc m0 hm ho1
      have HD : Hid (∀ W, Car w1.heap.size w1 W → _) := fun W hc => HDn.out m o2 W hc m0 hm ho2
      have q3 : (m == z) = (o1 && o2) := by
        rw [← ho1, ← ho2]
        rcases Int.lt_trichotomy m z with hlt | heq | hgt
        · have e1 : decide (z ≤ m) = false := by simp; omega
          have e2 : (m == z) = false := by simp; omega
          rw [e1, e2, Bool.and_false]
        · have e1 : decide (z ≤ m) = true := by simp; omega
          have e2 : decide (m ≤ z) = true := by simp; omega
          have e3 : (m == z) = true := by simp; omega
          rw [e1, e2, e3]; rfl
        · have e1 : decide (m ≤ z) = false := by simp; omega
          have e2 : (m == z) = false := by simp; omega
          rw [e1, e2, Bool.false_and]
      have q2 : (!o1 && !o2) = false := by
        rw [← ho1, ← ho2]
        by_cases h : m ≤ z
        · rw [decide_eq_true h]; rfl
        · rw [decide_eq_true (show z ≤ m by omega)]; simp
      clear ho1 ho2
      go_wp2_with fail
      go_at_call 12
      refine (HU.out _ HB.out).mono ?_
      rintro e w16 ⟨rfl, hb⟩
      have HB : Hid (Car w1.heap.size w1 w16) := HB.out.step hb
      clear hb a0x a1x a2x a3x w0x w1x w2x w3x
      obtain ⟨⟨a0x, a1x, a2x, a3x⟩, ⟨w0x, w1x, w2x, w3x⟩⟩ := HY.out w16 HB.out
      go_wp2_with fail
      go_at_call 12
      refine (HD.out _ HB.out).mono ?_
      rintro e w17 ⟨rfl, hb⟩
      have HB : Hid (Car w1.heap.size w1 w17) := HB.out.step hb
      clear hb a0x a1x a2x a3x w0x w1x w2x w3x HU HD
      cases o1
      · cases o2
        · exact absurd q2 (by decide)
        · have q4 : (m == z) = false := q3
          clear q2 q3
          go_wp2
          go_roundw
          case rel => exact ⟨m + 1, by omega, by omega, by go_num, HB.out⟩
          case measure => simp [intOf]; omega
      · cases o2
        · have q4 : (m == z) = false := q3
          clear q2 q3
          go_wp2
          go_roundw
          case rel => exact ⟨m + 1, by omega, by omega, by go_num, HB.out⟩
          case measure => simp [intOf]; omega
        · have q4 : (m == z) = true := q3
          clear q2 q3
          go_wp2
          go_roundw
          case rel => exact ⟨m + 1, by omega, by omega, by go_num, HB.out⟩
          case measure => simp [intOf]; omega
    · go_wp2
      go_ret
      exact ⟨rfl, HW.out.1.trans (HB.out.1.mono (by have := HW.out.2; omega))⟩

end Go.Proofs.YtenmheenieifpabGreatDoor
