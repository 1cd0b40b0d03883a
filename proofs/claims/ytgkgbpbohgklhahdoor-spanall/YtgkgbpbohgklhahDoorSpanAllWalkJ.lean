/-
  Proved: vennlaw4.SpanAll returns true, of any name and any number of things, where span's functions answer as chapter 14 says; what was in memory is as it was (the walk that the statement leans on).
-/
import Derived.Test.YtgkgbpbohgklhahDoorSpanAllFactsJ
import Derived.Test.YtgkgbpbohgklhahDoorLibSA7
import Derived.Test.YtgkgbpbohgklhahDoorLibSA5
import Derived.Deep.CutRange
namespace Go.Proofs.YtgkgbpbohgklhahDoor
open Go.ChangeShapes Go.WideShapes Go.ChangeAt Go.RowKit
set_option maxRecDepth 100000

theorem one_reads (W : World) (n : Int) : Reads (W.alloc (.cells #[.int .i64 n] 3)) (.slice (some ⟨W.heap.size, 0, none⟩) 1 1) [n] := by
  have k : Blk (W.alloc (.cells #[.int .i64 n] 3)) W.heap.size 3 #[.int .i64 n] := Blk.new _ _ _
  refine Or.inr ⟨W.heap.size, 0, 1, rfl, k.lt, by simp, ⟨by simp, by simp⟩, fun j hj => ?_⟩
  obtain rfl : j = 0 := by simp at hj; exact hj
  exact k.cell 0

set_option maxHeartbeats 4000000 in
theorem spanAll_bad (name u m : Int) (hu : u < 0 ∨ 6 < u) (w : World)
    (HAt : Hid (∀ W, Calls Tryd.prog 4 #[.int .i64 4, .int .i64 0] W fun e w' => ∃ b1 b2, e = .returned (.agg #[.slice (some ⟨b1, 0, none⟩) 1 1, .slice (some ⟨b2, 0, none⟩) 1 1]) ∧ ReadsA w' (.slice (some ⟨b1, 0, none⟩) 1 1) (manyA 4 0) ∧ Reads w' (.slice (some ⟨b2, 0, none⟩) 1 1) [0] ∧ Below W.heap.size W w'))
    (HEx : Hid (∀ W va vc vt, Below w.heap.size w W → ReadsA W va (manyA 4 0) → Reads W vc [0] → Reads W vt [4] → Calls Tryd.prog 5 #[.agg #[va, vc], vt, .int .i64 u] W fun e w' => e = .returned (.tuple #[.int .i64 0, .iface 38 (.int .i64 m)]) ∧ Below W.heap.size W w')) :
    Calls Tryd.prog 3 #[.int .i64 name, .int .i64 u] w fun e w' => e = .returned (.bool true) ∧ Below w.heap.size w w' := by
  go_enter Tryd.func3, Tryd.ntmps3
  go_wp2_with fail
  go_at_call 4
  refine (HAt.out _).mono ?_
  rintro e w1 ⟨b1, b2, rfl, hA, hC, hb⟩
  obtain ⟨w2, hw2⟩ : ∃ w2, w2 = w1.alloc (.cells #[.slice (some ⟨b1, 0, none⟩) 1 1, .slice (some ⟨b2, 0, none⟩) 1 1] 25) := ⟨_, rfl⟩
  have B2 : Hid (Below w.heap.size w w2) := by unfold Hid; rw [hw2]; exact hb.alloc hb.size _
  have HR2 : Hid (ReadsA w2 (.slice (some ⟨b1, 0, none⟩) 1 1) (manyA 4 0) ∧ Reads w2 (.slice (some ⟨b2, 0, none⟩) 1 1) [0]) := by unfold Hid; rw [hw2]; exact ⟨hA.below (below_alloc1 _ _), hC.below (below_alloc1 _ _)⟩
  have kF : Blk w2 w1.heap.size 25 #[.slice (some ⟨b1, 0, none⟩) 1 1, .slice (some ⟨b2, 0, none⟩) 1 1] := by rw [hw2]; exact Blk.new _ _ _
  have x0 : w2.cell? ⟨w1.heap.size, 0, none⟩ = some (.slice (some ⟨b1, 0, none⟩) 1 1) := kF.cell 0
  have x1 : w2.cell? ⟨w1.heap.size, 1, none⟩ = some (.slice (some ⟨b2, 0, none⟩) 1 1) := kF.cell 1
  clear hA hC hb kF
  go_upto_region 2 with fail
  rw [← hw2]
  clear hw2
  go_wp2_with fail
  go_at_call 5
  refine (HEx.out _ _ _ _ (B2.out.alloc B2.out.size _) (HR2.out.1.below (below_alloc1 _ _)) (HR2.out.2.below (below_alloc1 _ _)) (one_reads w2 4)).mono ?_
  rintro e w3 ⟨rfl, hb'⟩
  have B3 : Hid (Below w.heap.size w w3) := (B2.out.alloc B2.out.size _).trans (hb'.mono (by have := B2.out.size; simp; omega))
  clear hb' x0 x1
  rcases hu with hu | hu
  · go_wp2
    go_ret
    exact ⟨rfl, B3.out⟩
  · have h0 : ¬ u < 0 := by omega
    go_wp2
    go_ret
    exact ⟨rfl, B3.out⟩

set_option maxHeartbeats 8000000 in
theorem spanAll_good (name : Int) (u : Nat) (lo hi : Int) (ES : Value) (w : World)
    (HAt : Hid (∀ W, Calls Tryd.prog 4 #[.int .i64 4, .int .i64 0] W fun e w' => ∃ b1 b2, e = .returned (.agg #[.slice (some ⟨b1, 0, none⟩) 1 1, .slice (some ⟨b2, 0, none⟩) 1 1]) ∧ ReadsA w' (.slice (some ⟨b1, 0, none⟩) 1 1) (manyA 4 0) ∧ Reads w' (.slice (some ⟨b2, 0, none⟩) 1 1) [0] ∧ Below W.heap.size W w'))
    (HEx : Hid (∀ W va vc vt, Below w.heap.size w W → ReadsA W va (manyA 4 0) → Reads W vc [0] → Reads W vt [4] → Calls Tryd.prog 5 #[.agg #[va, vc], vt, .int .i64 u] W fun e w' => e = .returned (.tuple #[.int .i64 u, .nilIface]) ∧ Below W.heap.size W w'))
    (HEy : Hid (∀ W va vc vt, Below w.heap.size w W → ReadsA W va (manyA 4 0) → Reads W vc [0] → Reads W vt [3] → Calls Tryd.prog 5 #[.agg #[va, vc], vt, .int .i64 u] W fun e w' => e = .returned (.tuple #[.int .i64 0, .nilIface]) ∧ Below W.heap.size W w'))
    (HOf : Hid (∀ W va vc vt, Below w.heap.size w W → ReadsA W va (manyA 4 0) → Reads W vc [0] → Reads W vt [name] → Calls Tryd.prog 6 #[.agg #[va, vc], vt, .int .i64 u] W fun e w' => e = .returned (.tuple #[.agg #[.int .i64 lo, .int .i64 hi], ES]) ∧ Below W.heap.size W w'))
    (hor : (name < 0 ∨ 2 < name) ∨ ((0 ≤ name ∧ name ≤ 2) ∧ lo = 0 ∧ hi = u ∧ ES = .nilIface)) :
    Calls Tryd.prog 3 #[.int .i64 name, .int .i64 u] w fun e w' => e = .returned (.bool true) ∧ Below w.heap.size w w' := by
  have HOr : Hid ((name < 0 ∨ 2 < name) ∨ ((0 ≤ name ∧ name ≤ 2) ∧ lo = 0 ∧ hi = u ∧ ES = .nilIface)) := hor
  clear hor
  go_enter Tryd.func3, Tryd.ntmps3
  go_wp2_with fail
  go_at_call 4
  refine (HAt.out _).mono ?_
  rintro e w1 ⟨b1, b2, rfl, hA, hC, hb⟩
  obtain ⟨w2, hw2⟩ : ∃ w2, w2 = w1.alloc (.cells #[.slice (some ⟨b1, 0, none⟩) 1 1, .slice (some ⟨b2, 0, none⟩) 1 1] 25) := ⟨_, rfl⟩
  have B2 : Hid (Below w.heap.size w w2) := by unfold Hid; rw [hw2]; exact hb.alloc hb.size _
  have HR2 : Hid (ReadsA w2 (.slice (some ⟨b1, 0, none⟩) 1 1) (manyA 4 0) ∧ Reads w2 (.slice (some ⟨b2, 0, none⟩) 1 1) [0]) := by unfold Hid; rw [hw2]; exact ⟨hA.below (below_alloc1 _ _), hC.below (below_alloc1 _ _)⟩
  have kF2 : Hid (Blk w2 w1.heap.size 25 #[.slice (some ⟨b1, 0, none⟩) 1 1, .slice (some ⟨b2, 0, none⟩) 1 1]) := by unfold Hid; rw [hw2]; exact Blk.new _ _ _
  have x0 : w2.cell? ⟨w1.heap.size, 0, none⟩ = some (.slice (some ⟨b1, 0, none⟩) 1 1) := kF2.out.cell 0
  have x1 : w2.cell? ⟨w1.heap.size, 1, none⟩ = some (.slice (some ⟨b2, 0, none⟩) 1 1) := kF2.out.cell 1
  clear hA hC hb
  go_upto_region 2 with fail
  rw [← hw2]
  clear hw2
  go_wp2_with fail
  go_at_call 5
  refine (HEx.out _ _ _ _ (B2.out.alloc B2.out.size _) (HR2.out.1.below (below_alloc1 _ _)) (HR2.out.2.below (below_alloc1 _ _)) (one_reads w2 4)).mono ?_
  rintro e w3 ⟨rfl, hb'⟩
  have hb : Below w2.heap.size w2 w3 := (below_alloc1 _ _).trans (hb'.mono (by simp))
  have B3 : Hid (Below w.heap.size w w3) := B2.out.trans (hb.mono B2.out.size)
  have HR3 : Hid (ReadsA w3 (.slice (some ⟨b1, 0, none⟩) 1 1) (manyA 4 0) ∧ Reads w3 (.slice (some ⟨b2, 0, none⟩) 1 1) [0]) := ⟨HR2.out.1.below hb, HR2.out.2.below hb⟩
  have kF3 : Hid (Blk w3 w1.heap.size 25 #[.slice (some ⟨b1, 0, none⟩) 1 1, .slice (some ⟨b2, 0, none⟩) 1 1]) := kF2.out.below hb
  clear hb hb' x0 x1
  have x0 : w3.cell? ⟨w1.heap.size, 0, none⟩ = some (.slice (some ⟨b1, 0, none⟩) 1 1) := kF3.out.cell 0
  have x1 : w3.cell? ⟨w1.heap.size, 1, none⟩ = some (.slice (some ⟨b2, 0, none⟩) 1 1) := kF3.out.cell 1
  go_wp2_with fail
  go_at_call 5
  refine (HEy.out _ _ _ _ (B3.out.alloc B3.out.size _) (HR3.out.1.below (below_alloc1 _ _)) (HR3.out.2.below (below_alloc1 _ _)) (one_reads w3 3)).mono ?_
  rintro e w4 ⟨rfl, hb'⟩
  have hb : Below w3.heap.size w3 w4 := (below_alloc1 _ _).trans (hb'.mono (by simp))
  have B4 : Hid (Below w.heap.size w w4) := B3.out.trans (hb.mono B3.out.size)
  have HR4 : Hid (ReadsA w4 (.slice (some ⟨b1, 0, none⟩) 1 1) (manyA 4 0) ∧ Reads w4 (.slice (some ⟨b2, 0, none⟩) 1 1) [0]) := ⟨HR3.out.1.below hb, HR3.out.2.below hb⟩
  have kF4 : Hid (Blk w4 w1.heap.size 25 #[.slice (some ⟨b1, 0, none⟩) 1 1, .slice (some ⟨b2, 0, none⟩) 1 1]) := kF3.out.below hb
  clear hb hb' x0 x1
  have x0 : w4.cell? ⟨w1.heap.size, 0, none⟩ = some (.slice (some ⟨b1, 0, none⟩) 1 1) := kF4.out.cell 0
  have x1 : w4.cell? ⟨w1.heap.size, 1, none⟩ = some (.slice (some ⟨b2, 0, none⟩) 1 1) := kF4.out.cell 1
  go_wp2_with fail
  go_at_call 6
  refine (HOf.out _ _ _ _ (B4.out.alloc B4.out.size _) (HR4.out.1.below (below_alloc1 _ _)) (HR4.out.2.below (below_alloc1 _ _)) (one_reads w4 name)).mono ?_
  rintro e w5 ⟨rfl, hb'⟩
  have hb : Below w4.heap.size w4 w5 := (below_alloc1 _ _).trans (hb'.mono (by simp))
  have B5 : Hid (Below w.heap.size w w5) := B4.out.trans (hb.mono B4.out.size)
  clear hb hb' x0 x1
  obtain ⟨w6, hw6⟩ : ∃ w6, w6 = w5.alloc (.cells #[.int .i64 lo, .int .i64 hi] 32) := ⟨_, rfl⟩
  have B6 : Hid (Below w.heap.size w w6) := by unfold Hid; rw [hw6]; exact B5.out.alloc B5.out.size _
  have kS : Hid (Blk w6 w5.heap.size 32 (arrP (lo, hi))) := by unfold Hid; rw [hw6]; exact Blk.new _ _ _
  go_upto_region 7 with fail
  rw [← hw6]
  clear hw6
  obtain ⟨y0, y1⟩ := kS.out.cells2
  rcases HOr.out with (h | h) | ⟨⟨h1, h2⟩, h3, h4, h5⟩
  · clear HOr
    go_wp2
    go_ret
    exact ⟨rfl, B6.out⟩
  · have h0 : ¬ name < 0 := by omega
    clear HOr
    go_wp2
    go_ret
    exact ⟨rfl, B6.out⟩
  · have c1 : ¬ name < 0 := by omega
    have c2 : ¬ 2 < name := by omega
    clear HOr h1 h2
    subst h3 h4 h5
    go_wp2
    go_ret
    exact ⟨rfl, B6.out⟩

theorem spanAll_of (name u : Int) (w : World)
    (cOf : ∀ (va vc vt : Value) (ats : List At) (c t : List Int) (u : Int) (W : World), Below w.heap.size w W → ReadsA W va ats → Reads W vc c → Reads W vt t → Calls Tryd.prog 6 #[.agg #[va, vc], vt, .int .i64 u] W fun e w' => e = .returned (.tuple #[.agg (arrP (spanLo ats c t u, spanHi ats c t u)), errV (spanFault ats c t u)]) ∧ Below W.heap.size W w')
    (cEx : ∀ (va vc vt : Value) (ats : List At) (c t : List Int) (u : Int) (W : World), Below w.heap.size w W → ReadsA W va ats → Reads W vc c → Reads W vt t → Calls Tryd.prog 5 #[.agg #[va, vc], vt, .int .i64 u] W fun e w' => e = .returned (.tuple #[.int .i64 (exactN ats c t u), errV (exactFault ats c t u)]) ∧ Below W.heap.size W w') :
    Calls Tryd.prog 3 #[.int .i64 name, .int .i64 u] w fun e w' => e = .returned (.bool true) ∧ Below w.heap.size w w' := by
  have hAt : ∀ W, Calls Tryd.prog 4 #[.int .i64 4, .int .i64 0] W fun e w' => ∃ b1 b2, e = .returned (.agg #[.slice (some ⟨b1, 0, none⟩) 1 1, .slice (some ⟨b2, 0, none⟩) 1 1]) ∧ ReadsA w' (.slice (some ⟨b1, 0, none⟩) 1 1) (manyA 4 0) ∧ Reads w' (.slice (some ⟨b2, 0, none⟩) 1 1) [0] ∧ Below W.heap.size W w' := fun W => atomOf_any 4 0 W
  by_cases hu : 0 ≤ u ∧ u ≤ 6
  · obtain ⟨n, rfl⟩ := Int.eq_ofNat_of_zero_le hu.1
    have a1 := all_zero (t := [4]) (by decide) n (by omega)
    have b1 := all_zero (t := [3]) (by decide) n (by omega)
    obtain ⟨a2, a3⟩ := all_four n (by omega)
    obtain ⟨b2, b3⟩ := all_three n (by omega)
    have ea : exactFault (manyA 4 0) [0] [4] (n : Int) = 0 := by unfold exactFault; rw [if_pos a1, a2, a3, if_pos rfl]
    have eb : exactFault (manyA 4 0) [0] [3] (n : Int) = 0 := by unfold exactFault; rw [if_pos b1, b2, b3, if_pos rfl]
    have na : exactN (manyA 4 0) [0] [4] (n : Int) = n := by unfold exactN; rw [if_pos ea, a2]
    have nb : exactN (manyA 4 0) [0] [3] (n : Int) = 0 := by unfold exactN; rw [if_pos eb, b2]
    refine spanAll_good name n (spanLo (manyA 4 0) [0] [name] n) (spanHi (manyA 4 0) [0] [name] n) (errV (spanFault (manyA 4 0) [0] [name] n)) w hAt (fun W va vc vt hW h1 h2 h3 => ?_) (fun W va vc vt hW h1 h2 h3 => ?_) (fun W va vc vt hW h1 h2 h3 => cOf va vc vt _ _ _ _ W hW h1 h2 h3) ?_
    · have h := cEx va vc vt _ _ _ (n : Int) W hW h1 h2 h3
      rw [ea, na] at h
      exact h
    · have h := cEx va vc vt _ _ _ (n : Int) W hW h1 h2 h3
      rw [eb, nb] at h
      exact h
    · by_cases hn : 0 ≤ name ∧ name ≤ 2
      · right
        obtain ⟨k, rfl⟩ := Int.eq_ofNat_of_zero_le hn.1
        have ht : faultN [(k : Int)] = 0 := by
          rcases (by omega : k = 0 ∨ k = 1 ∨ k = 2) with rfl | rfl | rfl <;> decide
        have c1 := all_zero ht n (by omega)
        obtain ⟨c2, c3⟩ := all_name k (by omega) ht n (by omega)
        exact ⟨hn, c2, c3, by rw [c1]; rfl⟩
      · left; omega
  · have hw := all_wrong [4] u (by decide) (by omega)
    have ef : exactFault (manyA 4 0) [0] [4] u = 1 := by unfold exactFault; rw [if_neg (by rw [hw]; decide), hw]
    have en : exactN (manyA 4 0) [0] [4] u = 0 := by unfold exactN; rw [if_neg (by rw [ef]; decide)]
    refine spanAll_bad name u 1 (by omega) w hAt fun W va vc vt hW h1 h2 h3 => ?_
    have h := cEx va vc vt _ _ _ u W hW h1 h2 h3
    rw [ef, en] at h
    exact h
end Go.Proofs.YtgkgbpbohgklhahDoor
