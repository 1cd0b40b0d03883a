/-
  Proved: what slices.Grow (of nothing) and slices.Concat return, of rows of atoms; what was in memory is as it was (contracts that the statements lean on). Written by program.
-/
import Derived.Test.YtenmheenieifpabDoorFormCopies
import Derived.Lib.AppendZerosOnto
import Derived.Lib.Walk
import Derived.Lib.SliceRun
namespace Go.Proofs.YtenmheenieifpabDoor
open Go.ChangeShapes Go.WideShapes Go.ChangeAt Go.RowKit
set_option maxRecDepth 100000


set_option maxHeartbeats 2000000 in
/-- slices.Grow of nothing: a new row with room. -/
theorem growA (n : Nat) (h0 : 0 < n) (h1 : n ≤ 40) (w : World) :
    Calls Tryd.prog 64 #[.slice none 0 0, .int .i64 n] w fun e w' => ∃ cap, e = .returned (.slice (some ⟨w.heap.size, 0, none⟩) 0 cap) ∧ w'.ownsRow w.heap.size 37 4 (.slice (some ⟨w.heap.size, 0, none⟩) 0 cap) 0 [] ∧ Below w.heap.size w w' ∧ w.heap.size < w'.heap.size := by
  obtain ⟨i0, hi, hz0, hz1, hz2⟩ := info_parts infoA
  have a1 : ¬ ((n : Int) < 0) := by omega
  have a4 : (n : Int) > 0 := by omega
  have hold : (Builtin.firstCells i0.size 0 (.slice none 0 0)).run Tryd.prog w.drew = .ok #[] w.drew := run_firstCells_none w.drew i0.size 0 0 0
  have hrz : ∀ ty, (Builtin.append_ #[38, 3] ty #[.slice none 0 0, .int .i64 n]).run Tryd.prog w =
      .ok (.slice (some ⟨w.heap.size, 0, none⟩) n (grownCap w n 0 37)) (w.drew.alloc (.cells (#[] ++ Builtin.zeroCells (Value.cells (.agg #[.int .i64 0, .slice none 0 0, .slice none 0 0, .int .i64 0])) n ++ Builtin.zeroCells (Value.cells (.agg #[.int .i64 0, .slice none 0 0, .slice none 0 0, .int .i64 0])) (grownCap w n 0 37 - n)) 37)) := fun ty => by
    have h := Lib.run_append_grow_zeros w 38 3 ty 37 i0 (.agg #[.int .i64 0, .slice none 0 0, .slice none 0 0, .int .i64 0]) .i64 .i64 Tryd.underlying38 Tryd.underlying3 hi hz0 none 0 0 [] hold n h0 (by omega) (by omega) (by omega) (by rw [hz2]; omega) (by rw [Nat.zero_add, hz2]; exact growslice_fits (by omega) (by omega))
    rw [Nat.zero_add] at h
    exact h
  have hGn : n ≤ grownCap w n 0 37 := grownCap_ge w _ _ _
  have hG63 : grownCap w n 0 37 ≤ maxLen := grownCap_le_maxLen w n 0 37 (by unfold maxLen; omega)
  obtain ⟨G, hG⟩ : ∃ G, G = grownCap w n 0 37 := ⟨_, rfl⟩
  rw [← hG] at hrz hGn hG63
  have HE : Hid (∃ w', w' = w.drew.alloc (.cells (#[] ++ Builtin.zeroCells (Value.cells (.agg #[.int .i64 0, .slice none 0 0, .slice none 0 0, .int .i64 0])) n ++ Builtin.zeroCells (Value.cells (.agg #[.int .i64 0, .slice none 0 0, .slice none 0 0, .int .i64 0])) (G - n)) 37) ∧ w'.ownsRow w.heap.size 37 4 (.slice (some ⟨w.heap.size, 0, none⟩) 0 G) 0 [] ∧ Below w.heap.size w w' ∧ w.heap.size < w'.heap.size) := by
    refine ⟨_, rfl, ?_, ?_, ?_⟩
    · refine ⟨by simp, .inr ⟨w.heap.size, G, _, rfl, Nat.le_refl _, heap_alloc_new w.drew _, Nat.zero_le _, hG63, ?_, by simp⟩⟩
      simp [Builtin.zeroCells, Value.cells]
      omega
    · exact ((Below.refl _ w).drew).trans (below_alloc1 w.drew _)
    · simp
  have hG63' : G ≤ 9223372036854775807 := by unfold maxLen at hG63; omega
  clear hold hG hG63
  obtain ⟨w', hw', HE⟩ := HE.out
  rw [← hw'] at hrz
  have HE' : Hid (w'.ownsRow w.heap.size 37 4 (.slice (some ⟨w.heap.size, 0, none⟩) 0 G) 0 [] ∧ Below w.heap.size w w' ∧ w.heap.size < w'.heap.size) := HE
  clear hw' HE
  go_enter Tryd.func64, Tryd.ntmps64
  go_wp2_with (at_builtin; refine Lib.wpList_append_run _ rfl _ _ _ _ rfl _ _ rfl rfl _ _ (hrz _) ?_)
  go_ret
  exact ⟨G, rfl, HE'.out⟩

/-- a row among those that are put together. -/
structure RowA where
  b : Nat
  off : Nat
  cap : Nat
  m : Nat
  vs : List Value
/-- a row lies there. -/
def RowA.Lies (w : World) (r : RowA) : Prop := r.b < w.heap.size ∧ 0 < r.m ∧ r.m ≤ r.cap ∧ r.vs.length = r.m * 4 ∧ (∀ u ∈ r.vs, u.oneCell' = true) ∧ ∀ j u, r.vs[j]? = some u → w.cell? ⟨r.b, r.off + j, none⟩ = some u
theorem RowA.Lies.below {w w' : World} {r : RowA} (h : r.Lies w) (hb : Below w.heap.size w w') : r.Lies w' :=
  ⟨Nat.lt_of_lt_of_le h.1 hb.size, h.2.1, h.2.2.1, h.2.2.2.1, h.2.2.2.2.1, fun j u hu => by rw [hb.cell h.1]; exact h.2.2.2.2.2 j u hu⟩
/-- how many, and what, they have together. -/
def manyA (l : List RowA) : Nat := (l.map (·.m)).sum
def allA (l : List RowA) : List Value := (l.map (·.vs)).flatten
theorem manyA_succ (l : List RowA) {k : Nat} {r : RowA} (h : l[k]? = some r) : manyA (l.take (k + 1)) = manyA (l.take k) + r.m := by
  unfold manyA
  rw [List.take_add_one, h]; simp
theorem allA_succ (l : List RowA) {k : Nat} {r : RowA} (h : l[k]? = some r) : allA (l.take (k + 1)) = allA (l.take k) ++ r.vs := by
  unfold allA
  rw [List.take_add_one, h]; simp
theorem manyA_take (l : List RowA) (k : Nat) : manyA (l.take k) ≤ manyA l := by
  have : manyA l = manyA (l.take k) + manyA (l.drop k) := by
    unfold manyA
    rw [← List.sum_append_nat, ← List.map_append, List.take_append_drop]
  omega

set_option maxHeartbeats 4000000 in
/-- slices.Concat: a new row of all. -/
theorem concatA (l : List RowA) (A lcap : Nat) (w : World) (hl : l.length ≤ 4) (hA : A < w.heap.size) (hc : ∀ k r, l[k]? = some r → w.cell? ⟨A, k, none⟩ = some (.slice (some ⟨r.b, r.off, none⟩) r.m r.cap)) (hr : ∀ r ∈ l, r.Lies w) (h0 : 0 < manyA l) (h1 : manyA l ≤ 40) :
    Calls Tryd.prog 44 #[.slice (some ⟨A, 0, none⟩) l.length lcap] w fun e w' => ∃ v, e = .returned v ∧ w'.ownsRow w.heap.size 37 4 v (manyA l) (allA l) ∧ Below w.heap.size w w' := by
  obtain ⟨i0, hi, hz0, hz1, hz2⟩ := info_parts infoA
  obtain ⟨N, hN⟩ : ∃ N, N = l.length := ⟨_, rfl⟩
  rw [← hN] at hl ⊢
  have HN : Hid (N = l.length) := hN
  clear hN
  have HC : Hid (∀ W, Below w.heap.size w W → ∀ k r, l[k]? = some r → W.cell? ⟨A, k, none⟩ = some (.slice (some ⟨r.b, r.off, none⟩) r.m r.cap)) := fun W hW k r h => by rw [hW.cell (show (⟨A, k, none⟩ : Addr).block < _ from hA)]; exact hc k r h
  have HR : Hid (∀ W, Below w.heap.size w W → ∀ (k : Nat) (r : RowA), l[k]? = some r → r.Lies W) := fun W hW k r h => (hr r (List.mem_of_getElem? h)).below hW
  have HS : Hid (∀ k, manyA (l.take k) ≤ 40) := fun k => Nat.le_trans (manyA_take l k) h1
  have HG : Hid (∀ W, Calls Tryd.prog 64 #[.slice none 0 0, .int .i64 (manyA l)] W fun e w' => ∃ cap, e = .returned (.slice (some ⟨W.heap.size, 0, none⟩) 0 cap) ∧ w'.ownsRow W.heap.size 37 4 (.slice (some ⟨W.heap.size, 0, none⟩) 0 cap) 0 [] ∧ Below W.heap.size W w' ∧ W.heap.size < w'.heap.size) := fun W => growA _ h0 h1 W
  obtain ⟨M, hM⟩ : ∃ M, M = manyA l := ⟨_, rfl⟩
  rw [← hM] at HG ⊢
  have HM : Hid (M = manyA l) := hM
  clear hM hc hr h0 h1 hA
  go_enter Tryd.func44, Tryd.ntmps44
  go_wp2_with fail
  go_loop [3, 11] (fun c i => ∃ k : Nat, k ≤ N ∧ i = .int .i64 k ∧ c = .int .i64 (manyA (l.take k))) (fun _ i => N - (intOf i).toNat)
  case atStart => exact ⟨0, Nat.zero_le _, rfl, rfl⟩
  case round =>
    obtain ⟨k, hk, rfl, rfl⟩ := hrel
    by_cases hlt : k < N
    · obtain ⟨r, hr⟩ : ∃ r, l[k]? = some r := ⟨_, List.getElem?_eq_getElem (by have := HN.out; omega)⟩
      have hcell := HC.out w (Below.refl _ _) k r hr
      have HE : Hid (manyA (l.take (k + 1)) = manyA (l.take k) + r.m) := manyA_succ l hr
      have hs1 := HS.out (k + 1)
      rw [HE.out] at hs1
      obtain ⟨S, hS⟩ : ∃ S, S = manyA (l.take k) := ⟨_, rfl⟩
      rw [← hS] at HE hs1 ⊢
      clear hS hr
      obtain ⟨rb, ro, rc, rm, rvs⟩ := r
      simp only at hcell HE hs1
      have q : ¬ ((S : Int) + (rm : Int) < 0) := by omega
      go_wp2
      go_round
      case rel => exact ⟨k + 1, by omega, by go_num, by rw [HE.out]; go_num⟩
      case measure => simp [intOf]; omega
    · have HE : Hid (manyA (l.take k) = M) := by unfold Hid; rw [List.take_of_length_le (by have := HN.out; omega), HM.out]
      rw [HE.out]
      go_wp2_with fail
      go_at_call 64
      refine (HG.out _).mono ?_
      rintro e w2 ⟨cap, rfl, hown, hb, hlt2⟩
      obtain ⟨K, hK⟩ : ∃ K, K = w.heap.size := ⟨_, rfl⟩
      rw [← hK] at hown hb hlt2 HC HR ⊢
      have HB2 : Hid (Below K w w2 ∧ K ≤ w2.heap.size) := ⟨hb, by omega⟩
      have HO2 : Hid (w2.ownsRow K 37 4 (.slice (some ⟨K, 0, none⟩) 0 cap) 0 []) := hown
      have HKe : Hid (w.heap.size = K) := hK.symm
      clear hb hown hK hlt2
      go_wp2_with fail
      go_loopw [6, 27] (fun v i wr => ∃ k : Nat, k ≤ N ∧ i = .int .i64 k ∧ wr.ownsRow K 37 4 v (manyA (l.take k)) (allA (l.take k)) ∧ Below K w wr ∧ K ≤ wr.heap.size) (fun _ i _ => N - (intOf i).toNat)
      case atStart => exact ⟨0, Nat.zero_le _, rfl, HO2.out, HB2.out.1, HB2.out.2⟩
      case round =>
        obtain ⟨j, hj, rfl, hown, hbel, hKw⟩ := hrel
        by_cases hjl : j < N
        · obtain ⟨r, hr⟩ : ∃ r, l[j]? = some r := ⟨_, List.getElem?_eq_getElem (by have := HN.out; omega)⟩
          have hcell := HC.out wr hbel j r hr
          have HL : Hid (r.Lies wr) := HR.out wr hbel j r hr
          have HE : Hid (manyA (l.take (j + 1)) = manyA (l.take j) + r.m) := manyA_succ l hr
          have HE2 : Hid (allA (l.take (j + 1)) = allA (l.take j) ++ r.vs) := allA_succ l hr
          have hs1 := HS.out (j + 1)
          rw [HE.out] at hs1
          obtain ⟨S, hS⟩ : ∃ S, S = manyA (l.take j) := ⟨_, rfl⟩
          obtain ⟨XS, hXS⟩ : ∃ XS, XS = allA (l.take j) := ⟨_, rfl⟩
          rw [← hS] at HE hs1 hown
          rw [← hXS] at HE2 hown
          clear hS hXS hr
          obtain ⟨rb, ro, rc, rm, rvs⟩ := r
          simp only at hcell HE HE2 hs1
          have HOW : Hid (wr.ownsRow K 37 4 u6 S XS) := hown
          have HBW : Hid (Below K w wr ∧ K ≤ wr.heap.size) := ⟨hbel, hKw⟩
          have hrm : 0 < rm := HL.out.2.1
          clear hown hbel hKw
          go_wp2_with (first | (at_builtin; refine wpList_append_own _ rfl (.tmp 31) (.tmp 32) 38 rfl K 37 i0 (.agg #[.int .i64 0, .slice none 0 0, .slice none 0 0, .int .i64 0]) 4 64 Tryd.underlying38 hi hz0 hz1 hz2 rfl (by decide) u6 S XS rfl HOW.out ⟨rb, ro, none⟩ rm rc rvs rfl HL.out.2.2.2.1 ?a1 HL.out.2.2.2.2.1 ?a3 ?a4 ?a5 ?_))
          case a1 =>
            intro i u hu
            rw [Go.WideShapes.add_plain]
            exact HL.out.2.2.2.2.2 i u hu
          case a3 => unfold maxLen; omega
          case a4 => omega
          case a5 => exact HBW.out.2
          intro v' w3 hown' hgrow _
          have HB3 : Hid (Below K w w3 ∧ K ≤ w3.heap.size) := by
            refine ⟨HBW.out.1.grown hgrow HBW.out.2 (fun k hk => (HOW.out.lt k hk).1), ?_⟩
            have := hgrow.size
            have := HBW.out.2
            omega
          have HO3 : Hid (w3.ownsRow K 37 4 v' (manyA (l.take (j + 1))) (allA (l.take (j + 1)))) := by
            unfold Hid; rw [HE.out, HE2.out]; exact hown'
          clear hown' hgrow
          go_wp2
          go_roundw
          case rel => exact ⟨j + 1, by omega, by go_num, HO3.out, HB3.out.1, HB3.out.2⟩
          case measure => simp [intOf]; omega
        · rw [List.take_of_length_le (by have := HN.out; omega)] at hown
          have HO3 : Hid (wr.ownsRow K 37 4 u6 M (allA l)) := by unfold Hid; rw [HM.out]; exact hown
          have HB3 : Hid (Below K w wr) := hbel
          clear hown hbel
          go_wp2
          go_ret
          refine ⟨_, rfl, ?_, ?_⟩
          · rw [HKe.out]; exact HO3.out
          · rw [HKe.out]; exact HB3.out

end Go.Proofs.YtenmheenieifpabDoor
