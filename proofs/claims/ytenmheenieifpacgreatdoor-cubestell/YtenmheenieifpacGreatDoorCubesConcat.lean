/-
  Proved: what slices.Concat returns, of rows of numbers and of rows of rows, any of them empty: a new row of all, or none; what was in memory is as it was (contracts that the statements lean on). Written by program.
-/
import Derived.Test.YtenmheenieifpacGreatDoorCubesWith
import Derived.Lib.AppendZerosOnto
import Derived.Lib.AppendIntMem
namespace Go.Proofs.YtenmheenieifpacGreatDoor
open Go.ChangeShapes Go.WideShapes Go.ChangeAt Go.RowKit
set_option maxRecDepth 100000

/-- a row among those that are put together. -/
structure RowV where
  o : Option Addr
  m : Nat
  cap : Nat
  vs : List Value
/-- a row lies there, or is empty. -/
def RowV.Lies (w : World) (r : RowV) : Prop := r.vs.length = r.m * 1 ∧ (∀ u ∈ r.vs, u.oneCell' = true) ∧ (r.m = 0 ∨ ∃ b off, r.o = some ⟨b, off, none⟩ ∧ b < w.heap.size ∧ ∀ j u, r.vs[j]? = some u → w.cell? ⟨b, off + j, none⟩ = some u)
theorem RowV.Lies.below {w w' : World} {r : RowV} (h : r.Lies w) (hb : Below w.heap.size w w') : r.Lies w' := by
  obtain ⟨h1, h2, h3⟩ := h
  refine ⟨h1, h2, ?_⟩
  rcases h3 with h3 | ⟨b, off, e, hB, hc⟩
  · exact Or.inl h3
  · exact Or.inr ⟨b, off, e, Nat.lt_of_lt_of_le hB hb.size, fun j u hu => by rw [hb.cell hB]; exact hc j u hu⟩
def manyV (l : List RowV) : Nat := (l.map (·.m)).sum
def allV (l : List RowV) : List Value := (l.map (·.vs)).flatten
theorem manyV_succ (l : List RowV) {k : Nat} {r : RowV} (h : l[k]? = some r) : manyV (l.take (k + 1)) = manyV (l.take k) + r.m := by
  unfold manyV
  rw [List.take_add_one, h]; simp
theorem allV_succ (l : List RowV) {k : Nat} {r : RowV} (h : l[k]? = some r) : allV (l.take (k + 1)) = allV (l.take k) ++ r.vs := by
  unfold allV
  rw [List.take_add_one, h]; simp
theorem manyV_take (l : List RowV) (k : Nat) : manyV (l.take k) ≤ manyV l := by
  have : manyV l = manyV (l.take k) + manyV (l.drop k) := by
    unfold manyV
    rw [← List.sum_append_nat, ← List.map_append, List.take_append_drop]
  omega
/-- nothing put behind a row. -/
theorem run_append_nothing {P : Program} {w : World} {base : Nat} {t ty e : TypeId} {i : TypeInfo} {size : Nat} (ht : P.underlying t = some (.slice e)) (hi : P.info? e = some i)
    {v : Value} {n : Nat} {xs : List Value} (hown : w.ownsRow base e size v n xs) (ao : Option Addr) (cap : Nat) :
    (Builtin.append_ #[t, t] ty #[v, .slice ao 0 cap]).run P w = .ok v w := by
  cases ao with
  | none =>
    rcases hown.2 with ⟨rfl, rfl⟩ | ⟨g, c, cur, rfl, _, _, hnc, _⟩
    · simp [Builtin.append_, run_underlying ht, sizeOf, typeInfo, hi, Builtin.lenOf, Builtin.firstCells]
    · simp [Builtin.append_, run_underlying ht, sizeOf, typeInfo, hi, Builtin.lenOf, Builtin.firstCells, hnc, storeCells]
  | some a =>
    have hf := run_firstCells_some (P := P) w i.size 0 a 0 cap [] (by simp) (by intro j u h; simp at h)
    rcases hown.2 with ⟨rfl, rfl⟩ | ⟨g, c, cur, rfl, _, _, hnc, _⟩
    · simp [Builtin.append_, run_underlying ht, sizeOf, typeInfo, hi, Builtin.lenOf, hf]
    · simp [Builtin.append_, run_underlying ht, sizeOf, typeInfo, hi, Builtin.lenOf, hnc, hf, storeCells]

theorem infoN : (Tryz.prog.info? 3).map (fun i => (i.zero, i.size, i.bytes)) = some (some (.int .i64 0), 1, 8) := by kernel_rfl
set_option maxHeartbeats 2000000 in
/-- slices.Grow of nothing: a new row with room. -/
theorem growV1 (n : Nat) (h1 : n ≤ 200) (w : World) :
    Calls Tryz.prog 83 #[.slice none 0 0, .int .i64 n] w fun e w' => ∃ v, e = .returned v ∧ w'.ownsRow w.heap.size 3 1 v 0 [] ∧ Below w.heap.size w w' := by
  obtain ⟨i0, hi, hz0, hz1, hz2⟩ := info_parts infoN
  rcases Nat.eq_zero_or_pos n with rfl | h0
  · go_enter Tryz.func83, Tryz.ntmps83
    go_wp2
    go_ret
    exact ⟨_, rfl, World.ownsRow_nil _ _ _ _, Below.refl _ _⟩
  have a1 : ¬ ((n : Int) < 0) := by omega
  have a4 : (n : Int) > 0 := by omega
  have hold : (Builtin.firstCells i0.size 0 (.slice none 0 0)).run Tryz.prog w.drew = .ok #[] w.drew := run_firstCells_none w.drew i0.size 0 0 0
  have hrz : ∀ ty, (Builtin.append_ #[23, 3] ty #[.slice none 0 0, .int .i64 n]).run Tryz.prog w =
      .ok (.slice (some ⟨w.heap.size, 0, none⟩) n (grownCap w n 0 3)) (w.drew.alloc (.cells (#[] ++ Builtin.zeroCells (Value.cells (.int .i64 0)) n ++ Builtin.zeroCells (Value.cells (.int .i64 0)) (grownCap w n 0 3 - n)) 3)) := fun ty => by
    have h := Lib.run_append_grow_zeros w 23 3 ty 3 i0 (.int .i64 0) .i64 .i64 Tryz.underlying23 Tryz.underlying3 hi hz0 none 0 0 [] hold n h0 (by omega) (by omega) (by omega) (by rw [hz2]; omega) (by rw [Nat.zero_add, hz2]; exact growslice_fits (by omega) (by omega))
    rw [Nat.zero_add] at h
    exact h
  have hGn : n ≤ grownCap w n 0 3 := grownCap_ge w _ _ _
  have hG63 : grownCap w n 0 3 ≤ maxLen := grownCap_le_maxLen w n 0 3 (by unfold maxLen; omega)
  obtain ⟨G, hG⟩ : ∃ G, G = grownCap w n 0 3 := ⟨_, rfl⟩
  rw [← hG] at hrz hGn hG63
  have HE : Hid (∃ w', w' = w.drew.alloc (.cells (#[] ++ Builtin.zeroCells (Value.cells (.int .i64 0)) n ++ Builtin.zeroCells (Value.cells (.int .i64 0)) (G - n)) 3) ∧ w'.ownsRow w.heap.size 3 1 (.slice (some ⟨w.heap.size, 0, none⟩) 0 G) 0 [] ∧ Below w.heap.size w w') := by
    refine ⟨_, rfl, ?_, ?_⟩
    · refine ⟨by simp, .inr ⟨w.heap.size, G, _, rfl, Nat.le_refl _, heap_alloc_new w.drew _, Nat.zero_le _, hG63, ?_, by simp⟩⟩
      simp [Builtin.zeroCells, Value.cells]
      omega
    · exact ((Below.refl _ w).drew).trans (below_alloc1 w.drew _)
  have hG63' : G ≤ 9223372036854775807 := by unfold maxLen at hG63; omega
  clear hold hG hG63
  obtain ⟨w', hw', HE⟩ := HE.out
  rw [← hw'] at hrz
  have HE' : Hid (w'.ownsRow w.heap.size 3 1 (.slice (some ⟨w.heap.size, 0, none⟩) 0 G) 0 [] ∧ Below w.heap.size w w') := HE
  clear hw' HE
  go_enter Tryz.func83, Tryz.ntmps83
  go_wp2_with (at_builtin; refine Lib.wpList_append_run _ rfl _ _ _ _ rfl _ _ rfl rfl _ _ (hrz _) ?_)
  go_ret
  exact ⟨_, rfl, HE'.out⟩

set_option maxHeartbeats 4000000 in
/-- slices.Concat: a new row of all. -/
theorem concatV1 (l : List RowV) (A lcap : Nat) (w : World) (hl : l.length ≤ 4) (hA : A < w.heap.size) (hc : ∀ k r, l[k]? = some r → w.cell? ⟨A, k, none⟩ = some (.slice r.o r.m r.cap)) (hr : ∀ r ∈ l, r.Lies w) (h1 : manyV l ≤ 200) :
    Calls Tryz.prog 69 #[.slice (some ⟨A, 0, none⟩) l.length lcap] w fun e w' => ∃ v, e = .returned v ∧ w'.ownsRow w.heap.size 3 1 v (manyV l) (allV l) ∧ Below w.heap.size w w' := by
  obtain ⟨i0, hi, hz0, hz1, hz2⟩ := info_parts infoN
  obtain ⟨N, hN⟩ : ∃ N, N = l.length := ⟨_, rfl⟩
  rw [← hN] at hl ⊢
  have HN : Hid (N = l.length) := hN
  clear hN
  have HC : Hid (∀ W, Below w.heap.size w W → ∀ k r, l[k]? = some r → W.cell? ⟨A, k, none⟩ = some (.slice r.o r.m r.cap)) := fun W hW k r h => by rw [hW.cell (show (⟨A, k, none⟩ : Addr).block < _ from hA)]; exact hc k r h
  have HR : Hid (∀ W, Below w.heap.size w W → ∀ (k : Nat) (r : RowV), l[k]? = some r → r.Lies W) := fun W hW k r h => (hr r (List.mem_of_getElem? h)).below hW
  have HS : Hid (∀ k, manyV (l.take k) ≤ 200) := fun k => Nat.le_trans (manyV_take l k) h1
  have HG : Hid (∀ W, Calls Tryz.prog 83 #[.slice none 0 0, .int .i64 (manyV l)] W fun e w' => ∃ v, e = .returned v ∧ w'.ownsRow W.heap.size 3 1 v 0 [] ∧ Below W.heap.size W w') := fun W => growV1 _ h1 W
  obtain ⟨M, hM⟩ : ∃ M, M = manyV l := ⟨_, rfl⟩
  rw [← hM] at HG ⊢
  have HM : Hid (M = manyV l) := hM
  clear hM hc hr h1 hA
  go_enter Tryz.func69, Tryz.ntmps69
  go_wp2_with fail
  go_loop [3, 5, 11] (fun c _ i => ∃ k : Nat, k ≤ N ∧ i = .int .i64 k ∧ c = .int .i64 (manyV (l.take k))) (fun _ _ i => N - (intOf i).toNat)
  case atStart => exact ⟨0, Nat.zero_le _, rfl, rfl⟩
  case round =>
    obtain ⟨k, hk, rfl, rfl⟩ := hrel
    by_cases hlt : k < N
    · obtain ⟨r, hr⟩ : ∃ r, l[k]? = some r := ⟨_, List.getElem?_eq_getElem (by have := HN.out; omega)⟩
      have hcell := HC.out w (Below.refl _ _) k r hr
      have HE : Hid (manyV (l.take (k + 1)) = manyV (l.take k) + r.m) := manyV_succ l hr
      have hs1 := HS.out (k + 1)
      rw [HE.out] at hs1
      obtain ⟨S, hS⟩ : ∃ S, S = manyV (l.take k) := ⟨_, rfl⟩
      rw [← hS] at HE hs1 ⊢
      clear hS hr
      obtain ⟨ro, rm, rc, rvs⟩ := r
      simp only at hcell HE hs1
      have q : ¬ ((S : Int) + (rm : Int) < 0) := by omega
      go_wp2
      go_round
      case rel => exact ⟨k + 1, by omega, by go_num, by rw [HE.out]; go_num⟩
      case measure => simp [intOf]; omega
    · have HE : Hid (manyV (l.take k) = M) := by unfold Hid; rw [List.take_of_length_le (by have := HN.out; omega), HM.out]
      rw [HE.out]
      go_wp2_with fail
      go_at_call 83
      refine (HG.out _).mono ?_
      rintro e w2 ⟨v2, rfl, hown, hb⟩
      obtain ⟨K, hK⟩ : ∃ K, K = w.heap.size := ⟨_, rfl⟩
      rw [← hK] at hown hb HC HR
      have HB2 : Hid (Below K w w2 ∧ K ≤ w2.heap.size) := ⟨hb, by have := hb.size; omega⟩
      have HO2 : Hid (w2.ownsRow K 3 1 v2 0 []) := hown
      have HKe : Hid (w.heap.size = K) := hK.symm
      clear hb hown hK
      go_wp2_with fail
      go_loopw [6, 8, 27] (fun v _ i wr => ∃ k : Nat, k ≤ N ∧ i = .int .i64 k ∧ wr.ownsRow K 3 1 v (manyV (l.take k)) (allV (l.take k)) ∧ Below K w wr ∧ K ≤ wr.heap.size) (fun _ _ i _ => N - (intOf i).toNat)
      case atStart => exact ⟨0, Nat.zero_le _, rfl, HO2.out, HB2.out.1, HB2.out.2⟩
      case round =>
        obtain ⟨j, hj, rfl, hown, hbel, hKw⟩ := hrel
        by_cases hjl : j < N
        · obtain ⟨r, hr⟩ : ∃ r, l[j]? = some r := ⟨_, List.getElem?_eq_getElem (by have := HN.out; omega)⟩
          have hcell := HC.out wr hbel j r hr
          have HL : Hid (r.Lies wr) := HR.out wr hbel j r hr
          have HE : Hid (manyV (l.take (j + 1)) = manyV (l.take j) + r.m) := manyV_succ l hr
          have HE2 : Hid (allV (l.take (j + 1)) = allV (l.take j) ++ r.vs) := allV_succ l hr
          have hs1 := HS.out (j + 1)
          rw [HE.out] at hs1
          obtain ⟨S, hS⟩ : ∃ S, S = manyV (l.take j) := ⟨_, rfl⟩
          obtain ⟨XS, hXS⟩ : ∃ XS, XS = allV (l.take j) := ⟨_, rfl⟩
          rw [← hS] at HE hs1 hown
          rw [← hXS] at HE2 hown
          clear hS hXS hr
          obtain ⟨ro, rm, rc, rvs⟩ := r
          simp only at hcell HE HE2 hs1
          have HOW : Hid (wr.ownsRow K 3 1 u6 S XS) := hown
          have HBW : Hid (Below K w wr ∧ K ≤ wr.heap.size) := ⟨hbel, hKw⟩
          clear hown hbel hKw
          rcases Nat.eq_zero_or_pos rm with hz | hrm
          · subst hz
            have hvs : rvs = [] := List.eq_nil_of_length_eq_zero (by have := HL.out.1; simpa using this)
            have HO3 : Hid (wr.ownsRow K 3 1 u6 (manyV (l.take (j + 1))) (allV (l.take (j + 1)))) := by
              unfold Hid; rw [HE.out, HE2.out, hvs, List.append_nil, Nat.add_zero]; exact HOW.out
            have hrun : ∀ ty, (Builtin.append_ #[23, 23] ty #[u6, .slice ro 0 rc]).run Tryz.prog wr = .ok u6 wr := fun ty => run_append_nothing Tryz.underlying23 hi HOW.out ro rc
            clear hvs
            go_wp2_with (first | (at_builtin; refine Lib.wpList_append_run _ rfl _ _ _ _ rfl _ _ rfl rfl _ _ (hrun _) ?_))
            go_roundw
            case rel => exact ⟨j + 1, by omega, by go_num, HO3.out, HBW.out.1, HBW.out.2⟩
            case measure => simp [intOf]; omega
          · obtain ⟨rb, roff, rfl, hB, hcs⟩ : ∃ b off, ro = some ⟨b, off, none⟩ ∧ b < wr.heap.size ∧ ∀ j u, rvs[j]? = some u → wr.cell? ⟨b, off + j, none⟩ = some u := HL.out.2.2.resolve_left (by show ¬ rm = 0; omega)
            have HCs : Hid (∀ j u, rvs[j]? = some u → wr.cell? ⟨rb, roff + j, none⟩ = some u) := hcs
            clear hcs
            go_wp2_with (first | (at_builtin; refine wpList_append_own _ rfl (.tmp 31) (.tmp 32) 23 rfl K 3 i0 (.int .i64 0) 1 8 Tryz.underlying23 hi hz0 hz1 hz2 rfl (by decide) u6 S XS rfl HOW.out ⟨rb, roff, none⟩ rm rc rvs rfl HL.out.1 ?a1 HL.out.2.1 ?a3 ?a4 ?a5 ?_))
            case a1 =>
              intro i u hu
              rw [Go.WideShapes.add_plain]
              exact HCs.out i u hu
            case a3 => unfold maxLen; omega
            case a4 => omega
            case a5 => exact HBW.out.2
            intro v' w3 hown' hgrow _
            have HB3 : Hid (Below K w w3 ∧ K ≤ w3.heap.size) := by
              refine ⟨HBW.out.1.grown hgrow HBW.out.2 (fun k hk => (HOW.out.lt k hk).1), ?_⟩
              have := hgrow.size
              have := HBW.out.2
              omega
            have HO3 : Hid (w3.ownsRow K 3 1 v' (manyV (l.take (j + 1))) (allV (l.take (j + 1)))) := by
              unfold Hid; rw [HE.out, HE2.out]; exact hown'
            clear hown' hgrow
            go_wp2
            go_roundw
            case rel => exact ⟨j + 1, by omega, by go_num, HO3.out, HB3.out.1, HB3.out.2⟩
            case measure => simp [intOf]; omega
        · rw [List.take_of_length_le (by have := HN.out; omega)] at hown
          have HO3 : Hid (wr.ownsRow K 3 1 u6 M (allV l)) := by unfold Hid; rw [HM.out]; exact hown
          have HB3 : Hid (Below K w wr) := hbel
          clear hown hbel
          go_wp2
          go_ret
          refine ⟨_, rfl, ?_, ?_⟩
          · rw [HKe.out]; exact HO3.out
          · rw [HKe.out]; exact HB3.out

set_option maxHeartbeats 2000000 in
/-- slices.Grow of nothing: a new row with room. -/
theorem growV2 (n : Nat) (h1 : n ≤ 200) (w : World) :
    Calls Tryz.prog 74 #[.slice none 0 0, .int .i64 n] w fun e w' => ∃ v, e = .returned v ∧ w'.ownsRow w.heap.size 23 1 v 0 [] ∧ Below w.heap.size w w' := by
  obtain ⟨i0, hi, hz0, hz1, hz2⟩ := info_parts infoS
  rcases Nat.eq_zero_or_pos n with rfl | h0
  · go_enter Tryz.func74, Tryz.ntmps74
    go_wp2
    go_ret
    exact ⟨_, rfl, World.ownsRow_nil _ _ _ _, Below.refl _ _⟩
  have a1 : ¬ ((n : Int) < 0) := by omega
  have a4 : (n : Int) > 0 := by omega
  have hold : (Builtin.firstCells i0.size 0 (.slice none 0 0)).run Tryz.prog w.drew = .ok #[] w.drew := run_firstCells_none w.drew i0.size 0 0 0
  have hrz : ∀ ty, (Builtin.append_ #[26, 3] ty #[.slice none 0 0, .int .i64 n]).run Tryz.prog w =
      .ok (.slice (some ⟨w.heap.size, 0, none⟩) n (grownCap w n 0 23)) (w.drew.alloc (.cells (#[] ++ Builtin.zeroCells (Value.cells (.slice none 0 0)) n ++ Builtin.zeroCells (Value.cells (.slice none 0 0)) (grownCap w n 0 23 - n)) 23)) := fun ty => by
    have h := Lib.run_append_grow_zeros w 26 3 ty 23 i0 (.slice none 0 0) .i64 .i64 Tryz.underlying26 Tryz.underlying3 hi hz0 none 0 0 [] hold n h0 (by omega) (by omega) (by omega) (by rw [hz2]; omega) (by rw [Nat.zero_add, hz2]; exact growslice_fits (by omega) (by omega))
    rw [Nat.zero_add] at h
    exact h
  have hGn : n ≤ grownCap w n 0 23 := grownCap_ge w _ _ _
  have hG63 : grownCap w n 0 23 ≤ maxLen := grownCap_le_maxLen w n 0 23 (by unfold maxLen; omega)
  obtain ⟨G, hG⟩ : ∃ G, G = grownCap w n 0 23 := ⟨_, rfl⟩
  rw [← hG] at hrz hGn hG63
  have HE : Hid (∃ w', w' = w.drew.alloc (.cells (#[] ++ Builtin.zeroCells (Value.cells (.slice none 0 0)) n ++ Builtin.zeroCells (Value.cells (.slice none 0 0)) (G - n)) 23) ∧ w'.ownsRow w.heap.size 23 1 (.slice (some ⟨w.heap.size, 0, none⟩) 0 G) 0 [] ∧ Below w.heap.size w w') := by
    refine ⟨_, rfl, ?_, ?_⟩
    · refine ⟨by simp, .inr ⟨w.heap.size, G, _, rfl, Nat.le_refl _, heap_alloc_new w.drew _, Nat.zero_le _, hG63, ?_, by simp⟩⟩
      simp [Builtin.zeroCells, Value.cells]
      omega
    · exact ((Below.refl _ w).drew).trans (below_alloc1 w.drew _)
  have hG63' : G ≤ 9223372036854775807 := by unfold maxLen at hG63; omega
  clear hold hG hG63
  obtain ⟨w', hw', HE⟩ := HE.out
  rw [← hw'] at hrz
  have HE' : Hid (w'.ownsRow w.heap.size 23 1 (.slice (some ⟨w.heap.size, 0, none⟩) 0 G) 0 [] ∧ Below w.heap.size w w') := HE
  clear hw' HE
  go_enter Tryz.func74, Tryz.ntmps74
  go_wp2_with (at_builtin; refine Lib.wpList_append_run _ rfl _ _ _ _ rfl _ _ rfl rfl _ _ (hrz _) ?_)
  go_ret
  exact ⟨_, rfl, HE'.out⟩

set_option maxHeartbeats 4000000 in
/-- slices.Concat: a new row of all. -/
theorem concatV2 (l : List RowV) (A lcap : Nat) (w : World) (hl : l.length ≤ 4) (hA : A < w.heap.size) (hc : ∀ k r, l[k]? = some r → w.cell? ⟨A, k, none⟩ = some (.slice r.o r.m r.cap)) (hr : ∀ r ∈ l, r.Lies w) (h1 : manyV l ≤ 200) :
    Calls Tryz.prog 54 #[.slice (some ⟨A, 0, none⟩) l.length lcap] w fun e w' => ∃ v, e = .returned v ∧ w'.ownsRow w.heap.size 23 1 v (manyV l) (allV l) ∧ Below w.heap.size w w' := by
  obtain ⟨i0, hi, hz0, hz1, hz2⟩ := info_parts infoS
  obtain ⟨N, hN⟩ : ∃ N, N = l.length := ⟨_, rfl⟩
  rw [← hN] at hl ⊢
  have HN : Hid (N = l.length) := hN
  clear hN
  have HC : Hid (∀ W, Below w.heap.size w W → ∀ k r, l[k]? = some r → W.cell? ⟨A, k, none⟩ = some (.slice r.o r.m r.cap)) := fun W hW k r h => by rw [hW.cell (show (⟨A, k, none⟩ : Addr).block < _ from hA)]; exact hc k r h
  have HR : Hid (∀ W, Below w.heap.size w W → ∀ (k : Nat) (r : RowV), l[k]? = some r → r.Lies W) := fun W hW k r h => (hr r (List.mem_of_getElem? h)).below hW
  have HS : Hid (∀ k, manyV (l.take k) ≤ 200) := fun k => Nat.le_trans (manyV_take l k) h1
  have HG : Hid (∀ W, Calls Tryz.prog 74 #[.slice none 0 0, .int .i64 (manyV l)] W fun e w' => ∃ v, e = .returned v ∧ w'.ownsRow W.heap.size 23 1 v 0 [] ∧ Below W.heap.size W w') := fun W => growV2 _ h1 W
  obtain ⟨M, hM⟩ : ∃ M, M = manyV l := ⟨_, rfl⟩
  rw [← hM] at HG ⊢
  have HM : Hid (M = manyV l) := hM
  clear hM hc hr h1 hA
  go_enter Tryz.func54, Tryz.ntmps54
  go_wp2_with fail
  go_loop [3, 5, 11] (fun c _ i => ∃ k : Nat, k ≤ N ∧ i = .int .i64 k ∧ c = .int .i64 (manyV (l.take k))) (fun _ _ i => N - (intOf i).toNat)
  case atStart => exact ⟨0, Nat.zero_le _, rfl, rfl⟩
  case round =>
    obtain ⟨k, hk, rfl, rfl⟩ := hrel
    by_cases hlt : k < N
    · obtain ⟨r, hr⟩ : ∃ r, l[k]? = some r := ⟨_, List.getElem?_eq_getElem (by have := HN.out; omega)⟩
      have hcell := HC.out w (Below.refl _ _) k r hr
      have HE : Hid (manyV (l.take (k + 1)) = manyV (l.take k) + r.m) := manyV_succ l hr
      have hs1 := HS.out (k + 1)
      rw [HE.out] at hs1
      obtain ⟨S, hS⟩ : ∃ S, S = manyV (l.take k) := ⟨_, rfl⟩
      rw [← hS] at HE hs1 ⊢
      clear hS hr
      obtain ⟨ro, rm, rc, rvs⟩ := r
      simp only at hcell HE hs1
      have q : ¬ ((S : Int) + (rm : Int) < 0) := by omega
      go_wp2
      go_round
      case rel => exact ⟨k + 1, by omega, by go_num, by rw [HE.out]; go_num⟩
      case measure => simp [intOf]; omega
    · have HE : Hid (manyV (l.take k) = M) := by unfold Hid; rw [List.take_of_length_le (by have := HN.out; omega), HM.out]
      rw [HE.out]
      go_wp2_with fail
      go_at_call 74
      refine (HG.out _).mono ?_
      rintro e w2 ⟨v2, rfl, hown, hb⟩
      obtain ⟨K, hK⟩ : ∃ K, K = w.heap.size := ⟨_, rfl⟩
      rw [← hK] at hown hb HC HR
      have HB2 : Hid (Below K w w2 ∧ K ≤ w2.heap.size) := ⟨hb, by have := hb.size; omega⟩
      have HO2 : Hid (w2.ownsRow K 23 1 v2 0 []) := hown
      have HKe : Hid (w.heap.size = K) := hK.symm
      clear hb hown hK
      go_wp2_with fail
      go_loopw [6, 8, 27] (fun v _ i wr => ∃ k : Nat, k ≤ N ∧ i = .int .i64 k ∧ wr.ownsRow K 23 1 v (manyV (l.take k)) (allV (l.take k)) ∧ Below K w wr ∧ K ≤ wr.heap.size) (fun _ _ i _ => N - (intOf i).toNat)
      case atStart => exact ⟨0, Nat.zero_le _, rfl, HO2.out, HB2.out.1, HB2.out.2⟩
      case round =>
        obtain ⟨j, hj, rfl, hown, hbel, hKw⟩ := hrel
        by_cases hjl : j < N
        · obtain ⟨r, hr⟩ : ∃ r, l[j]? = some r := ⟨_, List.getElem?_eq_getElem (by have := HN.out; omega)⟩
          have hcell := HC.out wr hbel j r hr
          have HL : Hid (r.Lies wr) := HR.out wr hbel j r hr
          have HE : Hid (manyV (l.take (j + 1)) = manyV (l.take j) + r.m) := manyV_succ l hr
          have HE2 : Hid (allV (l.take (j + 1)) = allV (l.take j) ++ r.vs) := allV_succ l hr
          have hs1 := HS.out (j + 1)
          rw [HE.out] at hs1
          obtain ⟨S, hS⟩ : ∃ S, S = manyV (l.take j) := ⟨_, rfl⟩
          obtain ⟨XS, hXS⟩ : ∃ XS, XS = allV (l.take j) := ⟨_, rfl⟩
          rw [← hS] at HE hs1 hown
          rw [← hXS] at HE2 hown
          clear hS hXS hr
          obtain ⟨ro, rm, rc, rvs⟩ := r
          simp only at hcell HE HE2 hs1
          have HOW : Hid (wr.ownsRow K 23 1 u6 S XS) := hown
          have HBW : Hid (Below K w wr ∧ K ≤ wr.heap.size) := ⟨hbel, hKw⟩
          clear hown hbel hKw
          rcases Nat.eq_zero_or_pos rm with hz | hrm
          · subst hz
            have hvs : rvs = [] := List.eq_nil_of_length_eq_zero (by have := HL.out.1; simpa using this)
            have HO3 : Hid (wr.ownsRow K 23 1 u6 (manyV (l.take (j + 1))) (allV (l.take (j + 1)))) := by
              unfold Hid; rw [HE.out, HE2.out, hvs, List.append_nil, Nat.add_zero]; exact HOW.out
            have hrun : ∀ ty, (Builtin.append_ #[26, 26] ty #[u6, .slice ro 0 rc]).run Tryz.prog wr = .ok u6 wr := fun ty => run_append_nothing Tryz.underlying26 hi HOW.out ro rc
            clear hvs
            go_wp2_with (first | (at_builtin; refine Lib.wpList_append_run _ rfl _ _ _ _ rfl _ _ rfl rfl _ _ (hrun _) ?_))
            go_roundw
            case rel => exact ⟨j + 1, by omega, by go_num, HO3.out, HBW.out.1, HBW.out.2⟩
            case measure => simp [intOf]; omega
          · obtain ⟨rb, roff, rfl, hB, hcs⟩ : ∃ b off, ro = some ⟨b, off, none⟩ ∧ b < wr.heap.size ∧ ∀ j u, rvs[j]? = some u → wr.cell? ⟨b, off + j, none⟩ = some u := HL.out.2.2.resolve_left (by show ¬ rm = 0; omega)
            have HCs : Hid (∀ j u, rvs[j]? = some u → wr.cell? ⟨rb, roff + j, none⟩ = some u) := hcs
            clear hcs
            go_wp2_with (first | (at_builtin; refine wpList_append_own _ rfl (.tmp 31) (.tmp 32) 26 rfl K 23 i0 (.slice none 0 0) 1 24 Tryz.underlying26 hi hz0 hz1 hz2 rfl (by decide) u6 S XS rfl HOW.out ⟨rb, roff, none⟩ rm rc rvs rfl HL.out.1 ?a1 HL.out.2.1 ?a3 ?a4 ?a5 ?_))
            case a1 =>
              intro i u hu
              rw [Go.WideShapes.add_plain]
              exact HCs.out i u hu
            case a3 => unfold maxLen; omega
            case a4 => omega
            case a5 => exact HBW.out.2
            intro v' w3 hown' hgrow _
            have HB3 : Hid (Below K w w3 ∧ K ≤ w3.heap.size) := by
              refine ⟨HBW.out.1.grown hgrow HBW.out.2 (fun k hk => (HOW.out.lt k hk).1), ?_⟩
              have := hgrow.size
              have := HBW.out.2
              omega
            have HO3 : Hid (w3.ownsRow K 23 1 v' (manyV (l.take (j + 1))) (allV (l.take (j + 1)))) := by
              unfold Hid; rw [HE.out, HE2.out]; exact hown'
            clear hown' hgrow
            go_wp2
            go_roundw
            case rel => exact ⟨j + 1, by omega, by go_num, HO3.out, HB3.out.1, HB3.out.2⟩
            case measure => simp [intOf]; omega
        · rw [List.take_of_length_le (by have := HN.out; omega)] at hown
          have HO3 : Hid (wr.ownsRow K 23 1 u6 M (allV l)) := by unfold Hid; rw [HM.out]; exact hown
          have HB3 : Hid (Below K w wr) := hbel
          clear hown hbel
          go_wp2
          go_ret
          refine ⟨_, rfl, ?_, ?_⟩
          · rw [HKe.out]; exact HO3.out
          · rw [HKe.out]; exact HB3.out

end Go.Proofs.YtenmheenieifpacGreatDoor
