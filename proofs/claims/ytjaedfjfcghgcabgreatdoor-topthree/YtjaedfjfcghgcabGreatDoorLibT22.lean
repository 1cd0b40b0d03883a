/-
  Proved: what slices.Concat returns, of rows of numbers and of rows of rows, any of them empty: a new row of all, or none; what was in memory is as it was (contracts that the statements lean on). Written by program.
  Proved: what the order of members returns (the function that cubes.joined hands to slices.SortFunc), and what is left of memory behind a sort (facts that the contracts on cubes lean on).
  Proved: what cubes.joined returns: the members of two cubes, by atoms, each once, in a new row; what was in memory is as it was (a contract that the statements lean on).
-/
import Derived.Test.YtjaedfjfcghgcabGreatDoorLibT21
import Derived.Lib.AppendZerosOnto
import Derived.Lib.AppendIntMem
import Derived.Test.YtjaedfjfcghgcabGreatDoorShelf2
import Derived.Lib.RowBridge
namespace Go.Proofs.YtjaedfjfcghgcabGreatDoor
open Go.ChangeShapes Go.WideShapes Go.ChangeAt Go.RowKit
set_option maxRecDepth 100000

/-- a row among those that are put together. -/
structure RowV where
  o : Option Addr
  m : Nat
  cap : Nat
  vs : List Value
/-- a row lies there, or is empty. -/
def RowV.Lies (w : World) (r : RowV) : Prop := r.vs.length = r.m * 1 ∧ (∀ u ∈ r.vs, u.oneCell' = true) ∧ (r.m = 0 ∨ ∃ b off, r.o = some ⟨b, off, none⟩ ∧ b < w.heap.size ∧ ∀ j u, r.vs[j]? = some u → w.cell? ⟨b, off + j, none⟩ = some u)
theorem RowV.Lies.below {w w' : World} {r : RowV} (h : r.Lies w) (hb : Below w.heap.size w w') : r.Lies w' := by
  obtain ⟨h1, h2, h3⟩ := h
  refine ⟨h1, h2, ?_⟩
  rcases h3 with h3 | ⟨b, off, e, hB, hc⟩
  · exact Or.inl h3
  · exact Or.inr ⟨b, off, e, Nat.lt_of_lt_of_le hB hb.size, fun j u hu => by rw [hb.cell hB]; exact hc j u hu⟩
def manyV (l : List RowV) : Nat := (l.map (·.m)).sum
def allV (l : List RowV) : List Value := (l.map (·.vs)).flatten
theorem manyV_succ (l : List RowV) {k : Nat} {r : RowV} (h : l[k]? = some r) : manyV (l.take (k + 1)) = manyV (l.take k) + r.m := by
  unfold manyV
  rw [List.take_add_one, h]; simp
theorem allV_succ (l : List RowV) {k : Nat} {r : RowV} (h : l[k]? = some r) : allV (l.take (k + 1)) = allV (l.take k) ++ r.vs := by
  unfold allV
  rw [List.take_add_one, h]; simp
theorem manyV_take (l : List RowV) (k : Nat) : manyV (l.take k) ≤ manyV l := by
  have : manyV l = manyV (l.take k) + manyV (l.drop k) := by
    unfold manyV
    rw [← List.sum_append_nat, ← List.map_append, List.take_append_drop]
  omega
/-- nothing put behind a row. -/
theorem run_append_nothing {P : Program} {w : World} {base : Nat} {t ty e : TypeId} {i : TypeInfo} {size : Nat} (ht : P.underlying t = some (.slice e)) (hi : P.info? e = some i)
    {v : Value} {n : Nat} {xs : List Value} (hown : w.ownsRow base e size v n xs) (ao : Option Addr) (cap : Nat) :
    (Builtin.append_ #[t, t] ty #[v, .slice ao 0 cap]).run P w = .ok v w := by
  cases ao with
  | none =>
    rcases hown.2 with ⟨rfl, rfl⟩ | ⟨g, c, cur, rfl, _, _, hnc, _⟩
    · simp [Builtin.append_, run_underlying ht, sizeOf, typeInfo, hi, Builtin.lenOf, Builtin.firstCells]
    · simp [Builtin.append_, run_underlying ht, sizeOf, typeInfo, hi, Builtin.lenOf, Builtin.firstCells, hnc, storeCells]
  | some a =>
    have hf := run_firstCells_some (P := P) w i.size 0 a 0 cap [] (by simp) (by intro j u h; simp at h)
    rcases hown.2 with ⟨rfl, rfl⟩ | ⟨g, c, cur, rfl, _, _, hnc, _⟩
    · simp [Builtin.append_, run_underlying ht, sizeOf, typeInfo, hi, Builtin.lenOf, hf]
    · simp [Builtin.append_, run_underlying ht, sizeOf, typeInfo, hi, Builtin.lenOf, hnc, hf, storeCells]

theorem infoN : (Tryz.prog.info? 3).map (fun i => (i.zero, i.size, i.bytes)) = some (some (.int .i64 0), 1, 8) := by kernel_rfl
set_option maxHeartbeats 2000000 in
/-- slices.Grow of nothing: a new row with room. -/
theorem growV1 (n : Nat) (h1 : n ≤ 200) (w : World) :
    Calls Tryz.prog 162 #[.slice none 0 0, .int .i64 n] w fun e w' => ∃ v, e = .returned v ∧ w'.ownsRow w.heap.size 3 1 v 0 [] ∧ Below w.heap.size w w' := by
  obtain ⟨i0, hi, hz0, hz1, hz2⟩ := info_parts infoN
  rcases Nat.eq_zero_or_pos n with rfl | h0
  · go_enter Tryz.func162, Tryz.ntmps162
    go_wp2
    go_ret
    exact ⟨_, rfl, World.ownsRow_nil _ _ _ _, Below.refl _ _⟩
  have a1 : ¬ ((n : Int) < 0) := by omega
  have a4 : (n : Int) > 0 := by omega
  have hold : (Builtin.firstCells i0.size 0 (.slice none 0 0)).run Tryz.prog w.drew = .ok #[] w.drew := run_firstCells_none w.drew i0.size 0 0 0
  have hrz : ∀ ty, (Builtin.append_ #[23, 3] ty #[.slice none 0 0, .int .i64 n]).run Tryz.prog w =
      .ok (.slice (some ⟨w.heap.size, 0, none⟩) n (grownCap w n 0 3)) (w.drew.alloc (.cells (#[] ++ Builtin.zeroCells (Value.cells (.int .i64 0)) n ++ Builtin.zeroCells (Value.cells (.int .i64 0)) (grownCap w n 0 3 - n)) 3)) := fun ty => by
    have h := Lib.run_append_grow_zeros w 23 3 ty 3 i0 (.int .i64 0) .i64 .i64 Tryz.underlying23 Tryz.underlying3 hi hz0 none 0 0 [] hold n h0 (by omega) (by omega) (by omega) (by rw [hz2]; omega) (by rw [Nat.zero_add, hz2]; exact growslice_fits (by omega) (by omega))
    rw [Nat.zero_add] at h
    exact h
  have hGn : n ≤ grownCap w n 0 3 := grownCap_ge w _ _ _
  have hG63 : grownCap w n 0 3 ≤ maxLen := grownCap_le_maxLen w n 0 3 (by unfold maxLen; omega)
  obtain ⟨G, hG⟩ : ∃ G, G = grownCap w n 0 3 := ⟨_, rfl⟩
  rw [← hG] at hrz hGn hG63
  have HE : Hid (∃ w', w' = w.drew.alloc (.cells (#[] ++ Builtin.zeroCells (Value.cells (.int .i64 0)) n ++ Builtin.zeroCells (Value.cells (.int .i64 0)) (G - n)) 3) ∧ w'.ownsRow w.heap.size 3 1 (.slice (some ⟨w.heap.size, 0, none⟩) 0 G) 0 [] ∧ Below w.heap.size w w') := by
    refine ⟨_, rfl, ?_, ?_⟩
    · refine ⟨by simp, .inr ⟨w.heap.size, G, _, rfl, Nat.le_refl _, heap_alloc_new w.drew _, Nat.zero_le _, hG63, ?_, by simp⟩⟩
      simp [Builtin.zeroCells, Value.cells]
      omega
    · exact ((Below.refl _ w).drew).trans (below_alloc1 w.drew _)
  have hG63' : G ≤ 9223372036854775807 := by unfold maxLen at hG63; omega
  clear hold hG hG63
  obtain ⟨w', hw', HE⟩ := HE.out
  rw [← hw'] at hrz
  have HE' : Hid (w'.ownsRow w.heap.size 3 1 (.slice (some ⟨w.heap.size, 0, none⟩) 0 G) 0 [] ∧ Below w.heap.size w w') := HE
  clear hw' HE
  go_enter Tryz.func162, Tryz.ntmps162
  go_wp2_with (at_builtin; refine Lib.wpList_append_run _ rfl _ _ _ _ rfl _ _ rfl rfl _ _ (hrz _) ?_)
  go_ret
  exact ⟨_, rfl, HE'.out⟩

set_option maxHeartbeats 4000000 in
/-- slices.Concat: a new row of all. -/
theorem concatV1 (l : List RowV) (A lcap : Nat) (w : World) (hl : l.length ≤ 4) (hA : A < w.heap.size) (hc : ∀ k r, l[k]? = some r → w.cell? ⟨A, k, none⟩ = some (.slice r.o r.m r.cap)) (hr : ∀ r ∈ l, r.Lies w) (h1 : manyV l ≤ 200) :
    Calls Tryz.prog 138 #[.slice (some ⟨A, 0, none⟩) l.length lcap] w fun e w' => ∃ v, e = .returned v ∧ w'.ownsRow w.heap.size 3 1 v (manyV l) (allV l) ∧ Below w.heap.size w w' := by
  obtain ⟨i0, hi, hz0, hz1, hz2⟩ := info_parts infoN
  obtain ⟨N, hN⟩ : ∃ N, N = l.length := ⟨_, rfl⟩
  rw [← hN] at hl ⊢
  have HN : Hid (N = l.length) := hN
  clear hN
  have HC : Hid (∀ W, Below w.heap.size w W → ∀ k r, l[k]? = some r → W.cell? ⟨A, k, none⟩ = some (.slice r.o r.m r.cap)) := fun W hW k r h => by rw [hW.cell (show (⟨A, k, none⟩ : Addr).block < _ from hA)]; exact hc k r h
  have HR : Hid (∀ W, Below w.heap.size w W → ∀ (k : Nat) (r : RowV), l[k]? = some r → r.Lies W) := fun W hW k r h => (hr r (List.mem_of_getElem? h)).below hW
  have HS : Hid (∀ k, manyV (l.take k) ≤ 200) := fun k => Nat.le_trans (manyV_take l k) h1
  have HG : Hid (∀ W, Calls Tryz.prog 162 #[.slice none 0 0, .int .i64 (manyV l)] W fun e w' => ∃ v, e = .returned v ∧ w'.ownsRow W.heap.size 3 1 v 0 [] ∧ Below W.heap.size W w') := fun W => growV1 _ h1 W
  obtain ⟨M, hM⟩ : ∃ M, M = manyV l := ⟨_, rfl⟩
  rw [← hM] at HG ⊢
  have HM : Hid (M = manyV l) := hM
  clear hM hc hr h1 hA
  go_enter Tryz.func138, Tryz.ntmps138
  go_wp2_with fail
  go_loop [3, 5, 11] (fun c _ i => ∃ k : Nat, k ≤ N ∧ i = .int .i64 k ∧ c = .int .i64 (manyV (l.take k))) (fun _ _ i => N - (intOf i).toNat)
  case atStart => exact ⟨0, Nat.zero_le _, rfl, rfl⟩
  case round =>
    obtain ⟨k, hk, rfl, rfl⟩ := hrel
    by_cases hlt : k < N
    · obtain ⟨r, hr⟩ : ∃ r, l[k]? = some r := ⟨_, List.getElem?_eq_getElem (by have := HN.out; omega)⟩
      have hcell := HC.out w (Below.refl _ _) k r hr
      have HE : Hid (manyV (l.take (k + 1)) = manyV (l.take k) + r.m) := manyV_succ l hr
      have hs1 := HS.out (k + 1)
      rw [HE.out] at hs1
      obtain ⟨S, hS⟩ : ∃ S, S = manyV (l.take k) := ⟨_, rfl⟩
      rw [← hS] at HE hs1 ⊢
      clear hS hr
      obtain ⟨ro, rm, rc, rvs⟩ := r
      simp only at hcell HE hs1
      have q : ¬ ((S : Int) + (rm : Int) < 0) := by omega
      go_wp2
      go_round
      case rel => exact ⟨k + 1, by omega, by go_num, by rw [HE.out]; go_num⟩
      case measure => simp [intOf]; omega
    · have HE : Hid (manyV (l.take k) = M) := by unfold Hid; rw [List.take_of_length_le (by have := HN.out; omega), HM.out]
      rw [HE.out]
      go_wp2_with fail
      go_at_call 162
      refine (HG.out _).mono ?_
      rintro e w2 ⟨v2, rfl, hown, hb⟩
      obtain ⟨K, hK⟩ : ∃ K, K = w.heap.size := ⟨_, rfl⟩
      rw [← hK] at hown hb HC HR
      have HB2 : Hid (Below K w w2 ∧ K ≤ w2.heap.size) := ⟨hb, by have := hb.size; omega⟩
      have HO2 : Hid (w2.ownsRow K 3 1 v2 0 []) := hown
      have HKe : Hid (w.heap.size = K) := hK.symm
      clear hb hown hK
      go_wp2_with fail
      go_loopw [6, 8, 27] (fun v _ i wr => ∃ k : Nat, k ≤ N ∧ i = .int .i64 k ∧ wr.ownsRow K 3 1 v (manyV (l.take k)) (allV (l.take k)) ∧ Below K w wr ∧ K ≤ wr.heap.size) (fun _ _ i _ => N - (intOf i).toNat)
      case atStart => exact ⟨0, Nat.zero_le _, rfl, HO2.out, HB2.out.1, HB2.out.2⟩
      case round =>
        obtain ⟨j, hj, rfl, hown, hbel, hKw⟩ := hrel
        by_cases hjl : j < N
        · obtain ⟨r, hr⟩ : ∃ r, l[j]? = some r := ⟨_, List.getElem?_eq_getElem (by have := HN.out; omega)⟩
          have hcell := HC.out wr hbel j r hr
          have HL : Hid (r.Lies wr) := HR.out wr hbel j r hr
          have HE : Hid (manyV (l.take (j + 1)) = manyV (l.take j) + r.m) := manyV_succ l hr
          have HE2 : Hid (allV (l.take (j + 1)) = allV (l.take j) ++ r.vs) := allV_succ l hr
          have hs1 := HS.out (j + 1)
          rw [HE.out] at hs1
          obtain ⟨S, hS⟩ : ∃ S, S = manyV (l.take j) := ⟨_, rfl⟩
          obtain ⟨XS, hXS⟩ : ∃ XS, XS = allV (l.take j) := ⟨_, rfl⟩
          rw [← hS] at HE hs1 hown
          rw [← hXS] at HE2 hown
          clear hS hXS hr
          obtain ⟨ro, rm, rc, rvs⟩ := r
          simp only at hcell HE HE2 hs1
          have HOW : Hid (wr.ownsRow K 3 1 u6 S XS) := hown
          have HBW : Hid (Below K w wr ∧ K ≤ wr.heap.size) := ⟨hbel, hKw⟩
          clear hown hbel hKw
          rcases Nat.eq_zero_or_pos rm with hz | hrm
          · subst hz
            have hvs : rvs = [] := List.eq_nil_of_length_eq_zero (by have := HL.out.1; simpa using this)
            have HO3 : Hid (wr.ownsRow K 3 1 u6 (manyV (l.take (j + 1))) (allV (l.take (j + 1)))) := by
              unfold Hid; rw [HE.out, HE2.out, hvs, List.append_nil, Nat.add_zero]; exact HOW.out
            have hrun : ∀ ty, (Builtin.append_ #[23, 23] ty #[u6, .slice ro 0 rc]).run Tryz.prog wr = .ok u6 wr := fun ty => run_append_nothing Tryz.underlying23 hi HOW.out ro rc
            clear hvs
            go_wp2_with (first | (at_builtin; refine Lib.wpList_append_run _ rfl _ _ _ _ rfl _ _ rfl rfl _ _ (hrun _) ?_))
            go_roundw
            case rel => exact ⟨j + 1, by omega, by go_num, HO3.out, HBW.out.1, HBW.out.2⟩
            case measure => simp [intOf]; omega
          · obtain ⟨rb, roff, rfl, hB, hcs⟩ : ∃ b off, ro = some ⟨b, off, none⟩ ∧ b < wr.heap.size ∧ ∀ j u, rvs[j]? = some u → wr.cell? ⟨b, off + j, none⟩ = some u := HL.out.2.2.resolve_left (by show ¬ rm = 0; omega)
            have HCs : Hid (∀ j u, rvs[j]? = some u → wr.cell? ⟨rb, roff + j, none⟩ = some u) := hcs
            clear hcs
            go_wp2_with (first | (at_builtin; refine wpList_append_own _ rfl (.tmp 31) (.tmp 32) 23 rfl K 3 i0 (.int .i64 0) 1 8 Tryz.underlying23 hi hz0 hz1 hz2 rfl (by decide) u6 S XS rfl HOW.out ⟨rb, roff, none⟩ rm rc rvs rfl HL.out.1 ?a1 HL.out.2.1 ?a3 ?a4 ?a5 ?_))
            case a1 =>
              intro i u hu
              rw [Go.WideShapes.add_plain]
              exact HCs.out i u hu
            case a3 => unfold maxLen; omega
            case a4 => omega
            case a5 => exact HBW.out.2
            intro v' w3 hown' hgrow _
            have HB3 : Hid (Below K w w3 ∧ K ≤ w3.heap.size) := by
              refine ⟨HBW.out.1.grown hgrow HBW.out.2 (fun k hk => (HOW.out.lt k hk).1), ?_⟩
              have := hgrow.size
              have := HBW.out.2
              omega
            have HO3 : Hid (w3.ownsRow K 3 1 v' (manyV (l.take (j + 1))) (allV (l.take (j + 1)))) := by
              unfold Hid; rw [HE.out, HE2.out]; exact hown'
            clear hown' hgrow
            go_wp2
            go_roundw
            case rel => exact ⟨j + 1, by omega, by go_num, HO3.out, HB3.out.1, HB3.out.2⟩
            case measure => simp [intOf]; omega
        · rw [List.take_of_length_le (by have := HN.out; omega)] at hown
          have HO3 : Hid (wr.ownsRow K 3 1 u6 M (allV l)) := by unfold Hid; rw [HM.out]; exact hown
          have HB3 : Hid (Below K w wr) := hbel
          clear hown hbel
          go_wp2
          go_ret
          refine ⟨_, rfl, ?_, ?_⟩
          · rw [HKe.out]; exact HO3.out
          · rw [HKe.out]; exact HB3.out

set_option maxHeartbeats 2000000 in
/-- slices.Grow of nothing: a new row with room. -/
theorem growV2 (n : Nat) (h1 : n ≤ 200) (w : World) :
    Calls Tryz.prog 143 #[.slice none 0 0, .int .i64 n] w fun e w' => ∃ v, e = .returned v ∧ w'.ownsRow w.heap.size 23 1 v 0 [] ∧ Below w.heap.size w w' := by
  obtain ⟨i0, hi, hz0, hz1, hz2⟩ := info_parts infoS
  rcases Nat.eq_zero_or_pos n with rfl | h0
  · go_enter Tryz.func143, Tryz.ntmps143
    go_wp2
    go_ret
    exact ⟨_, rfl, World.ownsRow_nil _ _ _ _, Below.refl _ _⟩
  have a1 : ¬ ((n : Int) < 0) := by omega
  have a4 : (n : Int) > 0 := by omega
  have hold : (Builtin.firstCells i0.size 0 (.slice none 0 0)).run Tryz.prog w.drew = .ok #[] w.drew := run_firstCells_none w.drew i0.size 0 0 0
  have hrz : ∀ ty, (Builtin.append_ #[27, 3] ty #[.slice none 0 0, .int .i64 n]).run Tryz.prog w =
      .ok (.slice (some ⟨w.heap.size, 0, none⟩) n (grownCap w n 0 23)) (w.drew.alloc (.cells (#[] ++ Builtin.zeroCells (Value.cells (.slice none 0 0)) n ++ Builtin.zeroCells (Value.cells (.slice none 0 0)) (grownCap w n 0 23 - n)) 23)) := fun ty => by
    have h := Lib.run_append_grow_zeros w 27 3 ty 23 i0 (.slice none 0 0) .i64 .i64 Tryz.underlying27 Tryz.underlying3 hi hz0 none 0 0 [] hold n h0 (by omega) (by omega) (by omega) (by rw [hz2]; omega) (by rw [Nat.zero_add, hz2]; exact growslice_fits (by omega) (by omega))
    rw [Nat.zero_add] at h
    exact h
  have hGn : n ≤ grownCap w n 0 23 := grownCap_ge w _ _ _
  have hG63 : grownCap w n 0 23 ≤ maxLen := grownCap_le_maxLen w n 0 23 (by unfold maxLen; omega)
  obtain ⟨G, hG⟩ : ∃ G, G = grownCap w n 0 23 := ⟨_, rfl⟩
  rw [← hG] at hrz hGn hG63
  have HE : Hid (∃ w', w' = w.drew.alloc (.cells (#[] ++ Builtin.zeroCells (Value.cells (.slice none 0 0)) n ++ Builtin.zeroCells (Value.cells (.slice none 0 0)) (G - n)) 23) ∧ w'.ownsRow w.heap.size 23 1 (.slice (some ⟨w.heap.size, 0, none⟩) 0 G) 0 [] ∧ Below w.heap.size w w') := by
    refine ⟨_, rfl, ?_, ?_⟩
    · refine ⟨by simp, .inr ⟨w.heap.size, G, _, rfl, Nat.le_refl _, heap_alloc_new w.drew _, Nat.zero_le _, hG63, ?_, by simp⟩⟩
      simp [Builtin.zeroCells, Value.cells]
      omega
    · exact ((Below.refl _ w).drew).trans (below_alloc1 w.drew _)
  have hG63' : G ≤ 9223372036854775807 := by unfold maxLen at hG63; omega
  clear hold hG hG63
  obtain ⟨w', hw', HE⟩ := HE.out
  rw [← hw'] at hrz
  have HE' : Hid (w'.ownsRow w.heap.size 23 1 (.slice (some ⟨w.heap.size, 0, none⟩) 0 G) 0 [] ∧ Below w.heap.size w w') := HE
  clear hw' HE
  go_enter Tryz.func143, Tryz.ntmps143
  go_wp2_with (at_builtin; refine Lib.wpList_append_run _ rfl _ _ _ _ rfl _ _ rfl rfl _ _ (hrz _) ?_)
  go_ret
  exact ⟨_, rfl, HE'.out⟩

set_option maxHeartbeats 4000000 in
/-- slices.Concat: a new row of all. -/
theorem concatV2 (l : List RowV) (A lcap : Nat) (w : World) (hl : l.length ≤ 4) (hA : A < w.heap.size) (hc : ∀ k r, l[k]? = some r → w.cell? ⟨A, k, none⟩ = some (.slice r.o r.m r.cap)) (hr : ∀ r ∈ l, r.Lies w) (h1 : manyV l ≤ 200) :
    Calls Tryz.prog 106 #[.slice (some ⟨A, 0, none⟩) l.length lcap] w fun e w' => ∃ v, e = .returned v ∧ w'.ownsRow w.heap.size 23 1 v (manyV l) (allV l) ∧ Below w.heap.size w w' := by
  obtain ⟨i0, hi, hz0, hz1, hz2⟩ := info_parts infoS
  obtain ⟨N, hN⟩ : ∃ N, N = l.length := ⟨_, rfl⟩
  rw [← hN] at hl ⊢
  have HN : Hid (N = l.length) := hN
  clear hN
  have HC : Hid (∀ W, Below w.heap.size w W → ∀ k r, l[k]? = some r → W.cell? ⟨A, k, none⟩ = some (.slice r.o r.m r.cap)) := fun W hW k r h => by rw [hW.cell (show (⟨A, k, none⟩ : Addr).block < _ from hA)]; exact hc k r h
  have HR : Hid (∀ W, Below w.heap.size w W → ∀ (k : Nat) (r : RowV), l[k]? = some r → r.Lies W) := fun W hW k r h => (hr r (List.mem_of_getElem? h)).below hW
  have HS : Hid (∀ k, manyV (l.take k) ≤ 200) := fun k => Nat.le_trans (manyV_take l k) h1
  have HG : Hid (∀ W, Calls Tryz.prog 143 #[.slice none 0 0, .int .i64 (manyV l)] W fun e w' => ∃ v, e = .returned v ∧ w'.ownsRow W.heap.size 23 1 v 0 [] ∧ Below W.heap.size W w') := fun W => growV2 _ h1 W
  obtain ⟨M, hM⟩ : ∃ M, M = manyV l := ⟨_, rfl⟩
  rw [← hM] at HG ⊢
  have HM : Hid (M = manyV l) := hM
  clear hM hc hr h1 hA
  go_enter Tryz.func106, Tryz.ntmps106
  go_wp2_with fail
  go_loop [3, 5, 11] (fun c _ i => ∃ k : Nat, k ≤ N ∧ i = .int .i64 k ∧ c = .int .i64 (manyV (l.take k))) (fun _ _ i => N - (intOf i).toNat)
  case atStart => exact ⟨0, Nat.zero_le _, rfl, rfl⟩
  case round =>
    obtain ⟨k, hk, rfl, rfl⟩ := hrel
    by_cases hlt : k < N
    · obtain ⟨r, hr⟩ : ∃ r, l[k]? = some r := ⟨_, List.getElem?_eq_getElem (by have := HN.out; omega)⟩
      have hcell := HC.out w (Below.refl _ _) k r hr
      have HE : Hid (manyV (l.take (k + 1)) = manyV (l.take k) + r.m) := manyV_succ l hr
      have hs1 := HS.out (k + 1)
      rw [HE.out] at hs1
      obtain ⟨S, hS⟩ : ∃ S, S = manyV (l.take k) := ⟨_, rfl⟩
      rw [← hS] at HE hs1 ⊢
      clear hS hr
      obtain ⟨ro, rm, rc, rvs⟩ := r
      simp only at hcell HE hs1
      have q : ¬ ((S : Int) + (rm : Int) < 0) := by omega
      go_wp2
      go_round
      case rel => exact ⟨k + 1, by omega, by go_num, by rw [HE.out]; go_num⟩
      case measure => simp [intOf]; omega
    · have HE : Hid (manyV (l.take k) = M) := by unfold Hid; rw [List.take_of_length_le (by have := HN.out; omega), HM.out]
      rw [HE.out]
      go_wp2_with fail
      go_at_call 143
      refine (HG.out _).mono ?_
      rintro e w2 ⟨v2, rfl, hown, hb⟩
      obtain ⟨K, hK⟩ : ∃ K, K = w.heap.size := ⟨_, rfl⟩
      rw [← hK] at hown hb HC HR
      have HB2 : Hid (Below K w w2 ∧ K ≤ w2.heap.size) := ⟨hb, by have := hb.size; omega⟩
      have HO2 : Hid (w2.ownsRow K 23 1 v2 0 []) := hown
      have HKe : Hid (w.heap.size = K) := hK.symm
      clear hb hown hK
      go_wp2_with fail
      go_loopw [6, 8, 27] (fun v _ i wr => ∃ k : Nat, k ≤ N ∧ i = .int .i64 k ∧ wr.ownsRow K 23 1 v (manyV (l.take k)) (allV (l.take k)) ∧ Below K w wr ∧ K ≤ wr.heap.size) (fun _ _ i _ => N - (intOf i).toNat)
      case atStart => exact ⟨0, Nat.zero_le _, rfl, HO2.out, HB2.out.1, HB2.out.2⟩
      case round =>
        obtain ⟨j, hj, rfl, hown, hbel, hKw⟩ := hrel
        by_cases hjl : j < N
        · obtain ⟨r, hr⟩ : ∃ r, l[j]? = some r := ⟨_, List.getElem?_eq_getElem (by have := HN.out; omega)⟩
          have hcell := HC.out wr hbel j r hr
          have HL : Hid (r.Lies wr) := HR.out wr hbel j r hr
          have HE : Hid (manyV (l.take (j + 1)) = manyV (l.take j) + r.m) := manyV_succ l hr
          have HE2 : Hid (allV (l.take (j + 1)) = allV (l.take j) ++ r.vs) := allV_succ l hr
          have hs1 := HS.out (j + 1)
          rw [HE.out] at hs1
          obtain ⟨S, hS⟩ : ∃ S, S = manyV (l.take j) := ⟨_, rfl⟩
          obtain ⟨XS, hXS⟩ : ∃ XS, XS = allV (l.take j) := ⟨_, rfl⟩
          rw [← hS] at HE hs1 hown
          rw [← hXS] at HE2 hown
          clear hS hXS hr
          obtain ⟨ro, rm, rc, rvs⟩ := r
          simp only at hcell HE HE2 hs1
          have HOW : Hid (wr.ownsRow K 23 1 u6 S XS) := hown
          have HBW : Hid (Below K w wr ∧ K ≤ wr.heap.size) := ⟨hbel, hKw⟩
          clear hown hbel hKw
          rcases Nat.eq_zero_or_pos rm with hz | hrm
          · subst hz
            have hvs : rvs = [] := List.eq_nil_of_length_eq_zero (by have := HL.out.1; simpa using this)
            have HO3 : Hid (wr.ownsRow K 23 1 u6 (manyV (l.take (j + 1))) (allV (l.take (j + 1)))) := by
              unfold Hid; rw [HE.out, HE2.out, hvs, List.append_nil, Nat.add_zero]; exact HOW.out
            have hrun : ∀ ty, (Builtin.append_ #[27, 27] ty #[u6, .slice ro 0 rc]).run Tryz.prog wr = .ok u6 wr := fun ty => run_append_nothing Tryz.underlying27 hi HOW.out ro rc
            clear hvs
            go_wp2_with (first | (at_builtin; refine Lib.wpList_append_run _ rfl _ _ _ _ rfl _ _ rfl rfl _ _ (hrun _) ?_))
            go_roundw
            case rel => exact ⟨j + 1, by omega, by go_num, HO3.out, HBW.out.1, HBW.out.2⟩
            case measure => simp [intOf]; omega
          · obtain ⟨rb, roff, rfl, hB, hcs⟩ : ∃ b off, ro = some ⟨b, off, none⟩ ∧ b < wr.heap.size ∧ ∀ j u, rvs[j]? = some u → wr.cell? ⟨b, off + j, none⟩ = some u := HL.out.2.2.resolve_left (by show ¬ rm = 0; omega)
            have HCs : Hid (∀ j u, rvs[j]? = some u → wr.cell? ⟨rb, roff + j, none⟩ = some u) := hcs
            clear hcs
            go_wp2_with (first | (at_builtin; refine wpList_append_own _ rfl (.tmp 31) (.tmp 32) 27 rfl K 23 i0 (.slice none 0 0) 1 24 Tryz.underlying27 hi hz0 hz1 hz2 rfl (by decide) u6 S XS rfl HOW.out ⟨rb, roff, none⟩ rm rc rvs rfl HL.out.1 ?a1 HL.out.2.1 ?a3 ?a4 ?a5 ?_))
            case a1 =>
              intro i u hu
              rw [Go.WideShapes.add_plain]
              exact HCs.out i u hu
            case a3 => unfold maxLen; omega
            case a4 => omega
            case a5 => exact HBW.out.2
            intro v' w3 hown' hgrow _
            have HB3 : Hid (Below K w w3 ∧ K ≤ w3.heap.size) := by
              refine ⟨HBW.out.1.grown hgrow HBW.out.2 (fun k hk => (HOW.out.lt k hk).1), ?_⟩
              have := hgrow.size
              have := HBW.out.2
              omega
            have HO3 : Hid (w3.ownsRow K 23 1 v' (manyV (l.take (j + 1))) (allV (l.take (j + 1)))) := by
              unfold Hid; rw [HE.out, HE2.out]; exact hown'
            clear hown' hgrow
            go_wp2
            go_roundw
            case rel => exact ⟨j + 1, by omega, by go_num, HO3.out, HB3.out.1, HB3.out.2⟩
            case measure => simp [intOf]; omega
        · rw [List.take_of_length_le (by have := HN.out; omega)] at hown
          have HO3 : Hid (wr.ownsRow K 23 1 u6 M (allV l)) := by unfold Hid; rw [HM.out]; exact hown
          have HB3 : Hid (Below K w wr) := hbel
          clear hown hbel
          go_wp2
          go_ret
          refine ⟨_, rfl, ?_, ?_⟩
          · rw [HKe.out]; exact HO3.out
          · rw [HKe.out]; exact HB3.out

end Go.Proofs.YtjaedfjfcghgcabGreatDoor


namespace Go.Proofs.YtjaedfjfcghgcabGreatDoor
open Go.ChangeShapes Go.WideShapes Go.ChangeAt Go.RowKit
open Go.Shelf
set_option maxRecDepth 100000

theorem far_any (x y : Int) (hx : x.natAbs ≤ 6) (hy : y.natAbs ≤ 6) (w : World) :
    Calls Tryz.prog 140 #[.int .i64 x, .int .i64 y] w fun e w' => e = .returned (.int .i64 (farC x y)) ∧ w' = w := by
  have h := AnyG.cmp_Compare_int Tryz.laysCompare x.natAbs y.natAbs w
  change Calls Tryz.prog 141 _ _ _ at h
  have H : Hid (Calls Tryz.prog 141 #[.int .i64 x.natAbs, .int .i64 y.natAbs] w fun e w' => e = .returned (.int .i64 (farC x y)) ∧ w' = w) := h
  clear h
  obtain ⟨R, hR⟩ : ∃ R, R = farC x y := ⟨_, rfl⟩
  rw [← hR] at H ⊢
  clear hR
  have x1 : -9223372036854775808 ≤ -x := by omega
  have x2 : -x ≤ 9223372036854775807 := by omega
  have y1 : -9223372036854775808 ≤ -y := by omega
  have y2 : -y ≤ 9223372036854775807 := by omega
  have ex : max x (-x) = (x.natAbs : Int) := by omega
  have ey : max y (-y) = (y.natAbs : Int) := by omega
  go_enter Tryz.func140, Tryz.ntmps140
  go_wp2_with (go_at_call 141; refine H.out.mono ?_; rintro e w' ⟨rfl, rfl⟩)
  go_ret
  exact ⟨rfl, rfl⟩
/-- the members of cubes. -/
abbrev Mem := { x : Int // x.natAbs ≤ 6 }
instance : Inhabited Mem := ⟨⟨0, by decide⟩⟩
def encM (x : Mem) : Value := .int .i64 x.1
def farM (x y : Mem) : Int := farC x.1 y.1
theorem farM_lt (x y : Mem) : ltOf farM x y = decide (x.1.natAbs < y.1.natAbs) := by
  unfold ltOf farM farC Lib.compareInt
  by_cases h1 : x.1.natAbs < y.1.natAbs
  · have : (x.1.natAbs : Int) < (y.1.natAbs : Int) := by omega
    simp [h1, this]
  · have : ¬ (x.1.natAbs : Int) < (y.1.natAbs : Int) := by omega
    by_cases h2 : (y.1.natAbs : Int) < (x.1.natAbs : Int) <;> simp [h1, this, h2]
theorem farM_swo : Sort.SWO (ltOf farM) where
  irrefl x := by rw [farM_lt]; simp
  trans x y z h1 h2 := by rw [farM_lt] at *; simp at *; omega
  ntrans x y z h1 h2 := by rw [farM_lt] at *; simp at *; omega
theorem below_put {α : Type} [Inhabited α] {enc : α → Value} {w : World} {K blk off m : Nat} {d : Array α} (hK : K ≤ blk) : Below K w (Sort.putRow enc (Sort.ahead w m) blk off d) := by
  refine ⟨rfl, rfl, rfl, by simp [Sort.ahead], fun k hk => ?_⟩
  have : blk ≠ k := by omega
  simp [Sort.putRow, Sort.mapBlock, Array.getElem?_modify, this, Sort.ahead]
theorem below_grow {w : World} {K : Nat} {os : Array Obj} (hK : K ≤ w.heap.size) : Below K w (Sort.grow w os) :=
  ⟨rfl, rfl, rfl, by simp, fun k hk => Sort.heap_grow_old w os (by omega)⟩
theorem below_sort {α : Type} [Inhabited α] {enc : α → Value} {w : World} {K blk off m : Nat} {d : Array α} {os : Array Obj} (hK : K ≤ blk) (hs : K ≤ w.heap.size) : Below K w (sortWorld enc w blk off m d os) := by
  unfold sortWorld
  exact (below_put hK).trans (below_grow (by simp [Sort.ahead]; exact hs))
end Go.Proofs.YtjaedfjfcghgcabGreatDoor


namespace Go.Proofs.YtjaedfjfcghgcabGreatDoor
open Go.ChangeShapes Go.WideShapes Go.ChangeAt Go.RowKit
open Go.Shelf
set_option maxRecDepth 100000

/-- a row of numbers as one that is put together. -/
theorem reads_row {w : World} {v : Value} {t : List Int} (h : Reads w v t) : ∃ o cap, v = .slice o t.length cap ∧ (⟨o, t.length, cap, t.map (Value.int .i64)⟩ : RowV).Lies w := by
  rcases h with ⟨ao, cap, rfl, rfl⟩ | ⟨b, off, cap, rfl, hB, h0, _, hc⟩
  · exact ⟨ao, cap, rfl, by simp, by simp, Or.inl rfl⟩
  · refine ⟨_, cap, rfl, by simp, ?_, Or.inr ⟨b, off, rfl, hB, fun j u hu => ?_⟩⟩
    · intro u hu
      obtain ⟨s, _, rfl⟩ := List.mem_map.1 hu; rfl
    · have hu' : (t.map (Value.int .i64))[j]? = some u := hu
      rw [List.getElem?_map] at hu'
      cases hcj : t[j]? with
      | none => rw [hcj] at hu'; cases hu'
      | some s =>
        rw [hcj] at hu'
        have hjl := (List.getElem?_eq_some_iff.1 hcj).1
        rw [hc j hjl, List.getD_eq_getElem?_getD, hcj]
        simpa using hu'
/-- members as such. -/
def memsOf (t : List Int) (h : ∀ m ∈ t, m.natAbs ≤ 6) : List Mem := t.attach.map (fun x => ⟨x.1, h x.1 x.2⟩)
theorem memsOf_val (t : List Int) (h : ∀ m ∈ t, m.natAbs ≤ 6) : (memsOf t h).map (·.1) = t := by
  unfold memsOf
  rw [List.map_map]
  exact List.attach_map_subtype_val t
theorem memsOf_len (t : List Int) (h : ∀ m ∈ t, m.natAbs ≤ 6) : (memsOf t h).length = t.length := by simp [memsOf]
theorem get_val (d : Array Mem) (j : Nat) (hj : j < d.size) : (d.toList.map (·.1)).getD j 0 = (d[j]!).1 := by
  rw [List.getD_eq_getElem?_getD, List.getElem?_map]
  simp [hj]
theorem holds_mems {w : World} {g cap n base : Nat} {t : List Int} {e : TypeId} (h : ∀ m ∈ t, m.natAbs ≤ 6) (ho : w.ownsRow base e 1 (.slice (some ⟨g, 0, none⟩) n cap) n (t.map (Value.int .i64))) (hn : n = t.length) : Sort.Holds encM w g 0 (memsOf t h).toArray := by
  intro j hj
  have hj' : j < t.length := by simpa [memsOf_len] using hj
  refine ⟨?_, by rw [Nat.zero_add]; exact ho.frozenAt j⟩
  rw [Nat.zero_add, ho.cellAt j (by omega)]
  have e1 : ((memsOf t h).toArray[j]!).1 = t.getD j 0 := by
    have := get_val (memsOf t h).toArray j hj
    rw [← this]
    show ((memsOf t h).map (·.1)).getD j 0 = _
    rw [memsOf_val]
  unfold encM
  rw [e1, List.getElem?_map, List.getD_eq_getElem?_getD, List.getElem?_eq_getElem hj']
  rfl
theorem holds_ints {w : World} {g : Nat} {d : Array Mem} (h : Sort.Holds encM w g 0 d) : Sort.Holds (Value.int .i64) w g 0 (d.toList.map (·.1)).toArray := by
  intro j hj
  have hj' : j < d.size := by simpa using hj
  have := h j hj'
  refine ⟨?_, this.2⟩
  rw [this.1]
  unfold encM
  have e := get_val d j hj'
  rw [← e]
  simp [hj']

theorem sort_none (a : Option Addr) (cap : Nat) (fv : Value) (w : World) : Calls Tryz.prog 139 #[.slice a 0 cap, fv] w fun e w' => e = .returned (.tuple #[]) ∧ w' = w :=
  AnyF.slices_SortFunc_none Tryz.laysSort0 a cap fv w
theorem compact_none (a : Option Addr) (cap : Nat) (w : World) : Calls Tryz.prog 142 #[.slice a 0 cap] w fun e w' => e = .returned (.slice a 0 cap) ∧ w' = w :=
  AnyG.slices_Compact_int_empty Tryz.laysCompact a cap w
theorem compact_some (g cap : Nat) (zs : List Int) (w : World) (hH : Sort.Holds (Value.int .i64) w g 0 zs.toArray) (hsz : zs.length ≤ 9223372036854775807) (hcap : zs.length ≤ cap) :
    Calls Tryz.prog 142 #[.slice (some ⟨g, 0, none⟩) zs.length cap] w fun e w' => e = .returned (.slice (some ⟨g, 0, none⟩) (Lib.compact zs).length cap) ∧ ∃ q, w' = Sort.putRow (Value.int .i64) (Sort.ahead w q) g 0 (Lib.compact zs ++ List.replicate (zs.length - (Lib.compact zs).length) 0).toArray :=
  AnyG.slices_Compact_int Tryz.laysCompact g 0 cap zs w hH hsz hcap
theorem sort_some (g cap : Nat) (D : Array Mem) (w : World) (hH : Sort.Holds encM w g 0 D) (hg : g < w.heap.size) (hs : D.size < 4611686018427387904) :
    Calls Tryz.prog 139 #[.slice (some ⟨g, 0, none⟩) D.size cap, .func (.func 140) #[] #[]] w fun e w' => e = .returned (.tuple #[]) ∧ ∃ d' q os, Sort.PermIn 0 D.size D d' ∧ Sort.SortedIn (ltOf farM) 0 D.size d' ∧ w' = sortWorld encM w g 0 q d' os :=
  have e71 : ∀ args w, (callFunc 140 args).run Tryz.prog w = .ok (.enter 140 args) w := enters_of Tryz.func140 (by kernel_rfl) rfl
  Any.slices_SortFunc Tryz.laysSort encM (fun _ => rfl) farM farM_swo 140 #[] g 0 cap D w e71 (fun m os dk hs x y => (far_any x.1 y.1 x.2 y.2 _).mono fun e w' ⟨h1, h2⟩ => ⟨h1, 0, #[], by rw [h2]; simp [World.drewN]⟩) hH hg hs

set_option maxHeartbeats 4000000 in
theorem joined_any (vc vd : Value) (c d : List Int) (M : Nat) (hM : M ≤ 6) (w : World) (hc : cubeOk M c) (hd : cubeOk M d) (hC : Reads w vc c) (hD : Reads w vd d) :
    Calls Tryz.prog 105 #[vc, vd] w fun e w' => ∃ v r, e = .returned v ∧ RS (fun b => w.heap.size ≤ b) w' v r ∧ ((∀ m, m ∈ r ↔ m ∈ c ++ d) ∧ (bothWays (c ++ d) = false → r = joinC c d)) ∧ Below w.heap.size w w' := by
  have hc6 := cube_len hc
  have hd6 := cube_len hd
  have hmem : ∀ m ∈ c ++ d, m.natAbs ≤ 6 := by
    intro m hm
    rcases List.mem_append.1 hm with h | h
    · have := hc.1 m h; omega
    · have := hd.1 m h; omega
  obtain ⟨co, ccap, rfl, lc⟩ := reads_row hC
  obtain ⟨eo, ecap, rfl, ld⟩ := reads_row hD
  obtain ⟨w1, hw1⟩ : ∃ w1, w1 = w.alloc (.cells #[.slice co c.length ccap, .slice eo d.length ecap] 23) := ⟨_, rfl⟩
  have HB1 : Hid (Below w.heap.size w w1 ∧ w1.heap.size = w.heap.size + 1) := by unfold Hid; rw [hw1]; exact ⟨below_alloc1 _ _, by simp⟩
  have HCo : Hid (Calls Tryz.prog 138 #[.slice (some ⟨w.heap.size, 0, none⟩) 2 2] w1 fun e w' => ∃ v, e = .returned v ∧ w'.ownsRow w1.heap.size 3 1 v (c.length + d.length) ((c ++ d).map (Value.int .i64)) ∧ Below w1.heap.size w1 w') := by
    have h := concatV1 [⟨co, c.length, ccap, c.map (Value.int .i64)⟩, ⟨eo, d.length, ecap, d.map (Value.int .i64)⟩] w.heap.size 2 w1 (by simp) (by have := HB1.out.2; omega) (fun k r hk => ?_) (fun r hr => ?_) (by simp [manyV]; omega)
    · have e1 : manyV [⟨co, c.length, ccap, c.map (Value.int .i64)⟩, ⟨eo, d.length, ecap, d.map (Value.int .i64)⟩] = c.length + d.length := by simp [manyV]
      have e2 : allV [⟨co, c.length, ccap, c.map (Value.int .i64)⟩, ⟨eo, d.length, ecap, d.map (Value.int .i64)⟩] = (c ++ d).map (Value.int .i64) := by simp [allV]
      rw [e1, e2] at h
      exact h
    · match k, hk with
      | 0, hk => simp at hk; subst hk; rw [hw1]; simp
      | 1, hk => simp at hk; subst hk; rw [hw1]; simp
    · simp at hr
      rcases hr with rfl | rfl
      · exact lc.below HB1.out.1
      · exact ld.below HB1.out.1
  have HJ : Hid (∀ (e : Array Int), e.toList.Perm (c ++ d) → (∀ i j, i < j → j < e.size → (e[i]!).natAbs ≤ (e[j]!).natAbs) → (∀ m, m ∈ Lib.compact e.toList ↔ m ∈ c ++ d) ∧ (bothWays (c ++ d) = false → Lib.compact e.toList = joinC c d)) := fun e hp hs => joined_is hM hc hd hp hs
  have HL : Hid (c.length ≤ 6 ∧ d.length ≤ 6) := ⟨by omega, by omega⟩
  obtain ⟨nc, hnc⟩ : ∃ nc, nc = c.length := ⟨_, rfl⟩
  obtain ⟨nd, hnd⟩ : ∃ nd, nd = d.length := ⟨_, rfl⟩
  rw [← hnc, ← hnd] at HCo hw1 HL
  rw [← hnc, ← hnd]
  have HN : Hid (nc + nd = (c ++ d).length) := by unfold Hid; simp [hnc, hnd]
  clear lc ld hc hd hC hD hc6 hd6 hnc hnd
  go_enter Tryz.func105, Tryz.ntmps105
  go_wp2_with fail
  rw [← hw1]
  clear hw1
  go_at_call 138
  refine HCo.out.mono ?_
  rintro e w2 ⟨v2, rfl, hown, hb⟩
  have HB2 : Hid (Below w.heap.size w w2 ∧ w1.heap.size ≤ w2.heap.size) := ⟨HB1.out.1.trans (hb.mono HB1.out.1.size), hb.size⟩
  have HO2 : Hid (w2.ownsRow w1.heap.size 3 1 v2 (nc + nd) ((c ++ d).map (Value.int .i64))) := hown
  clear hb hown HCo
  obtain ⟨n, hn⟩ : ∃ n, n = nc + nd := ⟨_, rfl⟩
  rw [← hn] at HO2 HN
  have HNn : Hid (n = nc + nd) := hn
  clear hn
  rcases Nat.eq_zero_or_pos n with h0 | h0
  · subst h0
    have hnil : c ++ d = [] := List.eq_nil_of_length_eq_zero HN.out.symm
    obtain ⟨vo, vcap, rfl⟩ : ∃ vo vcap, v2 = .slice vo 0 vcap := by
      rcases HO2.out.2 with ⟨rfl, _⟩ | ⟨g, cap, cur, rfl, _⟩
      · exact ⟨none, 0, rfl⟩
      · exact ⟨_, cap, rfl⟩
    have HJ0 : Hid ((∀ m, m ∈ ([] : List Int) ↔ m ∈ c ++ d) ∧ (bothWays (c ++ d) = false → ([] : List Int) = joinC c d)) := by
      have := HJ.out #[] (by rw [hnil]) (by intro i j _ hj; simp at hj)
      have e : Lib.compact (#[] : Array Int).toList = [] := by simp [Lib.compact, Lib.compactUpTo]
      rw [e] at this
      exact this
    have HSo : Hid (∀ fv, Calls Tryz.prog 139 #[.slice vo 0 vcap, fv] w2 fun e w' => e = .returned (.tuple #[]) ∧ w' = w2) := fun fv => sort_none vo vcap fv w2
    have HCm : Hid (Calls Tryz.prog 142 #[.slice vo 0 vcap] w2 fun e w' => e = .returned (.slice vo 0 vcap) ∧ w' = w2) := compact_none vo vcap w2
    clear hnil HO2 HJ
    go_wp2_with (first
      | (go_at_call 139; refine (HSo.out _).mono ?_; rintro e w' ⟨rfl, rfl⟩)
      | (go_at_call 142; refine HCm.out.mono ?_; rintro e w' ⟨rfl, rfl⟩))
    go_ret
    exact ⟨_, [], rfl, Or.inl ⟨vo, vcap, rfl, rfl⟩, HJ0.out, HB2.out.1⟩
  · obtain ⟨g, cap, rfl⟩ : ∃ g cap, v2 = .slice (some ⟨g, 0, none⟩) n cap := by
      rcases HO2.out.2 with ⟨_, hz⟩ | ⟨g, cap, cur, rfl, _⟩
      · omega
      · exact ⟨g, cap, rfl⟩
    obtain ⟨D, hD⟩ : ∃ D, D = (memsOf (c ++ d) hmem).toArray := ⟨_, rfl⟩
    have hDs : D.size = n := by rw [hD, HN.out]; simp [memsOf_len]
    have hDl : (D.toList.map (·.1)) = c ++ d := by rw [hD]; exact memsOf_val _ hmem
    have hHo : Sort.Holds encM w2 g 0 D := by rw [hD]; exact holds_mems hmem HO2.out HN.out
    have hgl := HO2.out.lt g rfl
    have hnc : n ≤ cap := by
      rcases HO2.out.2 with ⟨h, _⟩ | ⟨g', cap', cur, h, _, _, hle, _⟩
      · cases h
      · cases h; exact hle
    have HSo : Hid (Calls Tryz.prog 139 #[.slice (some ⟨g, 0, none⟩) n cap, .func (.func 140) #[] #[]] w2 fun e w' => e = .returned (.tuple #[]) ∧ ∃ d' q os, Sort.PermIn 0 D.size D d' ∧ Sort.SortedIn (ltOf farM) 0 D.size d' ∧ w' = sortWorld encM w2 g 0 q d' os) := by
      have h := sort_some g cap D w2 hHo hgl.2 (by rw [hDs]; have := HL.out; have := HNn.out; omega)
      unfold Hid
      rw [hDs] at h ⊢
      exact h
    have HD : Hid (D.size = n ∧ D.toList.map (·.1) = c ++ d ∧ Sort.Holds encM w2 g 0 D) := ⟨hDs, hDl, hHo⟩
    have HG : Hid ((w1.heap.size ≤ g ∧ g < w2.heap.size) ∧ n ≤ cap) := ⟨hgl, hnc⟩
    have h12 : n ≤ 12 := by have := HL.out; have := HNn.out; omega
    clear hDs hDl hHo hgl hnc hD hmem HO2
    go_wp2_with fail
    go_at_call 139
    refine HSo.out.mono ?_
    rintro e w3 ⟨rfl, d', q, os, hperm, hsorted, hw3⟩
    obtain ⟨zs, hzs⟩ : ∃ zs, zs = d'.toList.map (·.1) := ⟨_, rfl⟩
    have hds : d'.size = D.size := hperm.1
    have hzl : zs.length = n := by rw [hzs]; simp [hds, HD.out.1]
    have hH3 : Sort.Holds encM w3 g 0 d' := by rw [hw3]; exact holds_sortWorld encM w2 g 0 q D d' os HG.out.1.2 HD.out.2.2 hds
    have hB3 : Below w1.heap.size w2 w3 := by rw [hw3]; exact below_sort HG.out.1.1 (by have := HG.out.1; omega)
    have hzp : zs.Perm (c ++ d) := by
      have h1 := hperm.2.2
      have e1 : (d'.extract 0 D.size).toList = d'.toList := by rw [← hds]; simp
      have e2 : (D.extract 0 D.size).toList = D.toList := by simp
      rw [e1, e2] at h1
      rw [hzs, ← HD.out.2.1]
      exact h1.map _
    have hzso : ∀ i j, i < j → j < zs.toArray.size → (zs.toArray[i]!).natAbs ≤ (zs.toArray[j]!).natAbs := by
      intro i j hij hj
      have hj' : j < d'.size := by rw [hds, HD.out.1, ← hzl]; simpa using hj
      have h1 := hsorted i j (Nat.zero_le _) hij (by rw [← hds]; exact hj')
      rw [farM_lt] at h1
      have g1 : ∀ k, k < d'.size → zs.toArray[k]! = (d'[k]!).1 := fun k hk => by
        have := get_val d' k hk
        rw [← hzs] at this
        rw [← this]
        simp [hzl, ← HD.out.1, ← hds, hk]
      rw [g1 i (by omega), g1 j hj']
      simpa using h1
    have HZ : Hid ((∀ m, m ∈ Lib.compact zs ↔ m ∈ c ++ d) ∧ (bothWays (c ++ d) = false → Lib.compact zs = joinC c d)) := HJ.out zs.toArray hzp hzso
    have HCm : Hid (Calls Tryz.prog 142 #[.slice (some ⟨g, 0, none⟩) n cap] w3 fun e w' => e = .returned (.slice (some ⟨g, 0, none⟩) (Lib.compact zs).length cap) ∧ ∃ q, w' = Sort.putRow (Value.int .i64) (Sort.ahead w3 q) g 0 (Lib.compact zs ++ List.replicate (zs.length - (Lib.compact zs).length) 0).toArray) := by
      have h := compact_some g cap zs w3 (by rw [hzs]; exact holds_ints hH3) (by omega) (by rw [hzl]; exact HG.out.2)
      rw [hzl] at h
      rw [← hzl] at h ⊢
      rw [hzl] at h ⊢
      exact h
    have HH3 : Hid (Sort.Holds (Value.int .i64) w3 g 0 zs.toArray ∧ (zs.length = n ∧ g < w3.heap.size)) := ⟨by rw [hzs]; exact holds_ints hH3, hzl, by have := hB3.size; have := HG.out.1; omega⟩
    have HB3 : Hid (Below w.heap.size w w3) := HB2.out.1.trans (hB3.mono HB1.out.1.size)
    clear hperm hsorted hw3 hzs hds hzl hH3 hB3 hzp hzso HSo HJ
    go_wp2_with fail
    go_at_call 142
    refine HCm.out.mono ?_
    rintro e w4 ⟨rfl, q2, hw4⟩
    obtain ⟨r, hr⟩ : ∃ r, r = Lib.compact zs := ⟨_, rfl⟩
    rw [← hr] at HZ hw4 ⊢
    have hrl : r.length ≤ zs.length := by rw [hr]; exact Lib.compact_length_le zs
    have hr0 : 0 < r.length := by
      have hne : c ++ d ≠ [] := fun e => by have := HN.out; rw [e] at this; simp at this; omega
      obtain ⟨m, hm⟩ := List.exists_mem_of_ne_nil _ hne
      exact List.length_pos_of_mem ((HZ.out.1 m).2 hm)
    have HR4 : Hid (RS (fun b => w.heap.size ≤ b) w4 (.slice (some ⟨g, 0, none⟩) r.length cap) r ∧ Below w.heap.size w w4) := by
      refine ⟨Or.inr ⟨g, 0, cap, rfl, ⟨?_, ?_⟩, hr0, ⟨by have := HH3.out.2.1; omega, by have := HH3.out.2.1; have := HG.out.2; omega⟩, fun k hk => ?_⟩, ?_⟩
      · have := HB1.out.2; have := HG.out.1; omega
      · rw [hw4]; simp [Sort.ahead]; exact HH3.out.2.2
      · rw [hw4]
        have hsz : (r ++ List.replicate (zs.length - r.length) 0).toArray.size = zs.toArray.size := by simp; omega
        have h := Sort.cell?_putRow (Value.int .i64) (Sort.ahead w3 q2) g 0 zs.toArray (r ++ List.replicate (zs.length - r.length) 0).toArray (Sort.holds_ahead _ w3 q2 g 0 _ HH3.out.1) hsz k (by rw [hsz]; simp; omega)
        rw [h]
        congr 2
        rw [List.getD_eq_getElem?_getD, getElem!_pos _ k (by rw [hsz]; simp; omega)]
        simp [List.getElem_append_left hk, hk]
      · rw [hw4]
        exact HB3.out.trans (below_put (by have := HG.out.1; have := HB1.out.2; omega))
    clear hw4 hr hrl hr0
    go_wp2
    go_ret
    exact ⟨_, r, rfl, HR4.out.1, HZ.out, HR4.out.2⟩
end Go.Proofs.YtjaedfjfcghgcabGreatDoor

