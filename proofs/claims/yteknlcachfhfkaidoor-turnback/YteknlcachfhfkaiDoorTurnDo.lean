/-
  Proved: what turn.eachOnce, turn.moved, turn.renamed and slices.Clone return; what was in memory is as it was (contracts that the statements of chapter 16 lean on).
-/
import Derived.Test.YteknlcachfhfkaiDoorTurnRef
import Derived.Test.YteknlcachfhfkaiDoorTurnFill
import Derived.Lib.Walk
import Derived.Lib.SliceRun
namespace Go.Proofs.YteknlcachfhfkaiDoor
open Go.ChangeShapes Go.WideShapes Go.ChangeAt Go.RowKit
set_option maxRecDepth 100000

theorem sum_le {f : Nat → Nat} : ∀ n : Nat, (∀ i, i < n → f i ≤ 1) → ((List.range n).map f).sum ≤ n := by
  intro n
  induction n with
  | zero => intro _; exact Nat.le_refl _
  | succ n ih =>
    intro h
    rw [List.range_succ, List.map_append, List.sum_append]
    have := ih fun i hi => h i (by omega)
    have := h n (by omega)
    simp; omega
theorem sum_one {f : Nat → Nat} : ∀ n : Nat, (∀ i, i < n → f i ≤ 1) → ((List.range n).map f).sum = n → ∀ i, i < n → f i = 1 := by
  intro n
  induction n with
  | zero => intro _ _ i hi; omega
  | succ n ih =>
    intro h hs i hi
    rw [List.range_succ, List.map_append, List.sum_append] at hs
    have h1 := sum_le n fun i hi => h i (by omega)
    have h2 := h n (by omega)
    have hs2 : ((List.range n).map f).sum + f n = n + 1 := by simpa using hs
    by_cases e : i = n
    · subst e; omega
    · exact ih (fun i hi => h i (by omega)) (by omega) i (by omega)
theorem once_nodup {q : List Int} (h : onceB q = true) : q.Nodup := by
  rw [List.nodup_iff_count]
  intro a
  obtain ⟨h1, hall⟩ := once_in h
  by_cases ha : a ∈ q
  · obtain ⟨n, rfl⟩ := Int.eq_ofNat_of_zero_le (hall a ha).1
    have := (hall _ ha).2
    rw [h1 n (by omega)]
    exact Nat.le_refl _
  · rw [List.count_eq_zero.2 ha]
    exact Nat.zero_le _
theorem once_of {q : List Int} (hr : ∀ x ∈ q, 0 ≤ x ∧ x < (q.length : Int)) (hd : q.Nodup) : onceB q = true := by
  have hs := count_sum q.length q
  rw [(List.length_filter_eq_length_iff (p := fun x : Int => decide (0 ≤ x ∧ x < (q.length : Int)))).2 (fun x hx => decide_eq_true (hr x hx))] at hs
  unfold onceB
  rw [List.all_eq_true]
  intro i hi
  exact decide_eq_true (sum_one q.length (fun i _ => List.nodup_iff_count.1 hd _) hs i (List.mem_range.1 hi))
theorem getD_at {q : List Int} {k : Nat} (hk : k < q.length) : q.getD k 0 = q[k] := by rw [List.getD_eq_getElem?_getD, List.getElem?_eq_getElem hk]; rfl
theorem once_yes {q : List Int} (h : ∀ k, k < q.length → (0 ≤ q.getD k 0 ∧ q.getD k 0 < (q.length : Int)) ∧ (q.take k).count (q.getD k 0) = 0) : onceB q = true := by
  refine once_of (fun x hx => ?_) ?_
  · obtain ⟨k, hk, rfl⟩ := List.mem_iff_getElem.1 hx
    have := (h k hk).1
    rw [getD_at hk] at this
    exact this
  · refine List.pairwise_iff_getElem.2 fun i j hi hj hij e => ?_
    have h0 := (h j hj).2
    rw [getD_at hj, List.count_eq_zero] at h0
    refine h0 ?_
    rw [← e]
    exact List.mem_take_iff_getElem.2 ⟨i, by omega, rfl⟩
theorem once_no {q : List Int} {k : Nat} (hk : k < q.length) (h : ¬ (0 ≤ q.getD k 0 ∧ q.getD k 0 < (q.length : Int)) ∨ 0 < (q.take k).count (q.getD k 0)) : onceB q = false := by
  rcases (Bool.eq_false_or_eq_true (onceB q)).symm with e | e
  · exact e
  · exfalso
    rw [getD_at hk] at h
    rcases h with h | h
    · exact h ((once_in e).2 _ (List.getElem_mem _))
    · obtain ⟨i, hi, e2⟩ := List.mem_take_iff_getElem.1 (List.count_pos_iff.1 h)
      exact List.pairwise_iff_getElem.1 (once_nodup e) i k (by omega) hk (by omega) e2
/-- six numbers. -/
def arr6 (N : Nat → Int) : Array Value := #[.int .i64 (N 0), .int .i64 (N 1), .int .i64 (N 2), .int .i64 (N 3), .int .i64 (N 4), .int .i64 (N 5)]
theorem arr6_get (N : Nat → Int) {j : Nat} (hj : j < 6) : (arr6 N)[j]? = some (.int .i64 (N j)) := by
  rcases (by omega : j = 0 ∨ j = 1 ∨ j = 2 ∨ j = 3 ∨ j = 4 ∨ j = 5) with rfl | rfl | rfl | rfl | rfl | rfl <;> rfl
def timesN (q : List Int) (k : Nat) : Nat → Int := fun j => (((q.take k).count (j : Int) : Nat) : Int)
theorem times_next {q : List Int} {k j : Nat} (hk : k < q.length) (hj : j < 6) (e : q.getD k 0 = (j : Int)) (h0 : (q.take k).count (j : Int) = 0) : (arr6 (timesN q k)).setIfInBounds j (.int .i64 1) = arr6 (timesN q (k + 1)) := by
  have ht : ∀ i : Nat, timesN q (k + 1) i = timesN q k i + if j = i then 1 else 0 := fun i => by
    unfold timesN
    rw [List.take_add_one, List.getElem?_eq_getElem hk, List.count_append, ← getD_at hk, e]
    by_cases h : j = i
    · subst h; simp
    · have : ¬ (j : Int) = (i : Int) := by omega
      simp [this, h]
  have h1 : timesN q (k + 1) j = 1 := by rw [ht]; unfold timesN; rw [h0]; simp
  have h2 : ∀ i, ¬ j = i → timesN q (k + 1) i = timesN q k i := fun i hi => by rw [ht, if_neg hi]; omega
  unfold arr6
  rcases (by omega : j = 0 ∨ j = 1 ∨ j = 2 ∨ j = 3 ∨ j = 4 ∨ j = 5) with rfl | rfl | rfl | rfl | rfl | rfl <;> simp [h1, h2]

set_option maxHeartbeats 4000000 in
theorem eachOnce_any (q : List Int) (h6 : q.length ≤ 6) (v : Value) (w : World) (h : Reads w v q) :
    Calls Tryd.prog 9 #[v] w fun e w' => e = .returned (.bool (onceB q)) ∧ Below w.heap.size w w' := by
  obtain ⟨ao, cap, rfl⟩ : ∃ ao cap, v = .slice ao q.length cap := by
    rcases h with ⟨ao, cap, rfl, rfl⟩ | ⟨b, off, cap, rfl, _⟩
    · exact ⟨ao, cap, rfl⟩
    · exact ⟨_, cap, rfl⟩
  have HT : Hid (Reads w (.slice ao q.length cap) q) := h
  have HY : Hid ((∀ k, k < q.length → (0 ≤ q.getD k 0 ∧ q.getD k 0 < (q.length : Int)) ∧ (q.take k).count (q.getD k 0) = 0) → onceB q = true) := once_yes
  have HNo : Hid (∀ k, k < q.length → (¬ (0 ≤ q.getD k 0 ∧ q.getD k 0 < (q.length : Int)) ∨ 0 < (q.take k).count (q.getD k 0)) → onceB q = false) := fun k hk h => once_no hk h
  have HNx : Hid (∀ k j : Nat, k < q.length → j < 6 → q.getD k 0 = (j : Int) → (q.take k).count (j : Int) = 0 → (arr6 (timesN q k)).setIfInBounds j (.int .i64 1) = arr6 (timesN q (k + 1))) := fun k j hk hj e h0 => times_next hk hj e h0
  obtain ⟨R, hR⟩ : ∃ R, R = onceB q := ⟨_, rfl⟩
  rw [← hR] at HY HNo ⊢
  obtain ⟨n, hn⟩ : ∃ n, n = q.length := ⟨_, rfl⟩
  have HN : Hid (n = q.length) := hn
  rw [← hn] at HT HY HNo HNx h6 ⊢
  obtain ⟨w1, hw1⟩ : ∃ w1, w1 = w.alloc (.cells #[.int .i64 0, .int .i64 0, .int .i64 0, .int .i64 0, .int .i64 0, .int .i64 0] 57) := ⟨_, rfl⟩
  have HB1 : Hid (Below w.heap.size w w1) := by unfold Hid; rw [hw1]; exact below_alloc1 _ _
  have HP1 : Hid (Blk w1 w.heap.size 57 (arr6 (timesN q 0))) := by unfold Hid; rw [hw1]; exact Blk.new _ _ _
  clear h hn hR
  go_enter Tryd.func9, Tryd.ntmps9
  go_wp2
  rw [← hw1]
  clear hw1
  go_loopw [5, 8] (fun _ i wr => ∃ k : Nat, k ≤ n ∧ i = .int .i64 k ∧ Blk wr w.heap.size 57 (arr6 (timesN q k)) ∧ Below w.heap.size w wr ∧ ∀ m, m < k → (0 ≤ q.getD m 0 ∧ q.getD m 0 < (n : Int)) ∧ (q.take m).count (q.getD m 0) = 0) (fun _ i _ => n - (intOf i).toNat)
  case atStart => exact ⟨0, Nat.zero_le _, rfl, HP1.out, HB1.out, fun m hm => absurd hm (Nat.not_lt_zero _)⟩
  case round =>
    obtain ⟨k, hk, rfl, hblk, hbr, hall⟩ := hrel
    have HBr : Hid (Below w.heap.size w wr) := hbr
    have HK : Hid (Blk wr w.heap.size 57 (arr6 (timesN q k))) := hblk
    have HA : Hid (∀ m, m < k → (0 ≤ q.getD m 0 ∧ q.getD m 0 < (n : Int)) ∧ (q.take m).count (q.getD m 0) = 0) := hall
    clear hblk hbr hall
    by_cases hlt : k < n
    · obtain ⟨b, off, hao, hcl⟩ : ∃ b off, ao = some ⟨b, off, none⟩ ∧ wr.cell? ⟨b, off + k, none⟩ = some (.int .i64 (q.getD k 0)) := by
        rcases HT.out with ⟨ao', cap', hv, h0⟩ | ⟨b, off, cap', hv, hb, _, _, hcell⟩
        · have := HN.out; rw [h0] at this; simp at this; omega
        · obtain ⟨h1, _, _⟩ := Value.slice.inj hv
          exact ⟨b, off, h1, (HBr.out.cell hb).trans (hcell k (by rw [← HN.out]; exact hlt))⟩
      subst hao
      have hkn : (k : Int) < (n : Int) := by omega
      by_cases hx0 : q.getD k 0 < 0
      · have HR : Hid (R = false) := HNo.out k hlt (Or.inl (by omega))
        obtain ⟨x, hx⟩ : ∃ x, x = q.getD k 0 := ⟨_, rfl⟩
        rw [← hx] at hcl hx0
        clear hx
        go_wp2
        go_ret
        exact ⟨by first | (rw [HR.out]; done) | (rw [HR.out]; rfl), HBr.out⟩
      by_cases hxn : (n : Int) ≤ q.getD k 0
      · have HR : Hid (R = false) := HNo.out k hlt (Or.inl (by omega))
        obtain ⟨x, hx⟩ : ∃ x, x = q.getD k 0 := ⟨_, rfl⟩
        rw [← hx] at hcl hx0 hxn
        clear hx
        go_wp2
        go_ret
        exact ⟨by first | (rw [HR.out]; done) | (rw [HR.out]; rfl), HBr.out⟩
      obtain ⟨j, hj⟩ : ∃ j : Nat, q.getD k 0 = (j : Int) := ⟨(q.getD k 0).toNat, by omega⟩
      have HJ : Hid (q.getD k 0 = (j : Int)) := hj
      rw [hj] at hcl hx0 hxn
      have hjn : (j : Int) < (n : Int) := by omega
      have hj6 : j < 6 := by omega
      have y : wr.cell? ⟨w.heap.size, j, none⟩ = some (.int .i64 (((q.take k).count (j : Int) : Nat) : Int)) := by rw [HK.out.cell j, arr6_get _ hj6]; rfl
      have fz : wr.frozen? ⟨w.heap.size, j, none⟩ = false := HK.out.frozen j
      clear hj hx0 hxn
      by_cases hc : (q.take k).count (j : Int) = 0
      · have HKn : Hid (Blk (wr.setCell ⟨w.heap.size, j, none⟩ (.int .i64 1)) w.heap.size 57 (arr6 (timesN q (k + 1)))) := by
          unfold Hid; rw [← HNx.out k j hlt hj6 HJ.out hc]; exact HK.out.set j _
        have HBn : Hid (Below w.heap.size w (wr.setCell ⟨w.heap.size, j, none⟩ (.int .i64 1))) := HBr.out.setCell (Nat.le_refl _) _
        have HAn : Hid (∀ m, m < k + 1 → (0 ≤ q.getD m 0 ∧ q.getD m 0 < (n : Int)) ∧ (q.take m).count (q.getD m 0) = 0) := fun m hm => by
          by_cases e : m = k
          · subst e; rw [HJ.out]; exact ⟨⟨by omega, hjn⟩, hc⟩
          · exact HA.out m (by omega)
        rw [hc] at y
        clear hc
        go_wp2
        go_roundw
        case rel => exact ⟨k + 1, by omega, by go_num, HKn.out, HBn.out, HAn.out⟩
        case measure => simp [intOf]; omega
      · have HR : Hid (R = false) := HNo.out k hlt (Or.inr (by rw [HJ.out]; omega))
        obtain ⟨c, hcc⟩ : ∃ c, c = (q.take k).count (j : Int) := ⟨_, rfl⟩
        rw [← hcc] at y hc
        have hc0 : 0 < (c : Int) := by omega
        clear hcc hc
        go_wp2
        go_ret
        exact ⟨by first | (rw [HR.out]; done) | (rw [HR.out]; rfl), HBr.out⟩
    · obtain rfl : k = n := by omega
      have HR : Hid (R = true) := HY.out HA.out
      go_wp2
      go_ret
      exact ⟨by first | (rw [HR.out]; done) | (rw [HR.out]; rfl), HBr.out⟩

set_option maxHeartbeats 4000000 in
theorem renamed_any (t : List Int) (p : Nat → Int) (hs : t.all signB = true) (h12 : t.length ≤ 12) (v : Value) (w : World) (h : Reads w v t) :
    Calls Tryd.prog 10 #[v, .agg #[.int .i64 (p 0), .int .i64 (p 1), .int .i64 (p 2)]] w fun e w' => ∃ v' K, e = .returned v' ∧ w.heap.size ≤ K ∧ w'.ownsRow K 3 1 v' t.length ((renT p t).map (Value.int .i64)) ∧ Below w.heap.size w w' := by
  obtain ⟨ao, cap, rfl, hl63⟩ : ∃ ao cap, v = .slice ao t.length cap ∧ t.length ≤ 9223372036854775807 := by
    rcases h with ⟨ao, cap, rfl, rfl⟩ | ⟨b, off, cap, rfl, _, _, h, _⟩
    · exact ⟨ao, cap, rfl, by decide⟩
    · exact ⟨_, cap, rfl, h.1⟩
  have HT : Hid (Reads w (.slice ao t.length cap) t) := h
  have HSg : Hid (∀ k, k < t.length → 0 ≤ t.getD k 0 ∧ t.getD k 0 ≤ 8) := fun k hk => by
    have := List.all_eq_true.1 hs (t.getD k 0) (by rw [List.getD_eq_getElem?_getD, List.getElem?_eq_getElem hk]; exact List.getElem_mem _)
    exact signB_iff.1 this
  obtain ⟨n, hn⟩ : ∃ n, n = t.length := ⟨_, rfl⟩
  rw [← hn] at HT HSg h12 ⊢
  have HN : Hid (n = t.length) := hn
  obtain ⟨w1, hw1⟩ : ∃ w1, w1 = w.alloc (.cells #[.int .i64 (p 0), .int .i64 (p 1), .int .i64 (p 2)] 26) := ⟨_, rfl⟩
  have HB1 : Hid (Below w.heap.size w w1) := by unfold Hid; rw [hw1]; exact below_alloc1 _ _
  have HP1 : Hid (Blk w1 w.heap.size 26 (arr3 p)) := by unfold Hid; rw [hw1]; exact Blk.new _ _ _
  clear h hs hn hl63
  go_enter Tryd.func10, Tryd.ntmps10
  go_wp2
  rw [← hw1]
  clear hw1
  go_loopw [5, 7, 10] (fun r _ i wr => ∃ k : Nat, k ≤ n ∧ i = .int .i64 k ∧ wr.ownsRow w1.heap.size 3 1 r k ((renT p (t.take k)).map (Value.int .i64)) ∧ Below w1.heap.size w1 wr) (fun _ _ i _ => n - (intOf i).toNat)
  case atStart => exact ⟨0, Nat.zero_le _, rfl, World.ownsRow_nil _ _ _ _, Below.refl _ _⟩
  case round =>
    obtain ⟨k, hk, rfl, hown, hbr⟩ := hrel
    have HBr : Hid (Below w1.heap.size w1 wr) := hbr
    have HBw : Hid (Below w.heap.size w wr) := HB1.out.trans (hbr.mono HB1.out.size)
    have HOw : Hid (wr.ownsRow w1.heap.size 3 1 u5 k ((renT p (t.take k)).map (Value.int .i64))) := hown
    clear hbr hown
    by_cases hlt : k < n
    · obtain ⟨b, off, hao, hcl⟩ : ∃ b off, ao = some ⟨b, off, none⟩ ∧ wr.cell? ⟨b, off + k, none⟩ = some (.int .i64 (t.getD k 0)) := by
        rcases HT.out with ⟨ao', cap', hv, h0⟩ | ⟨b, off, cap', hv, hb, _, _, hcell⟩
        · have := HN.out; rw [h0] at this; simp at this; omega
        · obtain ⟨h1, _, _⟩ := Value.slice.inj hv
          exact ⟨b, off, h1, (HBw.out.cell hb).trans (hcell k (by rw [← HN.out]; exact hlt))⟩
      subst hao
      obtain ⟨s0, s8⟩ := HSg.out k hlt
      obtain ⟨l, hl⟩ : ∃ l, l = renT p (t.take k) := ⟨_, rfl⟩
      have HLl : Hid (l.length = k) := by unfold Hid; rw [hl]; unfold renT; rw [List.length_map, List.length_take, ← HN.out]; omega
      have HO6 : Hid (wr.ownsRow w1.heap.size 3 1 u5 l.length (l.map (Value.int .i64))) := by unfold Hid; rw [HLl.out, hl]; exact HOw.out
      have HLs : Hid (renT p (t.take (k + 1)) = l ++ [renS p (t.getD k 0)]) := by
        unfold Hid
        have hk' : k < t.length := by rw [← HN.out]; exact hlt
        rw [List.take_add_one, List.getElem?_eq_getElem hk', hl]
        unfold renT
        rw [List.map_append, List.getD_eq_getElem?_getD, List.getElem?_eq_getElem hk']
        rfl
      have HS : Hid (w1.heap.size ≤ wr.heap.size) := HBr.out.size
      have hl20 : l.length ≤ 20 := by have := HLl.out; omega
      obtain ⟨s, hs⟩ : ∃ s, s = t.getD k 0 := ⟨_, rfl⟩
      rw [← hs] at hcl s0 s8 HLs
      clear hl hs
      have hkn : (k : Int) < (n : Int) := by omega
      by_cases h3 : s < 3
      · obtain ⟨j, rfl⟩ := Int.eq_ofNat_of_zero_le s0
        have hj3 : j < 3 := by omega
        have HLs' : Hid (renT p (t.take (k + 1)) = l ++ [p j]) := by
          unfold Hid
          rw [HLs.out]
          unfold renS
          rw [if_pos h3, Int.toNat_natCast]
        have y : wr.cell? ⟨w.heap.size, j, none⟩ = some (.int .i64 (p j)) := by
          rw [(HP1.out.below HBr.out).cell j]
          rcases (by omega : j = 0 ∨ j = 1 ∨ j = 2) with rfl | rfl | rfl <;> rfl
        clear HLs s0 s8
        go_wp2_with (at_builtin; refine append_turn rfl _ _ rfl w1.heap.size u5 rfl l (p j) wr.heap.size 1 rfl (HO6.out.alloc _) (heap_alloc_new wr _) (by have := HS.out; simp; omega) hl20 ?_)
        intro v9 w9 hown hgrow
        have HBa : Hid (Below w1.heap.size w1 (wr.alloc (.cells #[.int .i64 (p j)] 3))) := HBr.out.alloc HBr.out.size _
        have HB9 : Hid (Below w1.heap.size w1 w9) := HBa.out.grown hgrow HBa.out.size (fun x hx => (HO6.out.lt x hx).1)
        have HO9 : Hid (w9.ownsRow w1.heap.size 3 1 v9 (k + 1) ((renT p (t.take (k + 1))).map (Value.int .i64))) := by
          unfold Hid
          rw [HLs'.out]
          have hl := HLl.out
          rw [← hl, List.map_append]
          exact hown
        clear hown hgrow
        go_wp2
        go_roundw
        case rel => exact ⟨k + 1, by omega, by go_num, HO9.out, HB9.out⟩
        case measure => simp [intOf]; omega
      · have HLs' : Hid (renT p (t.take (k + 1)) = l ++ [s]) := by
          unfold Hid
          rw [HLs.out]
          unfold renS
          rw [if_neg h3]
        clear HLs
        go_wp2_with (at_builtin; refine append_turn rfl _ _ rfl w1.heap.size u5 rfl l s wr.heap.size 1 rfl (HO6.out.alloc _) (heap_alloc_new wr _) (by have := HS.out; simp; omega) hl20 ?_)
        intro v9 w9 hown hgrow
        have HBa : Hid (Below w1.heap.size w1 (wr.alloc (.cells #[.int .i64 s] 3))) := HBr.out.alloc HBr.out.size _
        have HB9 : Hid (Below w1.heap.size w1 w9) := HBa.out.grown hgrow HBa.out.size (fun x hx => (HO6.out.lt x hx).1)
        have HO9 : Hid (w9.ownsRow w1.heap.size 3 1 v9 (k + 1) ((renT p (t.take (k + 1))).map (Value.int .i64))) := by
          unfold Hid
          rw [HLs'.out]
          have hl := HLl.out
          rw [← hl, List.map_append]
          exact hown
        clear hown hgrow
        go_wp2
        go_roundw
        case rel => exact ⟨k + 1, by omega, by go_num, HO9.out, HB9.out⟩
        case measure => simp [intOf]; omega
    · obtain rfl : k = n := by omega
      have HOf : Hid (wr.ownsRow w1.heap.size 3 1 u5 k ((renT p t).map (Value.int .i64))) := by
        have h := HOw.out
        rw [HN.out, List.take_length] at h
        unfold Hid
        rw [HN.out]
        exact h
      have HSz : Hid (w.heap.size ≤ w1.heap.size) := HB1.out.size
      go_wp2
      go_ret
      exact ⟨u5, w1.heap.size, rfl, HSz.out, HOf.out, HBw.out⟩

set_option maxHeartbeats 2000000 in
theorem clone_any (t : List Int) (v : Value) (w : World) (h : Reads w v t) (h0 : 0 < t.length) (hl : t.length ≤ 40) :
    Calls Tryd.prog 11 #[v] w fun e w' => ∃ v', e = .returned v' ∧ FreshT w.heap.size w' v' t ∧ Below w.heap.size w w' := by
  obtain ⟨i0, hi, hz0, hz1, hz2⟩ := info_parts infoInt
  rcases h with ⟨ao, cap, rfl, rfl⟩ | ⟨b, off, cap, rfl, hB, _, ⟨_, hcap⟩, hc⟩
  · simp at h0
  · have HC : Hid (∀ k, k < t.length → (w.alloc (.cells #[] 3)).cell? ⟨b, off + k, none⟩ = some (.int .i64 (t.getD k 0))) := fun k hk => by
      rw [World.cell?_alloc_lt _ _ ⟨b, off + k, none⟩ hB]; exact hc k hk
    clear hc hB
    obtain ⟨n, hn⟩ : ∃ n, n = t.length := ⟨_, rfl⟩
    have HN : Hid (n = t.length) := hn
    obtain ⟨K, hK⟩ : ∃ K, K = w.heap.size := ⟨_, rfl⟩
    have HK : Hid (K = w.heap.size) := hK
    have HO0 : Hid ((w.alloc (.cells #[] 3)).ownsRow K 3 1 (.slice (some ⟨w.heap.size, 0, none⟩) 0 0) 0 []) := World.ownsRow_lit w #[] 0 (by omega) (by unfold maxLen; omega) rfl
    rw [← hn] at hl h0 hcap ⊢
    rw [← hK]
    clear hn hK
    have q22 : ∀ (w : World) (a : Option Addr) (n c n' c' : Nat), (binOp .eql 23 (.slice a n c) (.slice none n' c')).run Tryd.prog w = .ok (.bool a.isNone) w := fun w a n c n' c' => Lib.run_eql_slice_nil w _ _ a n c n' c' Tryd.underlying23
    go_enter Tryd.func11, Tryd.ntmps11
    go_wp2_with (first | (at_builtin; refine wpList_append_own _ rfl _ _ 23 rfl K 3 i0 (.int .i64 0) 1 8 Tryd.underlying23 hi hz0 hz1 hz2 rfl (by decide) (.slice (some ⟨w.heap.size, 0, none⟩) 0 0) 0 [] rfl HO0.out ⟨b, off, none⟩ n cap (t.map (Value.int .i64)) rfl ?a0 ?a1 ?a2 ?a3 ?a4 ?a5 ?_))
    case a0 => rw [List.length_map, HN.out, Nat.mul_one]
    case a1 =>
      intro j u hu
      rw [Go.WideShapes.add_plain]
      have hj : j < t.length := by have := (List.getElem?_eq_some_iff.1 hu).1; simpa using this
      rw [HC.out j hj]
      rw [← hu]
      simp [List.getElem?_eq_getElem hj]
    case a2 => intro u hu; simp at hu; obtain ⟨_, _, rfl⟩ := hu; rfl
    case a3 => unfold maxLen; omega
    case a4 => omega
    case a5 => have := HK.out; simp; omega
    intro v' w2 hown' hgrow _
    have HO : Hid (FreshT K w2 v' t ∧ Below K w w2) := by
      refine ⟨?_, ((Below.refl _ w).alloc (by rw [HK.out]; exact Nat.le_refl _) _).grown hgrow (by have := HK.out; simp; omega) (fun k hk => by have := HK.out; simp [Value.ownBlock] at hk; omega)⟩
      have : w2.ownsRow K 3 1 v' n (t.map (Value.int .i64)) := by simpa using hown'
      rw [HN.out] at this
      exact this
    clear hown' hgrow
    go_wp2
    go_ret
    exact ⟨_, rfl, HO.out.1, HO.out.2⟩

theorem moved_part {q : List Int} (h : onceB q = true) (x : Int) {k : Nat} (hk : k ≤ q.length) : movedN q x k = maskTo (fun j => decide (placeN q (j : Int) < k) && hasB x (placeN q (j : Int))) q.length := by
  rw [mask_sum]
  have e := once_sum h fun y => if (decide (placeN q y < k) && hasB x (placeN q y)) = true then pw y.toNat else 0
  have e1 : ((List.range q.length).map fun i : Nat => if (decide (placeN q (q.getD i 0) < k) && hasB x (placeN q (q.getD i 0))) = true then pw (q.getD i 0).toNat else 0) = (List.range q.length).map fun i : Nat => if (decide (i < k) && hasB x i) = true then pw (q.getD i 0).toNat else 0 := by
    refine List.map_congr_left fun i hi => ?_
    rw [(once_place h (List.mem_range.1 hi)).1]
  rw [e1] at e
  have e2 : ∀ d, ((List.range (k + d)).map fun i : Nat => if (decide (i < k) && hasB x i) = true then pw (q.getD i 0).toNat else 0).sum = movedN q x k := by
    intro d
    induction d with
    | zero =>
      rw [moved_sum, Nat.add_zero]
      congr 1
      refine List.map_congr_left fun i hi => ?_
      rw [decide_eq_true (List.mem_range.1 hi), Bool.true_and]
    | succ d ih =>
      rw [← Nat.add_assoc, List.range_succ, List.map_append, List.sum_append, ih]
      have : decide (k + d < k) = false := decide_eq_false (by omega)
      simp only [List.map_cons, List.map_nil, List.sum_cons, List.sum_nil, this, Bool.false_and]
      simp
  have e3 := e2 (q.length - k)
  rw [show k + (q.length - k) = q.length by omega] at e3
  rw [← e3, e]
  congr 1
theorem turn_and : ∀ x : Nat, x < 64 → ∀ k : Nat, k < 6 → bits .and .i64 ((x : Int) / 2 ^ k) 1 = oneB (hasB x k) := by decide +kernel
theorem turn_or : ∀ m : Nat, m < 64 → ∀ j : Nat, j < 6 → hasB m j = false → ∀ b, bits .or .i64 (m : Int) (wrap64 (oneB b * 2 ^ j)) = m + if b = true then pw j else 0 := by decide +kernel
theorem moved_step {q : List Int} (h : onceB q = true) (h6 : q.length ≤ 6) {x : Nat} (hx : x < 64) {k j : Nat} (hk : k < q.length) (hj : q.getD k 0 = (j : Int)) : bits .or .i64 (movedN q x k) (wrap64 (bits .and .i64 ((x : Int) / 2 ^ k) 1 * 2 ^ j)) = movedN q x (k + 1) := by
  obtain ⟨h1, h2, h3⟩ := once_place h hk
  have hjq : j < q.length := by omega
  have hb : hasB (movedN q x k) j = false := by
    rw [moved_part h x (Nat.le_of_lt hk), has_mask _ (by omega) hjq, ← hj, h1, decide_eq_false (Nat.lt_irrefl k), Bool.false_and]
  have hle : 0 ≤ movedN q x k ∧ movedN q x k < 64 := by
    rw [moved_part h x (Nat.le_of_lt hk)]
    have := maskTo_le (fun j => decide (placeN q (j : Int) < k) && hasB x (placeN q (j : Int))) q.length
    have hp : ∀ n, n ≤ 6 → pw n ≤ 64 := by decide
    have := hp q.length h6
    omega
  show _ = movedN q x k + if hasB x k = true then pw (q.getD k 0).toNat else 0
  rw [hj, Int.toNat_natCast, turn_and x hx k (by omega)]
  obtain ⟨m, hm⟩ := Int.eq_ofNat_of_zero_le hle.1
  rw [hm] at hb hle ⊢
  exact turn_or m (by omega) j (by omega) hb _
set_option maxHeartbeats 4000000 in
theorem movedT_any (x : Nat) (q : List Int) (hx : x < 64) (h6 : q.length ≤ 6) (ho : onceB q = true) (v : Value) (w : World) (h : Reads w v q) :
    Calls Tryd.prog 22 #[.int .i64 (x : Int), v] w fun e w' => e = .returned (.int .i64 (movedN q x q.length)) ∧ w' = w := by
  obtain ⟨ao, cap, rfl⟩ : ∃ ao cap, v = .slice ao q.length cap := by
    rcases h with ⟨ao, cap, rfl, rfl⟩ | ⟨b, off, cap, rfl, _⟩
    · exact ⟨ao, cap, rfl⟩
    · exact ⟨_, cap, rfl⟩
  have HT : Hid (Reads w (.slice ao q.length cap) q) := h
  have HJ : Hid (∀ k, k < q.length → ∃ j : Nat, q.getD k 0 = (j : Int) ∧ j < 6) := fun k hk => by
    obtain ⟨_, h1, h2⟩ := once_place ho hk
    exact ⟨(q.getD k 0).toNat, by omega, by omega⟩
  obtain ⟨n, hn⟩ : ∃ n, n = q.length := ⟨_, rfl⟩
  have HN : Hid (n = q.length) := hn
  rw [← hn] at HT HJ h6 ⊢
  clear h hn
  obtain ⟨M, hM⟩ : ∃ M : Nat → Int, M = movedN q x := ⟨_, rfl⟩
  have HM0 : Hid (M 0 = 0) := by unfold Hid; rw [hM]; rfl
  have HMs : Hid (∀ k j : Nat, k < n → q.getD k 0 = (j : Int) → bits .or .i64 (M k) (wrap64 (bits .and .i64 ((x : Int) / 2 ^ k) 1 * 2 ^ j)) = M (k + 1)) := fun k j hk hj => by
    rw [hM]; exact moved_step ho (by rw [← HN.out]; exact h6) hx (by rw [← HN.out]; exact hk) hj
  rw [← hM]
  clear hM
  go_enter Tryd.func22, Tryd.ntmps22
  go_wp2
  go_loop [5, 6, 7, 10] (fun r _ _ i => ∃ k : Nat, k ≤ n ∧ i = .int .i64 k ∧ r = .int .i64 (M k)) (fun _ _ _ i => n - (intOf i).toNat)
  case atStart => exact ⟨0, Nat.zero_le _, rfl, by rw [HM0.out]⟩
  case round =>
    obtain ⟨k, hk, rfl, rfl⟩ := hrel
    by_cases hlt : k < n
    · obtain ⟨b, off, hao, hcl⟩ : ∃ b off, ao = some ⟨b, off, none⟩ ∧ w.cell? ⟨b, off + k, none⟩ = some (.int .i64 (q.getD k 0)) := by
        rcases HT.out with ⟨ao', cap', hv, h0⟩ | ⟨b, off, cap', hv, hb, _, _, hcell⟩
        · have := HN.out; rw [h0] at this; simp at this; omega
        · obtain ⟨h1, _, _⟩ := Value.slice.inj hv
          exact ⟨b, off, h1, hcell k (by rw [← HN.out]; exact hlt)⟩
      subst hao
      have hkn : (k : Int) < (n : Int) := by omega
      obtain ⟨j, hj, hj6⟩ := HJ.out k hlt
      rw [hj] at hcl
      have Hj : Hid (q.getD k 0 = (j : Int)) := hj
      clear hj
      go_wp2
      go_round
      case rel => exact ⟨k + 1, by omega, by go_num, by rw [HMs.out k j hlt Hj.out]⟩
      case measure => simp [intOf]; omega
    · obtain rfl : k = n := by omega
      go_wp2
      go_ret
      exact ⟨rfl, rfl⟩
end Go.Proofs.YteknlcachfhfkaiDoor
