/-
  Proved: what fit.Least returns, of any number of things and any rows; what was in memory is as it was (a contract that the statements lean on).
-/
import Derived.Test.YtjaedfjfcghgcabGreatDoorLibT18
namespace Go.Proofs.YtjaedfjfcghgcabGreatDoor
open Go.ChangeShapes Go.WideShapes Go.ChangeAt Go.RowKit
set_option maxRecDepth 100000
attribute [local go_sem] Oper.semAt_some

theorem first_fit {A : List (Nat → Int)} {p : (Nat → Int) → Bool} {k : Nat} {x : Nat → Int} (h : A[k]? = some x) (hn : ∀ j, j < k → ∀ M, A[j]? = some M → p M = false) (hp : p x = true) : leastD A p 0 = x ∧ ¬ manyD A p 0 = 0 := by
  obtain ⟨hk, rfl⟩ := List.getElem?_eq_some_iff.1 h
  have hf : A.find? p = some A[k] := List.find?_eq_some_iff_getElem.2 ⟨hp, k, hk, rfl, fun j hj => by simpa using hn j hj A[j] (List.getElem?_eq_getElem _)⟩
  refine ⟨by unfold leastD; rw [List.drop_zero, hf]; rfl, fun h0 => ?_⟩
  unfold manyD at h0
  rw [List.drop_zero] at h0
  have hm : A[k] ∈ A.filter p := List.mem_filter.2 ⟨List.getElem_mem _, hp⟩
  rw [List.eq_nil_of_length_eq_zero h0] at hm
  cases hm
theorem none_fit {A : List (Nat → Int)} {p : (Nat → Int) → Bool} (hn : ∀ j, j < A.length → ∀ M, A[j]? = some M → p M = false) : manyD A p 0 = 0 := by
  unfold manyD
  rw [List.drop_zero, List.length_eq_zero_iff, List.filter_eq_nil_iff]
  intro M hM
  obtain ⟨j, hj⟩ := List.mem_iff_getElem?.1 hM
  rw [hn j (List.getElem?_eq_some_iff.1 hj).1 M hj]
  decide
theorem four_new (w : World) (o0 o1 o2 o3 : Obj) :
    ((((w.alloc o0).alloc o1).alloc o2).alloc o3).heap.size = w.heap.size + 4 ∧
    ((((w.alloc o0).alloc o1).alloc o2).alloc o3).heap[w.heap.size]? = some o0 ∧
    ((((w.alloc o0).alloc o1).alloc o2).alloc o3).heap[w.heap.size + 1]? = some o1 ∧
    ((((w.alloc o0).alloc o1).alloc o2).alloc o3).heap[w.heap.size + 1 + 1]? = some o2 ∧
    ((((w.alloc o0).alloc o1).alloc o2).alloc o3).heap[w.heap.size + 1 + 1 + 1]? = some o3 ∧
    Below w.heap.size w ((((w.alloc o0).alloc o1).alloc o2).alloc o3) := by
  have s1 : (w.alloc o0).heap.size = w.heap.size + 1 := World.size_alloc _ _
  have s2 : ((w.alloc o0).alloc o1).heap.size = w.heap.size + 1 + 1 := by rw [World.size_alloc, s1]
  have s3 : (((w.alloc o0).alloc o1).alloc o2).heap.size = w.heap.size + 1 + 1 + 1 := by rw [World.size_alloc, s2]
  refine ⟨by rw [World.size_alloc, s3], ?_, ?_, ?_, ?_, ?_⟩
  · rw [Below.heap_alloc _ _ _ (by omega), Below.heap_alloc _ _ _ (by omega), Below.heap_alloc _ _ _ (by omega)]; exact World.alloc_heap_new _ _
  · rw [Below.heap_alloc _ _ _ (by omega), Below.heap_alloc _ _ _ (by omega), ← s1]; exact World.alloc_heap_new _ _
  · rw [Below.heap_alloc _ _ _ (by omega), ← s2]; exact World.alloc_heap_new _ _
  · rw [← s3]; exact World.alloc_heap_new _ _
  · exact ((((Below.refl _ w).alloc (Nat.le_refl _) _).alloc (by omega) _).alloc (by omega) _).alloc (by omega) _
theorem over_put8 {B : Nat} {X W : World} {R : Nat} (h : Over B X W) (hR : R < B) (M : Nat → Int) : Over B X (put8 W R M) :=
  (((((((h.setCell hR _).setCell hR _).setCell hR _).setCell hR _).setCell hR _).setCell hR _).setCell hR _).setCell hR _
theorem put8_block {W : World} {R D : Nat} (hD : D ≠ R) (M : Nat → Int) : (put8 W R M).heap[D]? = W.heap[D]? := by
  unfold put8
  rw [Below.heap_setCell _ _ _ _ (by exact hD), Below.heap_setCell _ _ _ _ (by exact hD), Below.heap_setCell _ _ _ _ (by exact hD), Below.heap_setCell _ _ _ _ (by exact hD), Below.heap_setCell _ _ _ _ (by exact hD), Below.heap_setCell _ _ _ _ (by exact hD), Below.heap_setCell _ _ _ _ (by exact hD), Below.heap_setCell _ _ _ _ (by exact hD)]

/-- the return behind the loop: what lies in the two cells. -/
theorem least_leaves {w W : World} {D : Nat} {R : Nat → Int} {E : Value} {tmps : Array Value} {Q : Ending → World → Prop} (hD : w.heap.size + 4 ≤ D) (hK : W.heap[D]? = some (.deferred (some []))) (hB : Below w.heap.size w W)
    (c1 : Blk W (w.heap.size + 1) 44 (arr8 R)) (c2 : Blk W (w.heap.size + 1 + 1) 29 #[E])
    (t1 : tmps.getD 4 undef = .pointer (some ⟨w.heap.size + 1, 0, none⟩)) (t2 : tmps.getD 5 undef = .pointer (some ⟨w.heap.size + 1 + 1, 0, none⟩))
    (hQ : ∀ W', Below w.heap.size w W' → Q (.returned (.tuple #[.agg (arr8 R), E])) W') :
    LeavesInM Fence.wide 3 Tryz.prog Tryz.f71 tmps Q [{ target := .collected D, args := #[] }] .returning W := by
  refine ⟨by simp, .inl ⟨_, _, rfl, run_takeDeferred hK, ?_⟩⟩
  have l1 := load8 (c1.putO (.deferred none) (l := D) (by omega))
  have l2 := loadE (c2.putO (.deferred none) (l := D) (by omega))
  refine ⟨.tuple #[.agg (arr8 R), E], ?_, hQ _ (hB.trans (below_putObj _ _ (by omega)))⟩
  rw [results_two rfl, t1, t2]
  simp [asAddr, Result.andThen, l1, l2]

set_option maxHeartbeats 4000000 in
theorem least_right (n : Nat) (hn : n ≤ 6) (l : List Rw) (v : Value) (w : World) (hR : ReadsR w v l) (hr : rowsFault l = 0) :
    Calls Tryz.prog 71 #[.int .i64 n, v] w fun e w' => ((e = .returned (.tuple #[.agg (arr8 (leastD (everyC n) (fitB l) 0)), .nilIface]) ∧ ¬ manyD (everyC n) (fitB l) 0 = 0) ∨ (e = .returned (.tuple #[.agg (arr8 zeroC), .iface 75 (.int .i64 5)]) ∧ manyD (everyC n) (fitB l) 0 = 0)) ∧ Below w.heap.size w w' := by
  obtain ⟨lao, lcap, rfl, hll⟩ := hR.slice
  obtain ⟨A, hA⟩ : ∃ A, A = everyC n := ⟨_, rfl⟩
  obtain ⟨p, hp⟩ : ∃ p, p = fitB l := ⟨_, rfl⟩
  have HF : Hid (∀ (k : Nat) (M : Nat → Int) W, A[k]? = some M → Below w.heap.size w W → Calls Tryz.prog 39 #[.slice lao l.length lcap, .agg #[.int .i64 (M 0), .int .i64 (M 1), .int .i64 (M 2), .int .i64 (M 3), .int .i64 (M 4), .int .i64 (M 5), .int .i64 (M 6), .int .i64 (M 7)]] W fun e w' => e = .returned (.tuple #[.bool (p M), .nilIface]) ∧ Below W.heap.size W w') := fun k M W hM hW => by
    have h := rfits_any l _ M W (hR.below hW)
    have hc : countsFault M = 0 := everyC_right hn (by rw [hA] at hM; exact List.mem_of_getElem? hM)
    have ef : fitsFault l M = 0 := by unfold fitsFault; rw [if_pos hr, hc]
    have e : fitsIs l M = p M := by unfold fitsIs; rw [if_pos ef, hp]; rfl
    rw [e, ef] at h
    exact h
  have HS : Hid (∀ Bu W, W.cell? ⟨Bu, 0, none⟩ = some (.int .i64 n) → SeqG 2 Tryz.prog 74 #[.pointer (some ⟨Bu, 0, none⟩)] enc8 A W) := fun Bu W hB => by rw [hA]; exact iter_any n hn 2 (by omega) Bu W hB
  have HLn : Hid (0 < A.length) := by unfold Hid; rw [hA]; exact List.length_pos_iff.2 (allF_ne 7 n _)
  have HCk : Hid (∀ W, Calls Tryz.prog 38 #[.int .i64 n] W fun e w' => e = .returned .nilIface ∧ W = w') := fun W => fitCheck_ok n hn W
  rw [← hA, ← hp]
  clear hA hp hr hn
  obtain ⟨Z, hZ⟩ : ∃ Z : Nat → Int, Z = zeroC := ⟨_, rfl⟩
  refine (callsIn_wide (n := 3)).1 ?_
  refine callsIn_of_wp_marks Tryz.func71 rfl trivial ?_ rfl
  simp only [Tryz.ntmps71, List.size_toArray, List.length_cons, List.length_nil, Nat.reduceAdd, Nat.reduceSub, Array.replicate_succ, Array.replicate_zero, List.push_toArray, List.append_toArray, List.nil_append, List.cons_append]
  have HZ : Hid (Z = zeroC) := hZ
  clear hZ
  gi_wp2_with fail
  refine ⟨trivial, ?_⟩
  gi_at_call 38
  refine (callsIn_wide.2 (HCk.out _)).mono ?_
  rintro e w1 ⟨rfl, rfl⟩
  gi_wp2_with fail
  refine ⟨trivial, ?_⟩
  gi_at_call 28
  refine (callsIn_wide.2 (fitAll_any _ _)).mono ?_
  rintro e w3 ⟨rfl, rfl⟩
  gi_wp2_with fail
  obtain ⟨hsz, b0, b1, b2, b3, hB0⟩ := four_new w (.cells #[.slice lao l.length lcap] 43) (.cells #[.int .i64 0, .int .i64 0, .int .i64 0, .int .i64 0, .int .i64 0, .int .i64 0, .int .i64 0, .int .i64 0] 44) (.cells #[.nilIface] 29) (.cells #[.int .i64 n] 3)
  obtain ⟨wl, hwl⟩ : ∃ x, x = (((w.alloc (.cells #[.slice lao l.length lcap] 43)).alloc (.cells #[.int .i64 0, .int .i64 0, .int .i64 0, .int .i64 0, .int .i64 0, .int .i64 0, .int .i64 0, .int .i64 0] 44)).alloc (.cells #[.nilIface] 29)).alloc (.cells #[.int .i64 n] 3) := ⟨_, rfl⟩
  rw [← hwl] at hsz b0 b1 b2 b3 hB0 ⊢
  clear hwl
  have HB0 : Hid (Below w.heap.size w wl) := hB0
  have Hsz : Hid (wl.heap.size = w.heap.size + 4) := hsz
  have H0 : Hid (Blk wl w.heap.size 43 #[.slice lao l.length lcap]) := b0
  have H1 : Hid (Blk wl (w.heap.size + 1) 44 (arr8 Z)) := by unfold Hid; rw [HZ.out]; exact b1
  have H2 : Hid (Blk wl (w.heap.size + 1 + 1) 29 #[.nilIface]) := b2
  have H4 : Hid (Blk wl (w.heap.size + 1 + 1 + 1) 3 #[.int .i64 n]) := b3
  clear hsz b0 b1 b2 b3 hB0
  refine wpIn_range_own (by omega) (gf := 74) (lb := #[.pointer (some ⟨w.heap.size + 1 + 1 + 1, 0, none⟩)]) rfl (enters_of Tryz.func74 (by kernel_rfl) rfl) (encs := enc8) (A := A)
    (fun W hW => HS.out _ W ((hW.cell (by rw [Hsz.out]; simp)).trans (H4.out.cell 0))) (fun _ => rfl)
    (fun k W => Below w.heap.size w W ∧ Blk W w.heap.size 43 #[.slice lao l.length lcap] ∧ Blk W (w.heap.size + 1) 44 (arr8 Z) ∧ Blk W (w.heap.size + 1 + 1) 29 #[.nilIface] ∧ ∀ j, j < k → ∀ M, A[j]? = some M → p M = false)
    (fun _ W => Below w.heap.size w W ∧ Blk W (w.heap.size + 1) 44 (arr8 (leastD A p 0)) ∧ Blk W (w.heap.size + 1 + 1) 29 #[.nilIface] ∧ ¬ manyD A p 0 = 0)
    (fun k X Y h hb => ⟨h.1.trans (hb.mono (by rw [Hsz.out]; omega)), h.2.1.keep hb (by rw [Hsz.out]; omega), h.2.2.1.keep hb (by rw [Hsz.out]; omega), h.2.2.2.1.keep hb (by rw [Hsz.out]; omega), h.2.2.2.2⟩)
    (fun _ X Y h hb => ⟨h.1.trans (hb.mono (by rw [Hsz.out]; omega)), h.2.1.keep hb (by rw [Hsz.out]; omega), h.2.2.1.keep hb (by rw [Hsz.out]; omega), h.2.2.2⟩) ⟨HB0.out, H0.out, H1.out, H2.out, fun j hj => by omega⟩ ?round ?done ?stop
  case round =>
    intro ln k x W hx hl1 hl2 ⟨hB, c0, c1, c2, c3⟩
    have HX : Hid (A[k]? = some x) := hx
    have Hl1 : Hid (w.heap.size + 4 ≤ ln) := by unfold Hid; rw [← Hsz.out]; exact hl1
    have Hl2 : Hid (ln < W.heap.size) := hl2
    have HBk : Hid (Below w.heap.size w W) := hB
    have C0 : Hid (Blk W w.heap.size 43 #[.slice lao l.length lcap]) := c0
    have C1 : Hid (Blk W (w.heap.size + 1) 44 (arr8 Z)) := c1
    have C2 : Hid (Blk W (w.heap.size + 1 + 1) 29 #[.nilIface]) := c2
    have C3 : Hid (∀ j, j < k → ∀ M, A[j]? = some M → p M = false) := c3
    clear hx hl1 hl2 hB c0 c1 c2 c3
    unfold enc8
    gi_wp2
    refine ⟨(Over.refl _ _).alloc _, fun o => ?_⟩
    obtain ⟨W2, hW2⟩ : ∃ X, X = (W.alloc (.cells #[.int .i64 (x 0), .int .i64 (x 1), .int .i64 (x 2), .int .i64 (x 3), .int .i64 (x 4), .int .i64 (x 5), .int .i64 (x 6), .int .i64 (x 7)] 44)).putObj ln o := ⟨_, rfl⟩
    obtain ⟨Gx, hGx⟩ : ∃ G, G = W.heap.size := ⟨_, rfl⟩
    have HB2 : Hid (Below w.heap.size w W2) := by unfold Hid; rw [hW2]; exact (HBk.out.alloc HBk.out.size _).trans (below_putObj _ _ (by have := Hl1.out; omega))
    have D0 : Hid (Blk W2 w.heap.size 43 #[.slice lao l.length lcap]) := by unfold Hid; rw [hW2]; exact (C0.out.old _).putO _ (by have := Hl1.out; omega)
    have D1 : Hid (Blk W2 (w.heap.size + 1) 44 (arr8 Z)) := by unfold Hid; rw [hW2]; exact (C1.out.old _).putO _ (by have := Hl1.out; omega)
    have D2 : Hid (Blk W2 (w.heap.size + 1 + 1) 29 #[.nilIface]) := by unfold Hid; rw [hW2]; exact (C2.out.old _).putO _ (by have := Hl1.out; omega)
    have D8 : Hid (Blk W2 Gx 44 (arr8 x)) := by unfold Hid; rw [hW2, hGx]; exact (Blk.new _ _ _).putO _ (by have := Hl2.out; omega)
    rw [← hW2, ← hGx]
    clear hW2 hGx
    have HFk : Hid (Calls Tryz.prog 39 #[.slice lao l.length lcap, .agg #[.int .i64 (x 0), .int .i64 (x 1), .int .i64 (x 2), .int .i64 (x 3), .int .i64 (x 4), .int .i64 (x 5), .int .i64 (x 6), .int .i64 (x 7)]] W2 fun e w' => e = .returned (.tuple #[.bool (p x), .nilIface]) ∧ Below W2.heap.size W2 w') := HF.out k x W2 HX.out HB2.out
    obtain ⟨q, hq⟩ : ∃ q, q = p x := ⟨_, rfl⟩
    rw [← hq] at HFk
    have HQ : Hid (q = p x) := hq
    clear hq
    have e0 : W2.cell? ⟨w.heap.size, 0, none⟩ = some (.slice lao l.length lcap) := D0.out.cell 0
    obtain ⟨x0, x1, x2, x3, x4, x5, x6, x7⟩ := D8.out.cells8
    gi_wp2_with fail
    refine ⟨trivial, ?_⟩
    gi_at_call 39
    refine (CallsIn.inRound ln (callsIn_wide.2 HFk.out)).mono ?_
    rintro e W3 ⟨rfl, hb3⟩
    have HB3 : Hid (Below w.heap.size w W3) := HB2.out.trans (hb3.mono HB2.out.size)
    have E0 : Hid (Blk W3 w.heap.size 43 #[.slice lao l.length lcap]) := D0.out.below hb3
    have E1 : Hid (Blk W3 (w.heap.size + 1) 44 (arr8 Z)) := D1.out.below hb3
    have E2 : Hid (Blk W3 (w.heap.size + 1 + 1) 29 #[.nilIface]) := D2.out.below hb3
    have E8 : Hid (Blk W3 Gx 44 (arr8 x)) := D8.out.below hb3
    have HO3 : Hid (Over wl.heap.size W2 W3) := Over.of_below hb3
    clear hb3 e0 x0 x1 x2 x3 x4 x5 x6 x7
    cases q with
    | true =>
      have HL : Hid (leastD A p 0 = x ∧ ¬ manyD A p 0 = 0) := first_fit HX.out C3.out HQ.out.symm
      clear HQ
      obtain ⟨x0, x1, x2, x3, x4, x5, x6, x7⟩ := E8.out.cells8
      obtain ⟨r0, r1, r2, r3, r4, r5, r6, r7⟩ := E1.out.cells8
      obtain ⟨f0, f1, f2, f3, f4, f5, f6, f7⟩ := E1.out.frozen8
      have e2 : W3.cell? ⟨w.heap.size + 1 + 1, 0, none⟩ = some .nilIface := E2.out.cell 0
      have z2 : W3.frozen? ⟨w.heap.size + 1 + 1, 0, none⟩ = false := E2.out.frozen 0
      gi_wp2
      refine ⟨(over_put8 HO3.out (by rw [Hsz.out]; omega) x).setCell (by rw [Hsz.out]; simp) _, (put8_below HB3.out (by omega) x).setCell (by simp; omega) _, ?_, (put8_far E2.out (by omega) x).set 0 _, HL.out.2⟩
      rw [HL.out.1]
      exact (put8_blk E1.out x).far (by omega) _ _
    | false =>
      have HN : Hid (∀ j, j < k + 1 → ∀ M, A[j]? = some M → p M = false) := fun j hj M hM => by
        rcases Nat.lt_or_ge j k with h | h
        · exact C3.out j h M hM
        · obtain rfl : j = k := by omega
          have e := HX.out.symm.trans hM
          rw [← Option.some.inj e]
          exact HQ.out.symm
      clear HQ
      gi_wp2
      exact ⟨HO3.out, HB3.out, E0.out, E1.out, E2.out, HN.out⟩
  case done =>
    intro D W hD ⟨hB, c0, c1, c2, c3⟩ hK
    have HD : Hid (w.heap.size + 4 ≤ D) := by unfold Hid; rw [← Hsz.out]; exact hD
    have HK : Hid (W.heap[D]? = some (.deferred (some []))) := hK
    have HB3 : Hid (Below w.heap.size w W) := hB
    have E1 : Hid (Blk W (w.heap.size + 1) 44 (arr8 Z)) := c1
    have E2 : Hid (Blk W (w.heap.size + 1 + 1) 29 #[.nilIface]) := c2
    have HE : Hid (manyD A p 0 = 0) := none_fit c3
    clear hD hB c0 c1 c2 c3 hK
    obtain ⟨r0, r1, r2, r3, r4, r5, r6, r7⟩ := E1.out.cells8
    obtain ⟨f0, f1, f2, f3, f4, f5, f6, f7⟩ := E1.out.frozen8
    have e2 : W.cell? ⟨w.heap.size + 1 + 1, 0, none⟩ = some .nilIface := E2.out.cell 0
    have z2 : W.frozen? ⟨w.heap.size + 1 + 1, 0, none⟩ = false := E2.out.frozen 0
    gi_wp2
    have hd := HD.out
    refine least_leaves (W := (put8 W (w.heap.size + 1) zeroC).setCell ⟨w.heap.size + 1 + 1, 0, none⟩ (.iface 75 (.int .i64 5))) hd ?_ ((put8_below HB3.out (by omega) zeroC).setCell (by simp; omega) _) ((put8_blk E1.out zeroC).far (by omega) _ _) ((put8_far E2.out (by omega) zeroC).set 0 _) rfl rfl (fun W' hW' => ⟨Or.inr ⟨rfl, HE.out⟩, hW'⟩)
    rw [Below.heap_setCell _ _ _ _ (by simp; omega), put8_block (by omega)]
    exact HK.out
  case stop =>
    intro D k W hD _ ⟨hB, c1, c2, c3⟩ hK
    have HD : Hid (w.heap.size + 4 ≤ D) := by unfold Hid; rw [← Hsz.out]; exact hD
    have HK : Hid (W.heap[D]? = some (.deferred (some []))) := hK
    have HBk : Hid (Below w.heap.size w W) := hB
    have C1 : Hid (Blk W (w.heap.size + 1) 44 (arr8 (leastD A p 0))) := c1
    have C2 : Hid (Blk W (w.heap.size + 1 + 1) 29 #[.nilIface]) := c2
    have C3 : Hid (¬ manyD A p 0 = 0) := c3
    clear hD hB c1 c2 c3 hK
    gi_wp2
    exact least_leaves HD.out HK.out HBk.out C1.out C2.out rfl rfl (fun W' hW' => ⟨Or.inl ⟨rfl, C3.out⟩, hW'⟩)

set_option maxHeartbeats 4000000 in
theorem least_wrong (n : Nat) (hn : n ≤ 6) (l : List Rw) (v : Value) (w : World) (hR : ReadsR w v l) (hr : ¬ rowsFault l = 0) :
    Calls Tryz.prog 71 #[.int .i64 n, v] w fun e w' => e = .returned (.tuple #[.agg (arr8 zeroC), .iface 75 (.int .i64 (rowsFault l))]) ∧ Below w.heap.size w w' := by
  obtain ⟨lao, lcap, rfl, hll⟩ := hR.slice
  obtain ⟨A, hA⟩ : ∃ A, A = everyC n := ⟨_, rfl⟩
  obtain ⟨F, hF⟩ : ∃ F, F = rowsFault l := ⟨_, rfl⟩
  have HF : Hid (∀ (M : Nat → Int) W, Below w.heap.size w W → Calls Tryz.prog 39 #[.slice lao l.length lcap, .agg #[.int .i64 (M 0), .int .i64 (M 1), .int .i64 (M 2), .int .i64 (M 3), .int .i64 (M 4), .int .i64 (M 5), .int .i64 (M 6), .int .i64 (M 7)]] W fun e w' => e = .returned (.tuple #[.bool false, .iface 75 (.int .i64 F)]) ∧ Below W.heap.size W w') := fun M W hW => by
    have h := rfits_any l _ M W (hR.below hW)
    have ef : fitsFault l M = rowsFault l := by unfold fitsFault; rw [if_neg hr]
    have e : fitsIs l M = false := by unfold fitsIs; rw [ef, if_neg hr]
    rw [e, ef, errV_no hr, ← hF] at h
    exact h
  have HS : Hid (∀ Bu W, W.cell? ⟨Bu, 0, none⟩ = some (.int .i64 n) → SeqG 2 Tryz.prog 74 #[.pointer (some ⟨Bu, 0, none⟩)] enc8 A W) := fun Bu W hB => by rw [hA]; exact iter_any n hn 2 (by omega) Bu W hB
  have HLn : Hid (0 < A.length) := by unfold Hid; rw [hA]; exact List.length_pos_iff.2 (allF_ne 7 n _)
  have HCk : Hid (∀ W, Calls Tryz.prog 38 #[.int .i64 n] W fun e w' => e = .returned .nilIface ∧ W = w') := fun W => fitCheck_ok n hn W
  rw [← hF]
  clear hA hF hr hn
  obtain ⟨Z, hZ⟩ : ∃ Z : Nat → Int, Z = zeroC := ⟨_, rfl⟩
  refine (callsIn_wide (n := 3)).1 ?_
  refine callsIn_of_wp_marks Tryz.func71 rfl trivial ?_ rfl
  simp only [Tryz.ntmps71, List.size_toArray, List.length_cons, List.length_nil, Nat.reduceAdd, Nat.reduceSub, Array.replicate_succ, Array.replicate_zero, List.push_toArray, List.append_toArray, List.nil_append, List.cons_append]
  have HZ : Hid (Z = zeroC) := hZ
  clear hZ
  gi_wp2_with fail
  refine ⟨trivial, ?_⟩
  gi_at_call 38
  refine (callsIn_wide.2 (HCk.out _)).mono ?_
  rintro e w1 ⟨rfl, rfl⟩
  gi_wp2_with fail
  refine ⟨trivial, ?_⟩
  gi_at_call 28
  refine (callsIn_wide.2 (fitAll_any _ _)).mono ?_
  rintro e w3 ⟨rfl, rfl⟩
  gi_wp2_with fail
  obtain ⟨hsz, b0, b1, b2, b3, hB0⟩ := four_new w (.cells #[.slice lao l.length lcap] 43) (.cells #[.int .i64 0, .int .i64 0, .int .i64 0, .int .i64 0, .int .i64 0, .int .i64 0, .int .i64 0, .int .i64 0] 44) (.cells #[.nilIface] 29) (.cells #[.int .i64 n] 3)
  obtain ⟨wl, hwl⟩ : ∃ x, x = (((w.alloc (.cells #[.slice lao l.length lcap] 43)).alloc (.cells #[.int .i64 0, .int .i64 0, .int .i64 0, .int .i64 0, .int .i64 0, .int .i64 0, .int .i64 0, .int .i64 0] 44)).alloc (.cells #[.nilIface] 29)).alloc (.cells #[.int .i64 n] 3) := ⟨_, rfl⟩
  rw [← hwl] at hsz b0 b1 b2 b3 hB0 ⊢
  clear hwl
  have HB0 : Hid (Below w.heap.size w wl) := hB0
  have Hsz : Hid (wl.heap.size = w.heap.size + 4) := hsz
  have H0 : Hid (Blk wl w.heap.size 43 #[.slice lao l.length lcap]) := b0
  have H1 : Hid (Blk wl (w.heap.size + 1) 44 (arr8 Z)) := by unfold Hid; rw [HZ.out]; exact b1
  have H2 : Hid (Blk wl (w.heap.size + 1 + 1) 29 #[.nilIface]) := b2
  have H4 : Hid (Blk wl (w.heap.size + 1 + 1 + 1) 3 #[.int .i64 n]) := b3
  clear hsz b0 b1 b2 b3 hB0
  refine wpIn_range_own (by omega) (gf := 74) (lb := #[.pointer (some ⟨w.heap.size + 1 + 1 + 1, 0, none⟩)]) rfl (enters_of Tryz.func74 (by kernel_rfl) rfl) (encs := enc8) (A := A)
    (fun W hW => HS.out _ W ((hW.cell (by rw [Hsz.out]; simp)).trans (H4.out.cell 0))) (fun _ => rfl)
    (fun k W => Below w.heap.size w W ∧ Blk W w.heap.size 43 #[.slice lao l.length lcap] ∧ Blk W (w.heap.size + 1) 44 (arr8 Z) ∧ Blk W (w.heap.size + 1 + 1) 29 #[.nilIface] ∧ k = 0)
    (fun _ W => Below w.heap.size w W ∧ Blk W (w.heap.size + 1) 44 (arr8 zeroC) ∧ Blk W (w.heap.size + 1 + 1) 29 #[.iface 75 (.int .i64 F)] ∧ True)
    (fun k X Y h hb => ⟨h.1.trans (hb.mono (by rw [Hsz.out]; omega)), h.2.1.keep hb (by rw [Hsz.out]; omega), h.2.2.1.keep hb (by rw [Hsz.out]; omega), h.2.2.2.1.keep hb (by rw [Hsz.out]; omega), h.2.2.2.2⟩)
    (fun _ X Y h hb => ⟨h.1.trans (hb.mono (by rw [Hsz.out]; omega)), h.2.1.keep hb (by rw [Hsz.out]; omega), h.2.2.1.keep hb (by rw [Hsz.out]; omega), h.2.2.2⟩) ⟨HB0.out, H0.out, H1.out, H2.out, rfl⟩ ?round ?done ?stop
  case round =>
    intro ln k x W hx hl1 hl2 ⟨hB, c0, c1, c2, c3⟩
    have HX : Hid (A[k]? = some x) := hx
    have Hl1 : Hid (w.heap.size + 4 ≤ ln) := by unfold Hid; rw [← Hsz.out]; exact hl1
    have Hl2 : Hid (ln < W.heap.size) := hl2
    have HBk : Hid (Below w.heap.size w W) := hB
    have C0 : Hid (Blk W w.heap.size 43 #[.slice lao l.length lcap]) := c0
    have C1 : Hid (Blk W (w.heap.size + 1) 44 (arr8 Z)) := c1
    have C2 : Hid (Blk W (w.heap.size + 1 + 1) 29 #[.nilIface]) := c2
    clear hx hl1 hl2 hB c0 c1 c2 c3
    unfold enc8
    gi_wp2
    refine ⟨(Over.refl _ _).alloc _, fun o => ?_⟩
    obtain ⟨W2, hW2⟩ : ∃ X, X = (W.alloc (.cells #[.int .i64 (x 0), .int .i64 (x 1), .int .i64 (x 2), .int .i64 (x 3), .int .i64 (x 4), .int .i64 (x 5), .int .i64 (x 6), .int .i64 (x 7)] 44)).putObj ln o := ⟨_, rfl⟩
    obtain ⟨Gx, hGx⟩ : ∃ G, G = W.heap.size := ⟨_, rfl⟩
    have HB2 : Hid (Below w.heap.size w W2) := by unfold Hid; rw [hW2]; exact (HBk.out.alloc HBk.out.size _).trans (below_putObj _ _ (by have := Hl1.out; omega))
    have D0 : Hid (Blk W2 w.heap.size 43 #[.slice lao l.length lcap]) := by unfold Hid; rw [hW2]; exact (C0.out.old _).putO _ (by have := Hl1.out; omega)
    have D1 : Hid (Blk W2 (w.heap.size + 1) 44 (arr8 Z)) := by unfold Hid; rw [hW2]; exact (C1.out.old _).putO _ (by have := Hl1.out; omega)
    have D2 : Hid (Blk W2 (w.heap.size + 1 + 1) 29 #[.nilIface]) := by unfold Hid; rw [hW2]; exact (C2.out.old _).putO _ (by have := Hl1.out; omega)
    have D8 : Hid (Blk W2 Gx 44 (arr8 x)) := by unfold Hid; rw [hW2, hGx]; exact (Blk.new _ _ _).putO _ (by have := Hl2.out; omega)
    rw [← hW2, ← hGx]
    clear hW2 hGx
    have HFk : Hid (Calls Tryz.prog 39 #[.slice lao l.length lcap, .agg #[.int .i64 (x 0), .int .i64 (x 1), .int .i64 (x 2), .int .i64 (x 3), .int .i64 (x 4), .int .i64 (x 5), .int .i64 (x 6), .int .i64 (x 7)]] W2 fun e w' => e = .returned (.tuple #[.bool false, .iface 75 (.int .i64 F)]) ∧ Below W2.heap.size W2 w') := HF.out x W2 HB2.out
    have e0 : W2.cell? ⟨w.heap.size, 0, none⟩ = some (.slice lao l.length lcap) := D0.out.cell 0
    obtain ⟨x0, x1, x2, x3, x4, x5, x6, x7⟩ := D8.out.cells8
    gi_wp2_with fail
    refine ⟨trivial, ?_⟩
    gi_at_call 39
    refine (CallsIn.inRound ln (callsIn_wide.2 HFk.out)).mono ?_
    rintro e W3 ⟨rfl, hb3⟩
    have HB3 : Hid (Below w.heap.size w W3) := HB2.out.trans (hb3.mono HB2.out.size)
    have E0 : Hid (Blk W3 w.heap.size 43 #[.slice lao l.length lcap]) := D0.out.below hb3
    have E1 : Hid (Blk W3 (w.heap.size + 1) 44 (arr8 Z)) := D1.out.below hb3
    have E2 : Hid (Blk W3 (w.heap.size + 1 + 1) 29 #[.nilIface]) := D2.out.below hb3
    have E8 : Hid (Blk W3 Gx 44 (arr8 x)) := D8.out.below hb3
    have HO3 : Hid (Over wl.heap.size W2 W3) := Over.of_below hb3
    clear hb3 e0 x0 x1 x2 x3 x4 x5 x6 x7
    obtain ⟨r0, r1, r2, r3, r4, r5, r6, r7⟩ := E1.out.cells8
    obtain ⟨f0, f1, f2, f3, f4, f5, f6, f7⟩ := E1.out.frozen8
    have e2 : W3.cell? ⟨w.heap.size + 1 + 1, 0, none⟩ = some .nilIface := E2.out.cell 0
    have z2 : W3.frozen? ⟨w.heap.size + 1 + 1, 0, none⟩ = false := E2.out.frozen 0
    gi_wp2
    exact ⟨(over_put8 HO3.out (by rw [Hsz.out]; omega) zeroC).setCell (by rw [Hsz.out]; simp) _, (put8_below HB3.out (by omega) zeroC).setCell (by simp; omega) _, (put8_blk E1.out zeroC).far (by omega) _ _, (put8_far E2.out (by omega) zeroC).set 0 _, trivial⟩
  case done =>
    intro D W _ ⟨_, _, _, _, h0⟩
    have := HLn.out
    omega
  case stop =>
    intro D k W hD _ ⟨hB, c1, c2, _⟩ hK
    have HD : Hid (w.heap.size + 4 ≤ D) := by unfold Hid; rw [← Hsz.out]; exact hD
    have HK : Hid (W.heap[D]? = some (.deferred (some []))) := hK
    have HBk : Hid (Below w.heap.size w W) := hB
    have C1 : Hid (Blk W (w.heap.size + 1) 44 (arr8 zeroC)) := c1
    have C2 : Hid (Blk W (w.heap.size + 1 + 1) 29 #[.iface 75 (.int .i64 F)]) := c2
    clear hD hB c1 c2 hK
    gi_wp2
    exact least_leaves HD.out HK.out HBk.out C1.out C2.out rfl rfl (fun W' hW' => ⟨rfl, hW'⟩)

set_option maxHeartbeats 4000000 in
theorem least_range (u : Int) (hu : ¬ (0 ≤ u ∧ u ≤ 6)) (lao : Option Addr) (ln lcap : Nat) (w : World) :
    Calls Tryz.prog 71 #[.int .i64 u, .slice lao ln lcap] w fun e w' => e = .returned (.tuple #[.agg (arr8 zeroC), .iface 75 (.int .i64 1)]) ∧ Below w.heap.size w w' := by
  have HCk : Hid (∀ W, Calls Tryz.prog 38 #[.int .i64 u] W fun e w' => e = .returned (.iface 75 (.int .i64 1)) ∧ W = w') := fun W => fitCheck_no u hu W
  clear hu
  obtain ⟨w1, hw1⟩ : ∃ x, x = ((w.alloc (.cells #[.slice lao ln lcap] 43)).alloc (.cells #[.int .i64 0, .int .i64 0, .int .i64 0, .int .i64 0, .int .i64 0, .int .i64 0, .int .i64 0, .int .i64 0] 44)).alloc (.cells #[.nilIface] 29) := ⟨_, rfl⟩
  have HB : Hid (Below w.heap.size w w1) := by unfold Hid; rw [hw1]; exact ((below_alloc1 _ _).alloc (by simp) _).alloc (by simp; omega) _
  have E1 : Hid (Blk w1 (w.heap.size + 1) 44 (arr8 zeroC)) := by
    unfold Hid; rw [hw1]
    have := Blk.new (w.alloc (.cells #[.slice lao ln lcap] 43)) 44 (arr8 zeroC)
    rw [World.size_alloc] at this
    exact this.old _
  have E2 : Hid (Blk w1 (w.heap.size + 1 + 1) 29 #[.nilIface]) := by
    unfold Hid; rw [hw1]
    have := Blk.new ((w.alloc (.cells #[.slice lao ln lcap] 43)).alloc (.cells (arr8 zeroC) 44)) 29 #[.nilIface]
    rw [World.size_alloc, World.size_alloc] at this
    exact this
  go_enter Tryz.func71, Tryz.ntmps71
  go_wp2_with fail
  rw [← hw1]
  clear hw1
  go_at_call 38
  refine (HCk.out _).mono ?_
  rintro e w2 ⟨rfl, rfl⟩
  have r0 : w1.cell? ⟨w.heap.size + 1, 0, none⟩ = some (.int .i64 0) := E1.out.cell 0
  have r1 : w1.cell? ⟨w.heap.size + 1, 1, none⟩ = some (.int .i64 0) := E1.out.cell 1
  have r2 : w1.cell? ⟨w.heap.size + 1, 2, none⟩ = some (.int .i64 0) := E1.out.cell 2
  have r3 : w1.cell? ⟨w.heap.size + 1, 3, none⟩ = some (.int .i64 0) := E1.out.cell 3
  have r4 : w1.cell? ⟨w.heap.size + 1, 4, none⟩ = some (.int .i64 0) := E1.out.cell 4
  have r5 : w1.cell? ⟨w.heap.size + 1, 5, none⟩ = some (.int .i64 0) := E1.out.cell 5
  have r6 : w1.cell? ⟨w.heap.size + 1, 6, none⟩ = some (.int .i64 0) := E1.out.cell 6
  have r7 : w1.cell? ⟨w.heap.size + 1, 7, none⟩ = some (.int .i64 0) := E1.out.cell 7
  obtain ⟨f0, f1, f2, f3, f4, f5, f6, f7⟩ := E1.out.frozen8
  have e2 : w1.cell? ⟨w.heap.size + 1 + 1, 0, none⟩ = some .nilIface := E2.out.cell 0
  have z2 : w1.frozen? ⟨w.heap.size + 1 + 1, 0, none⟩ = false := E2.out.frozen 0
  go_wp2
  have l1 := load8 ((put8_blk E1.out zeroC).far (R := w.heap.size + 1 + 1) (by omega) 0 (.iface 75 (.int .i64 1)))
  have l2 := loadE ((put8_far E2.out (R := w.heap.size + 1) (by omega) zeroC).set 0 (.iface 75 (.int .i64 1)))
  refine bodyPost_ret (v := .tuple #[.agg (arr8 zeroC), .iface 75 (.int .i64 1)]) ?_ rfl ⟨rfl, (put8_below HB.out (by omega) zeroC).setCell (by simp; omega) _⟩
  rw [results_two rfl]
  unfold put8 zeroC at l1 l2
  simp [asAddr, Result.andThen, l1, l2]
  rfl

/-- Least, whatever the number of things and the rows. -/
theorem least_any (u : Int) (l : List Rw) (v : Value) (w : World) (hR : ReadsR w v l) :
    Calls Tryz.prog 71 #[.int .i64 u, v] w fun e w' => e = .returned (.tuple #[.agg (arr8 (leastN u l)), errV (leastFault u l)]) ∧ Below w.heap.size w w' := by
  by_cases hu : 0 ≤ u ∧ u ≤ 6
  · obtain ⟨n, rfl⟩ := Int.eq_ofNat_of_zero_le hu.1
    have eff : fitFault (n : Int) l = rowsFault l := by unfold fitFault; rw [if_pos hu]
    by_cases hr : rowsFault l = 0
    · have em : fitManyN (n : Int) l = (manyD (everyC n) (fitB l) 0 : Int) := by unfold fitManyN; rw [eff, if_pos hr, Int.toNat_natCast]
      have el : leastN (n : Int) l = leastD (everyC n) (fitB l) 0 := by unfold leastN; rw [eff, if_pos hr, Int.toNat_natCast]
      have ef : leastFault (n : Int) l = if manyD (everyC n) (fitB l) 0 = 0 then 5 else 0 := by
        unfold leastFault
        rw [eff, if_pos hr, em]
        by_cases h : manyD (everyC n) (fitB l) 0 = 0
        · rw [if_pos h, if_pos (by omega)]
        · rw [if_neg h, if_neg (by omega)]
      refine (least_right n (by omega) l v w hR hr).mono ?_
      rintro e w' ⟨⟨rfl, h⟩ | ⟨rfl, h⟩, hb⟩
      · rw [el, ef, if_neg h]; exact ⟨rfl, hb⟩
      · rw [el, ef, if_pos h, manyD_none h]; exact ⟨rfl, hb⟩
    · have el : leastN (n : Int) l = zeroC := by unfold leastN; rw [eff, if_neg hr]
      have ef : leastFault (n : Int) l = rowsFault l := by unfold leastFault; rw [eff, if_neg hr]
      rw [el, ef, errV_no hr]
      exact least_wrong n (by omega) l v w hR hr
  · have eff : fitFault u l = 1 := by unfold fitFault; rw [if_neg hu]
    have el : leastN u l = zeroC := by unfold leastN; rw [eff, if_neg (by decide)]
    have ef : leastFault u l = 1 := by unfold leastFault; rw [eff, if_neg (by decide)]
    rw [el, ef]
    obtain ⟨lao, lcap, rfl, _⟩ := hR.slice
    exact least_range u hu lao _ lcap w
end Go.Proofs.YtjaedfjfcghgcabGreatDoor

