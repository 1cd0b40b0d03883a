/-
  Proved: what fit.Many returns, of any number of things and any rows; what was in memory is as it was (a contract that the statements lean on).
-/
import Derived.Test.YtjaedfjfcghgcabGreatDoorLibT16
import Derived.Test.YtjaedfjfcghgcabGreatDoorLibT17
namespace Go.Proofs.YtjaedfjfcghgcabGreatDoor
open Go.ChangeShapes Go.WideShapes Go.ChangeAt Go.RowKit
set_option maxRecDepth 100000
attribute [local go_sem] Oper.semAt_some

/-- how many of the first k fit. -/
def manyT (A : List (Nat → Int)) (p : (Nat → Int) → Bool) (k : Nat) : Nat := ((A.take k).filter p).length
theorem manyT_zero (A : List (Nat → Int)) (p : (Nat → Int) → Bool) : manyT A p 0 = 0 := by unfold manyT; simp
theorem manyT_step {A : List (Nat → Int)} {p : (Nat → Int) → Bool} {k : Nat} {M : Nat → Int} (h : A[k]? = some M) : manyT A p (k + 1) = manyT A p k + (if p M = true then 1 else 0) := by
  obtain ⟨hk, rfl⟩ := List.getElem?_eq_some_iff.1 h
  unfold manyT
  rw [List.take_succ_eq_append_getElem hk, List.filter_append, List.length_append, List.filter_cons]
  split <;> rfl
theorem manyT_all (A : List (Nat → Int)) (p : (Nat → Int) → Bool) : manyT A p A.length = manyD A p 0 := by unfold manyT manyD; simp
theorem manyT_le (A : List (Nat → Int)) (p : (Nat → Int) → Bool) (k : Nat) : manyT A p k ≤ A.length := by
  unfold manyT
  have h1 := List.length_filter_le p (A.take k)
  have h2 := List.length_take_le k A
  have h3 : (A.take k).length ≤ A.length := by rw [List.length_take]; omega
  omega
set_option maxHeartbeats 4000000 in
theorem many_right (n : Nat) (hn : n ≤ 6) (l : List Rw) (v : Value) (w : World) (hR : ReadsR w v l) (hr : rowsFault l = 0) :
    Calls Tryz.prog 12 #[.int .i64 n, v] w fun e w' => e = .returned (.tuple #[.int .i64 (manyD (everyC n) (fitB l) 0), .nilIface]) ∧ Below w.heap.size w w' := by
  obtain ⟨lao, lcap, rfl, hll⟩ := hR.slice
  obtain ⟨A, hA⟩ : ∃ A, A = everyC n := ⟨_, rfl⟩
  obtain ⟨p, hp⟩ : ∃ p, p = fitB l := ⟨_, rfl⟩
  have HF : Hid (∀ (k : Nat) (M : Nat → Int) W, A[k]? = some M → Below w.heap.size w W → Calls Tryz.prog 39 #[.slice lao l.length lcap, .agg #[.int .i64 (M 0), .int .i64 (M 1), .int .i64 (M 2), .int .i64 (M 3), .int .i64 (M 4), .int .i64 (M 5), .int .i64 (M 6), .int .i64 (M 7)]] W fun e w' => e = .returned (.tuple #[.bool (p M), .nilIface]) ∧ Below W.heap.size W w') := fun k M W hM hW => by
    have h := rfits_any l _ M W (hR.below hW)
    have hc : countsFault M = 0 := everyC_right hn (by rw [hA] at hM; exact List.mem_of_getElem? hM)
    have ef : fitsFault l M = 0 := by unfold fitsFault; rw [if_pos hr, hc]
    have e : fitsIs l M = p M := by unfold fitsIs; rw [if_pos ef, hp]; rfl
    rw [e, ef] at h
    exact h
  have HS : Hid (∀ Bu W, W.cell? ⟨Bu, 0, none⟩ = some (.int .i64 n) → SeqG 2 Tryz.prog 74 #[.pointer (some ⟨Bu, 0, none⟩)] enc8 A W) := fun Bu W hB => by rw [hA]; exact iter_any n hn 2 (by omega) Bu W hB
  have HLn : Hid (A.length ≤ 1716) := by unfold Hid; rw [hA]; exact length_everyC hn
  rw [← hA, ← hp]
  have HCk : Hid (∀ W, Calls Tryz.prog 38 #[.int .i64 n] W fun e w' => e = .returned .nilIface ∧ W = w') := fun W => fitCheck_ok n hn W
  clear hA hp hr hn
  refine (callsIn_wide (n := 3)).1 ?_
  refine callsIn_of_wp_marks Tryz.func12 rfl trivial ?_ rfl
  simp only [Tryz.ntmps12, List.size_toArray, List.length_cons, List.length_nil, Nat.reduceAdd, Nat.reduceSub, Array.replicate_succ, Array.replicate_zero, List.push_toArray, List.append_toArray, List.nil_append, List.cons_append]
  gi_wp2_with fail
  refine ⟨trivial, ?_⟩
  gi_at_call 38
  refine (callsIn_wide.2 (HCk.out _)).mono ?_
  rintro e w1 ⟨rfl, rfl⟩
  gi_wp2_with fail
  refine ⟨trivial, ?_⟩
  gi_at_call 28
  refine (callsIn_wide.2 (fitAll_any _ _)).mono ?_
  rintro e w3 ⟨rfl, rfl⟩
  gi_wp2_with fail
  obtain ⟨hsz, b0, b1, b2, b3, b4, hB0⟩ := five_new w (.cells #[.slice lao l.length lcap] 43) (.cells #[.int .i64 0] 3) (.cells #[.nilIface] 29) (.cells #[.int .i64 0] 3) (.cells #[.int .i64 n] 3)
  obtain ⟨wl, hwl⟩ : ∃ x, x = ((((w.alloc (.cells #[.slice lao l.length lcap] 43)).alloc (.cells #[.int .i64 0] 3)).alloc (.cells #[.nilIface] 29)).alloc (.cells #[.int .i64 0] 3)).alloc (.cells #[.int .i64 n] 3) := ⟨_, rfl⟩
  rw [← hwl] at hsz b0 b1 b2 b3 b4 hB0 ⊢
  clear hwl
  have HB0 : Hid (Below w.heap.size w wl) := hB0
  have Hsz : Hid (wl.heap.size = w.heap.size + 5) := hsz
  have H0 : Hid (Blk wl w.heap.size 43 #[.slice lao l.length lcap]) := b0
  have H1 : Hid (Blk wl (w.heap.size + 1) 3 #[.int .i64 0]) := b1
  have H2 : Hid (Blk wl (w.heap.size + 1 + 1) 29 #[.nilIface]) := b2
  have H3 : Hid (Blk wl (w.heap.size + 1 + 1 + 1) 3 #[.int .i64 0]) := b3
  have H4 : Hid (Blk wl (w.heap.size + 1 + 1 + 1 + 1) 3 #[.int .i64 n]) := b4
  clear hsz b0 b1 b2 b3 b4 hB0
  refine wpIn_range_own (by omega) (gf := 74) (lb := #[.pointer (some ⟨w.heap.size + 1 + 1 + 1 + 1, 0, none⟩)]) rfl (enters_of Tryz.func74 (by kernel_rfl) rfl) (encs := enc8) (A := A)
    (fun W hW => HS.out _ W ((hW.cell (by rw [Hsz.out]; simp)).trans (H4.out.cell 0))) (fun _ => rfl)
    (fun k W => Below w.heap.size w W ∧ Blk W w.heap.size 43 #[.slice lao l.length lcap] ∧ Blk W (w.heap.size + 1) 3 #[.int .i64 0] ∧ Blk W (w.heap.size + 1 + 1) 29 #[.nilIface] ∧ Blk W (w.heap.size + 1 + 1 + 1) 3 #[.int .i64 (manyT A p k)])
    (fun _ _ => False)
    (fun k X Y h hb => ⟨h.1.trans (hb.mono (by rw [Hsz.out]; omega)), h.2.1.keep hb (by rw [Hsz.out]; omega), h.2.2.1.keep hb (by rw [Hsz.out]; omega), h.2.2.2.1.keep hb (by rw [Hsz.out]; omega), h.2.2.2.2.keep hb (by rw [Hsz.out]; omega)⟩)
    (fun _ _ _ h _ => h) ⟨HB0.out, H0.out, H1.out, H2.out, by rw [manyT_zero]; exact H3.out⟩ ?round ?done ?stop
  case round =>
    intro ln k x W hx hl1 hl2 ⟨hB, c0, c1, c2, c3⟩
    have HX : Hid (A[k]? = some x) := hx
    have Hl1 : Hid (w.heap.size + 5 ≤ ln) := by unfold Hid; rw [← Hsz.out]; exact hl1
    have Hl2 : Hid (ln < W.heap.size) := hl2
    have HBk : Hid (Below w.heap.size w W) := hB
    have C0 : Hid (Blk W w.heap.size 43 #[.slice lao l.length lcap]) := c0
    have C1 : Hid (Blk W (w.heap.size + 1) 3 #[.int .i64 0]) := c1
    have C2 : Hid (Blk W (w.heap.size + 1 + 1) 29 #[.nilIface]) := c2
    have C3 : Hid (Blk W (w.heap.size + 1 + 1 + 1) 3 #[.int .i64 (manyT A p k)]) := c3
    clear hx hl1 hl2 hB c0 c1 c2 c3
    unfold enc8
    gi_wp2
    refine ⟨(Over.refl _ _).alloc _, fun o => ?_⟩
    obtain ⟨W2, hW2⟩ : ∃ X, X = (W.alloc (.cells #[.int .i64 (x 0), .int .i64 (x 1), .int .i64 (x 2), .int .i64 (x 3), .int .i64 (x 4), .int .i64 (x 5), .int .i64 (x 6), .int .i64 (x 7)] 44)).putObj ln o := ⟨_, rfl⟩
    obtain ⟨Gx, hGx⟩ : ∃ G, G = W.heap.size := ⟨_, rfl⟩
    have HB2 : Hid (Below w.heap.size w W2) := by unfold Hid; rw [hW2]; exact (HBk.out.alloc HBk.out.size _).trans (below_putObj _ _ (by have := Hl1.out; omega))
    have D0 : Hid (Blk W2 w.heap.size 43 #[.slice lao l.length lcap]) := by unfold Hid; rw [hW2]; exact (C0.out.old _).putO _ (by have := Hl1.out; omega)
    have D1 : Hid (Blk W2 (w.heap.size + 1) 3 #[.int .i64 0]) := by unfold Hid; rw [hW2]; exact (C1.out.old _).putO _ (by have := Hl1.out; omega)
    have D2 : Hid (Blk W2 (w.heap.size + 1 + 1) 29 #[.nilIface]) := by unfold Hid; rw [hW2]; exact (C2.out.old _).putO _ (by have := Hl1.out; omega)
    have D3 : Hid (Blk W2 (w.heap.size + 1 + 1 + 1) 3 #[.int .i64 (manyT A p k)]) := by unfold Hid; rw [hW2]; exact (C3.out.old _).putO _ (by have := Hl1.out; omega)
    have D8 : Hid (Blk W2 Gx 44 (arr8 x)) := by unfold Hid; rw [hW2, hGx]; exact (Blk.new _ _ _).putO _ (by have := Hl2.out; omega)
    rw [← hW2, ← hGx]
    clear hW2 hGx
    have HFk : Hid (Calls Tryz.prog 39 #[.slice lao l.length lcap, .agg #[.int .i64 (x 0), .int .i64 (x 1), .int .i64 (x 2), .int .i64 (x 3), .int .i64 (x 4), .int .i64 (x 5), .int .i64 (x 6), .int .i64 (x 7)]] W2 fun e w' => e = .returned (.tuple #[.bool (p x), .nilIface]) ∧ Below W2.heap.size W2 w') := HF.out k x W2 HX.out HB2.out
    have HM : Hid (manyT A p (k + 1) = manyT A p k + (if p x = true then 1 else 0)) := manyT_step HX.out
    obtain ⟨q, hq⟩ : ∃ q, q = p x := ⟨_, rfl⟩
    rw [← hq] at HFk HM
    clear hq
    obtain ⟨m, hm⟩ : ∃ m, m = manyT A p k := ⟨_, rfl⟩
    have Hm : Hid (m ≤ 1716) := by unfold Hid; rw [hm]; exact Nat.le_trans (manyT_le A p k) HLn.out
    rw [← hm] at HM D3
    clear hm
    have e0 : W2.cell? ⟨w.heap.size, 0, none⟩ = some (.slice lao l.length lcap) := D0.out.cell 0
    obtain ⟨x0, x1, x2, x3, x4, x5, x6, x7⟩ := D8.out.cells8
    gi_wp2_with fail
    refine ⟨trivial, ?_⟩
    gi_at_call 39
    refine (CallsIn.inRound ln (callsIn_wide.2 HFk.out)).mono ?_
    rintro e W3 ⟨rfl, hb3⟩
    have HB3 : Hid (Below w.heap.size w W3) := HB2.out.trans (hb3.mono HB2.out.size)
    have E0 : Hid (Blk W3 w.heap.size 43 #[.slice lao l.length lcap]) := D0.out.below hb3
    have E1 : Hid (Blk W3 (w.heap.size + 1) 3 #[.int .i64 0]) := D1.out.below hb3
    have E2 : Hid (Blk W3 (w.heap.size + 1 + 1) 29 #[.nilIface]) := D2.out.below hb3
    have E3 : Hid (Blk W3 (w.heap.size + 1 + 1 + 1) 3 #[.int .i64 m]) := D3.out.below hb3
    have HO3 : Hid (Over wl.heap.size W2 W3) := Over.of_below hb3
    clear hb3 e0 x0 x1 x2 x3 x4 x5 x6 x7
    cases q with
    | true =>
      have HM1 : Hid (manyT A p (k + 1) = m + 1) := by unfold Hid; have h := HM.out; simpa using h
      clear HM
      have e3 : W3.cell? ⟨w.heap.size + 1 + 1 + 1, 0, none⟩ = some (.int .i64 m) := E3.out.cell 0
      have z3 : W3.frozen? ⟨w.heap.size + 1 + 1 + 1, 0, none⟩ = false := E3.out.frozen 0
      have hm := Hm.out
      gi_wp2
      have hM := HM1.out
      refine ⟨HO3.out.setCell (by rw [Hsz.out]; simp) _, HB3.out.setCell (by simp; omega) _, E0.out.far (by omega) _ _, E1.out.far (by omega) _ _, E2.out.far (by omega) _ _, ?_⟩
      have h := E3.out.set 0 (.int .i64 ((m : Int) + 1))
      have e : ((m + 1 : Nat) : Int) = (m : Int) + 1 := by omega
      show Blk _ _ _ #[.int .i64 ((manyT A p (k + 1) : Nat) : Int)]
      rw [hM, e]
      exact h
    | false =>
      have HM1 : Hid (manyT A p (k + 1) = m) := by unfold Hid; have h := HM.out; simpa using h
      clear HM
      gi_wp2
      have hM := HM1.out
      exact ⟨HO3.out, HB3.out, E0.out, E1.out, E2.out, by rw [hM]; exact E3.out⟩
  case done =>
    intro D W hD ⟨hB, c0, c1, c2, c3⟩ hK
    have HD : Hid (w.heap.size + 5 ≤ D) := by unfold Hid; rw [← Hsz.out]; exact hD
    have HK : Hid (W.heap[D]? = some (.deferred (some []))) := hK
    have HBk : Hid (Below w.heap.size w W) := hB
    have C1 : Hid (Blk W (w.heap.size + 1) 3 #[.int .i64 0]) := c1
    have C2 : Hid (Blk W (w.heap.size + 1 + 1) 29 #[.nilIface]) := c2
    have C3 : Hid (Blk W (w.heap.size + 1 + 1 + 1) 3 #[.int .i64 (manyT A p A.length)]) := c3
    clear hD hB c0 c1 c2 c3 hK
    have HE : Hid (manyT A p A.length = manyD A p 0) := manyT_all A p
    have e1 : W.cell? ⟨w.heap.size + 1, 0, none⟩ = some (.int .i64 0) := C1.out.cell 0
    have z1 : W.frozen? ⟨w.heap.size + 1, 0, none⟩ = false := C1.out.frozen 0
    have e2 : W.cell? ⟨w.heap.size + 1 + 1, 0, none⟩ = some .nilIface := C2.out.cell 0
    have z2 : W.frozen? ⟨w.heap.size + 1 + 1, 0, none⟩ = false := C2.out.frozen 0
    have e3 : W.cell? ⟨w.heap.size + 1 + 1 + 1, 0, none⟩ = some (.int .i64 (manyT A p A.length)) := C3.out.cell 0
    gi_wp2
    have hK' : ((W.setCell ⟨w.heap.size + 1, 0, none⟩ (.int .i64 (manyT A p A.length))).setCell ⟨w.heap.size + 1 + 1, 0, none⟩ .nilIface).heap[D]? = some (.deferred (some [])) := by
      have := HD.out
      rw [Below.heap_setCell _ _ _ _ (by simp; omega), Below.heap_setCell _ _ _ _ (by simp; omega)]; exact HK.out
    have r1 : Blk ((W.setCell ⟨w.heap.size + 1, 0, none⟩ (.int .i64 (manyT A p A.length))).setCell ⟨w.heap.size + 1 + 1, 0, none⟩ .nilIface) (w.heap.size + 1) 3 #[.int .i64 (manyT A p A.length)] := (C1.out.set 0 _).far (by omega) _ _
    have r2 : Blk ((W.setCell ⟨w.heap.size + 1, 0, none⟩ (.int .i64 (manyT A p A.length))).setCell ⟨w.heap.size + 1 + 1, 0, none⟩ .nilIface) (w.heap.size + 1 + 1) 29 #[.nilIface] := (C2.out.far (by omega) _ _).set 0 _
    refine ⟨by simp, .inl ⟨_, _, rfl, run_takeDeferred hK', ?_⟩⟩
    have hd := HD.out
    have l1 := loadI (r1.putO (.deferred none) (l := D) (by omega))
    have l2 := loadE (r2.putO (.deferred none) (l := D) (by omega))
    refine ⟨.tuple #[.int .i64 (manyT A p A.length), .nilIface], ?_, by rw [HE.out], ?_⟩
    · rw [results_two rfl]
      simp [asAddr, Result.andThen, l1, l2]
    · exact ((HBk.out.setCell (by simp) _).setCell (by simp; omega) _).trans (below_putObj _ _ (by omega))
  case stop => exact fun _ _ _ _ _ h => h.elim

set_option maxHeartbeats 4000000 in
theorem many_wrong (n : Nat) (hn : n ≤ 6) (l : List Rw) (v : Value) (w : World) (hR : ReadsR w v l) (hr : ¬ rowsFault l = 0) :
    Calls Tryz.prog 12 #[.int .i64 n, v] w fun e w' => e = .returned (.tuple #[.int .i64 0, .iface 75 (.int .i64 (rowsFault l))]) ∧ Below w.heap.size w w' := by
  obtain ⟨lao, lcap, rfl, hll⟩ := hR.slice
  obtain ⟨A, hA⟩ : ∃ A, A = everyC n := ⟨_, rfl⟩
  obtain ⟨F, hF⟩ : ∃ F, F = rowsFault l := ⟨_, rfl⟩
  have HF : Hid (∀ (M : Nat → Int) W, Below w.heap.size w W → Calls Tryz.prog 39 #[.slice lao l.length lcap, .agg #[.int .i64 (M 0), .int .i64 (M 1), .int .i64 (M 2), .int .i64 (M 3), .int .i64 (M 4), .int .i64 (M 5), .int .i64 (M 6), .int .i64 (M 7)]] W fun e w' => e = .returned (.tuple #[.bool false, .iface 75 (.int .i64 F)]) ∧ Below W.heap.size W w') := fun M W hW => by
    have h := rfits_any l _ M W (hR.below hW)
    have ef : fitsFault l M = rowsFault l := by unfold fitsFault; rw [if_neg hr]
    have e : fitsIs l M = false := by unfold fitsIs; rw [ef, if_neg hr]
    rw [e, ef, errV_no hr, ← hF] at h
    exact h
  have HS : Hid (∀ Bu W, W.cell? ⟨Bu, 0, none⟩ = some (.int .i64 n) → SeqG 2 Tryz.prog 74 #[.pointer (some ⟨Bu, 0, none⟩)] enc8 A W) := fun Bu W hB => by rw [hA]; exact iter_any n hn 2 (by omega) Bu W hB
  have HLn : Hid (0 < A.length) := by unfold Hid; rw [hA]; exact List.length_pos_iff.2 (allF_ne 7 n _)
  rw [← hF]
  have HCk : Hid (∀ W, Calls Tryz.prog 38 #[.int .i64 n] W fun e w' => e = .returned .nilIface ∧ W = w') := fun W => fitCheck_ok n hn W
  clear hA hF hr hn
  refine (callsIn_wide (n := 3)).1 ?_
  refine callsIn_of_wp_marks Tryz.func12 rfl trivial ?_ rfl
  simp only [Tryz.ntmps12, List.size_toArray, List.length_cons, List.length_nil, Nat.reduceAdd, Nat.reduceSub, Array.replicate_succ, Array.replicate_zero, List.push_toArray, List.append_toArray, List.nil_append, List.cons_append]
  gi_wp2_with fail
  refine ⟨trivial, ?_⟩
  gi_at_call 38
  refine (callsIn_wide.2 (HCk.out _)).mono ?_
  rintro e w1 ⟨rfl, rfl⟩
  gi_wp2_with fail
  refine ⟨trivial, ?_⟩
  gi_at_call 28
  refine (callsIn_wide.2 (fitAll_any _ _)).mono ?_
  rintro e w3 ⟨rfl, rfl⟩
  gi_wp2_with fail
  obtain ⟨hsz, b0, b1, b2, b3, b4, hB0⟩ := five_new w (.cells #[.slice lao l.length lcap] 43) (.cells #[.int .i64 0] 3) (.cells #[.nilIface] 29) (.cells #[.int .i64 0] 3) (.cells #[.int .i64 n] 3)
  obtain ⟨wl, hwl⟩ : ∃ x, x = ((((w.alloc (.cells #[.slice lao l.length lcap] 43)).alloc (.cells #[.int .i64 0] 3)).alloc (.cells #[.nilIface] 29)).alloc (.cells #[.int .i64 0] 3)).alloc (.cells #[.int .i64 n] 3) := ⟨_, rfl⟩
  rw [← hwl] at hsz b0 b1 b2 b3 b4 hB0 ⊢
  clear hwl
  have HB0 : Hid (Below w.heap.size w wl) := hB0
  have Hsz : Hid (wl.heap.size = w.heap.size + 5) := hsz
  have H0 : Hid (Blk wl w.heap.size 43 #[.slice lao l.length lcap]) := b0
  have H1 : Hid (Blk wl (w.heap.size + 1) 3 #[.int .i64 0]) := b1
  have H2 : Hid (Blk wl (w.heap.size + 1 + 1) 29 #[.nilIface]) := b2
  have H3 : Hid (Blk wl (w.heap.size + 1 + 1 + 1) 3 #[.int .i64 0]) := b3
  have H4 : Hid (Blk wl (w.heap.size + 1 + 1 + 1 + 1) 3 #[.int .i64 n]) := b4
  clear hsz b0 b1 b2 b3 b4 hB0
  refine wpIn_range_own (by omega) (gf := 74) (lb := #[.pointer (some ⟨w.heap.size + 1 + 1 + 1 + 1, 0, none⟩)]) rfl (enters_of Tryz.func74 (by kernel_rfl) rfl) (encs := enc8) (A := A)
    (fun W hW => HS.out _ W ((hW.cell (by rw [Hsz.out]; simp)).trans (H4.out.cell 0))) (fun _ => rfl)
    (fun k W => Below w.heap.size w W ∧ Blk W w.heap.size 43 #[.slice lao l.length lcap] ∧ Blk W (w.heap.size + 1) 3 #[.int .i64 0] ∧ Blk W (w.heap.size + 1 + 1) 29 #[.nilIface] ∧ k = 0)
    (fun _ W => Below w.heap.size w W ∧ Blk W (w.heap.size + 1) 3 #[.int .i64 0] ∧ Blk W (w.heap.size + 1 + 1) 29 #[.iface 75 (.int .i64 F)])
    (fun k X Y h hb => ⟨h.1.trans (hb.mono (by rw [Hsz.out]; omega)), h.2.1.keep hb (by rw [Hsz.out]; omega), h.2.2.1.keep hb (by rw [Hsz.out]; omega), h.2.2.2.1.keep hb (by rw [Hsz.out]; omega), h.2.2.2.2⟩)
    (fun _ X Y h hb => ⟨h.1.trans (hb.mono (by rw [Hsz.out]; omega)), h.2.1.keep hb (by rw [Hsz.out]; omega), h.2.2.keep hb (by rw [Hsz.out]; omega)⟩) ⟨HB0.out, H0.out, H1.out, H2.out, rfl⟩ ?round ?done ?stop
  case round =>
    intro ln k x W hx hl1 hl2 ⟨hB, c0, c1, c2, c3⟩
    have HX : Hid (A[k]? = some x) := hx
    have Hl1 : Hid (w.heap.size + 5 ≤ ln) := by unfold Hid; rw [← Hsz.out]; exact hl1
    have Hl2 : Hid (ln < W.heap.size) := hl2
    have HBk : Hid (Below w.heap.size w W) := hB
    have C0 : Hid (Blk W w.heap.size 43 #[.slice lao l.length lcap]) := c0
    have C1 : Hid (Blk W (w.heap.size + 1) 3 #[.int .i64 0]) := c1
    have C2 : Hid (Blk W (w.heap.size + 1 + 1) 29 #[.nilIface]) := c2
    clear hx hl1 hl2 hB c0 c1 c2 c3
    unfold enc8
    gi_wp2
    refine ⟨(Over.refl _ _).alloc _, fun o => ?_⟩
    obtain ⟨W2, hW2⟩ : ∃ X, X = (W.alloc (.cells #[.int .i64 (x 0), .int .i64 (x 1), .int .i64 (x 2), .int .i64 (x 3), .int .i64 (x 4), .int .i64 (x 5), .int .i64 (x 6), .int .i64 (x 7)] 44)).putObj ln o := ⟨_, rfl⟩
    obtain ⟨Gx, hGx⟩ : ∃ G, G = W.heap.size := ⟨_, rfl⟩
    have HB2 : Hid (Below w.heap.size w W2) := by unfold Hid; rw [hW2]; exact (HBk.out.alloc HBk.out.size _).trans (below_putObj _ _ (by have := Hl1.out; omega))
    have D0 : Hid (Blk W2 w.heap.size 43 #[.slice lao l.length lcap]) := by unfold Hid; rw [hW2]; exact (C0.out.old _).putO _ (by have := Hl1.out; omega)
    have D1 : Hid (Blk W2 (w.heap.size + 1) 3 #[.int .i64 0]) := by unfold Hid; rw [hW2]; exact (C1.out.old _).putO _ (by have := Hl1.out; omega)
    have D2 : Hid (Blk W2 (w.heap.size + 1 + 1) 29 #[.nilIface]) := by unfold Hid; rw [hW2]; exact (C2.out.old _).putO _ (by have := Hl1.out; omega)
    have D8 : Hid (Blk W2 Gx 44 (arr8 x)) := by unfold Hid; rw [hW2, hGx]; exact (Blk.new _ _ _).putO _ (by have := Hl2.out; omega)
    rw [← hW2, ← hGx]
    clear hW2 hGx
    have HFk : Hid (Calls Tryz.prog 39 #[.slice lao l.length lcap, .agg #[.int .i64 (x 0), .int .i64 (x 1), .int .i64 (x 2), .int .i64 (x 3), .int .i64 (x 4), .int .i64 (x 5), .int .i64 (x 6), .int .i64 (x 7)]] W2 fun e w' => e = .returned (.tuple #[.bool false, .iface 75 (.int .i64 F)]) ∧ Below W2.heap.size W2 w') := HF.out x W2 HB2.out
    have e0 : W2.cell? ⟨w.heap.size, 0, none⟩ = some (.slice lao l.length lcap) := D0.out.cell 0
    obtain ⟨x0, x1, x2, x3, x4, x5, x6, x7⟩ := D8.out.cells8
    gi_wp2_with fail
    refine ⟨trivial, ?_⟩
    gi_at_call 39
    refine (CallsIn.inRound ln (callsIn_wide.2 HFk.out)).mono ?_
    rintro e W3 ⟨rfl, hb3⟩
    have HB3 : Hid (Below w.heap.size w W3) := HB2.out.trans (hb3.mono HB2.out.size)
    have E0 : Hid (Blk W3 w.heap.size 43 #[.slice lao l.length lcap]) := D0.out.below hb3
    have E1 : Hid (Blk W3 (w.heap.size + 1) 3 #[.int .i64 0]) := D1.out.below hb3
    have E2 : Hid (Blk W3 (w.heap.size + 1 + 1) 29 #[.nilIface]) := D2.out.below hb3
    have HO3 : Hid (Over wl.heap.size W2 W3) := Over.of_below hb3
    clear hb3 e0 x0 x1 x2 x3 x4 x5 x6 x7
    have e1 : W3.cell? ⟨w.heap.size + 1, 0, none⟩ = some (.int .i64 0) := E1.out.cell 0
    have z1 : W3.frozen? ⟨w.heap.size + 1, 0, none⟩ = false := E1.out.frozen 0
    have e2 : W3.cell? ⟨w.heap.size + 1 + 1, 0, none⟩ = some .nilIface := E2.out.cell 0
    have z2 : W3.frozen? ⟨w.heap.size + 1 + 1, 0, none⟩ = false := E2.out.frozen 0
    gi_wp2
    exact ⟨(HO3.out.setCell (by rw [Hsz.out]; simp) _).setCell (by rw [Hsz.out]; simp) _, (HB3.out.setCell (by simp) _).setCell (by simp; omega) _, (E1.out.set 0 _).far (by omega) _ _, (E2.out.far (by omega) _ _).set 0 _⟩
  case done =>
    intro D W _ ⟨_, _, _, _, h0⟩
    have := HLn.out
    omega
  case stop =>
    intro D k W hD _ ⟨hB, c1, c2⟩ hK
    have HD : Hid (w.heap.size + 5 ≤ D) := by unfold Hid; rw [← Hsz.out]; exact hD
    have HK : Hid (W.heap[D]? = some (.deferred (some []))) := hK
    have HBk : Hid (Below w.heap.size w W) := hB
    have C1 : Hid (Blk W (w.heap.size + 1) 3 #[.int .i64 0]) := c1
    have C2 : Hid (Blk W (w.heap.size + 1 + 1) 29 #[.iface 75 (.int .i64 F)]) := c2
    clear hD hB c1 c2 hK
    gi_wp2
    refine ⟨by simp, .inl ⟨_, _, rfl, run_takeDeferred HK.out, ?_⟩⟩
    have hd := HD.out
    have l1 := loadI (C1.out.putO (.deferred none) (l := D) (by omega))
    have l2 := loadE (C2.out.putO (.deferred none) (l := D) (by omega))
    refine ⟨.tuple #[.int .i64 0, .iface 75 (.int .i64 F)], ?_, rfl, ?_⟩
    · rw [results_two rfl]
      simp [asAddr, Result.andThen, l1, l2]
    · exact HBk.out.trans (below_putObj _ _ (by omega))

set_option maxHeartbeats 4000000 in
theorem many_range (u : Int) (hu : ¬ (0 ≤ u ∧ u ≤ 6)) (lao : Option Addr) (ln lcap : Nat) (w : World) :
    Calls Tryz.prog 12 #[.int .i64 u, .slice lao ln lcap] w fun e w' => e = .returned (.tuple #[.int .i64 0, .iface 75 (.int .i64 1)]) ∧ Below w.heap.size w w' := by
  have HCk : Hid (∀ W, Calls Tryz.prog 38 #[.int .i64 u] W fun e w' => e = .returned (.iface 75 (.int .i64 1)) ∧ W = w') := fun W => fitCheck_no u hu W
  clear hu
  go_enter Tryz.func12, Tryz.ntmps12
  go_wp2_with fail
  go_at_call 38
  refine (HCk.out _).mono ?_
  rintro e w1 ⟨rfl, rfl⟩
  go_wp2
  refine bodyPost_ret (v := .tuple #[.int .i64 0, .iface 75 (.int .i64 1)]) ?_ rfl ⟨rfl, by go_grown⟩
  have r1 : Blk (((w.alloc (.cells #[.slice lao ln lcap] 43)).alloc (.cells #[.int .i64 0] 3)).alloc (.cells #[.iface 75 (.int .i64 1)] 29)) (w.heap.size + 1) 3 #[.int .i64 0] := by
    have := Blk.new (w.alloc (.cells #[.slice lao ln lcap] 43)) 3 #[.int .i64 0]
    rw [World.size_alloc] at this
    exact this.old _
  have r2 : Blk (((w.alloc (.cells #[.slice lao ln lcap] 43)).alloc (.cells #[.int .i64 0] 3)).alloc (.cells #[.iface 75 (.int .i64 1)] 29)) (w.heap.size + 1 + 1) 29 #[.iface 75 (.int .i64 1)] := by
    have := Blk.new ((w.alloc (.cells #[.slice lao ln lcap] 43)).alloc (.cells #[.int .i64 0] 3)) 29 #[.iface 75 (.int .i64 1)]
    rw [World.size_alloc, World.size_alloc] at this
    exact this
  have l1 := loadI r1
  have l2 := loadE r2
  rw [results_two rfl]
  simp [asAddr, Result.andThen, l1, l2]

/-- Many, whatever the number of things and the rows. -/
theorem many_any (u : Int) (l : List Rw) (v : Value) (w : World) (hR : ReadsR w v l) :
    Calls Tryz.prog 12 #[.int .i64 u, v] w fun e w' => e = .returned (.tuple #[.int .i64 (fitManyN u l), errV (fitFault u l)]) ∧ Below w.heap.size w w' := by
  by_cases hu : 0 ≤ u ∧ u ≤ 6
  · obtain ⟨n, rfl⟩ := Int.eq_ofNat_of_zero_le hu.1
    have eff : fitFault (n : Int) l = rowsFault l := by unfold fitFault; rw [if_pos hu]
    by_cases hr : rowsFault l = 0
    · have em : fitManyN (n : Int) l = (manyD (everyC n) (fitB l) 0 : Int) := by unfold fitManyN; rw [eff, if_pos hr, Int.toNat_natCast]
      rw [em, eff, hr]
      exact many_right n (by omega) l v w hR hr
    · have em : fitManyN (n : Int) l = 0 := by unfold fitManyN; rw [eff, if_neg hr]
      rw [em, eff, errV_no hr]
      exact many_wrong n (by omega) l v w hR hr
  · have eff : fitFault u l = 1 := by unfold fitFault; rw [if_neg hu]
    have em : fitManyN u l = 0 := by unfold fitManyN; rw [eff, if_neg (by decide)]
    rw [em, eff]
    obtain ⟨lao, lcap, rfl, _⟩ := hR.slice
    exact many_range u hu lao _ lcap w
end Go.Proofs.YtjaedfjfcghgcabGreatDoor

