/-
  Proved: what form.Check returns, of any atoms and any row of signs; what was in memory is as it was (a contract that the statements lean on).
  Proved: what vennref1.Form returns, of any formula; what was in memory is as it was (a contract that the statements lean on).
  Proved: what vennref2.ReadForm returns, of any text of at most 1048576 bytes; what was in memory is as it was (a contract that the statements lean on).
-/
import Derived.Test.YtfnkbbpjfjendaiGreatDoorLibTX11
import Derived.Test.YtfnkbbpjfjendaiGreatDoorLibTX6
import Derived.Test.YtfnkbbpjfjendaiGreatDoorLibTX16
import Derived.Test.YtfnkbbpjfjendaiGreatDoorLibTX25
namespace Go.Proofs.YtfnkbbpjfjendaiGreatDoor
open Go.ChangeShapes Go.WideShapes Go.ChangeAt Go.RowKit
set_option maxRecDepth 100000

/-- behind k right atoms. -/
theorem firstFault_drop (ats : List At) {k : Nat} {a : At} (ha : ats[k]? = some a) : firstFault (ats.drop k) = if a.fault = 0 then firstFault (ats.drop (k + 1)) else a.fault := by
  obtain ⟨hk, rfl⟩ := List.getElem?_eq_some_iff.1 ha
  rw [List.drop_eq_getElem_cons hk]; rfl

/-- where there is no atom, or no sign. -/
theorem fcheck_none (va vc : Value) (ats : List At) (c : List Int) (w : World) (hA : ReadsA w va ats) (hC : Reads w vc c) (h0 : ats.length = 0 ∨ c.length = 0) :
    Calls Tryz.prog 13 #[.agg #[va, vc]] w fun e w' => e = .returned (.iface 55 (.int .i64 5)) ∧ Below w.heap.size w w' := by
  obtain ⟨ao, acap, rfl, hal⟩ := hA.slice
  obtain ⟨co, ccap, rfl, hcl⟩ := hC.slice
  clear hA hC
  obtain ⟨m, hm⟩ : ∃ m, m = ats.length := ⟨_, rfl⟩
  obtain ⟨n, hn⟩ : ∃ n, n = c.length := ⟨_, rfl⟩
  rw [← hm] at h0 hal ⊢
  rw [← hn] at h0 hcl ⊢
  clear hm hn
  rcases h0 with rfl | rfl
  · go_enter Tryz.func13, Tryz.ntmps13
    go_wp2
    go_ret
    exact ⟨rfl, below_alloc1 _ _⟩
  · by_cases h1 : m = 0
    · subst h1
      go_enter Tryz.func13, Tryz.ntmps13
      go_wp2
      go_ret
      exact ⟨rfl, below_alloc1 _ _⟩
    · have h1' : ¬ ((m : Int) = 0) := by omega
      go_enter Tryz.func13, Tryz.ntmps13
      go_wp2
      go_ret
      exact ⟨rfl, below_alloc1 _ _⟩
/-- where there are too many. -/
theorem fcheck_full (va vc : Value) (ats : List At) (c : List Int) (w : World) (hA : ReadsA w va ats) (hC : Reads w vc c) (h0 : ¬ (ats.length = 0 ∨ c.length = 0)) (h1 : 6 < ats.length ∨ 20 < c.length) :
    Calls Tryz.prog 13 #[.agg #[va, vc]] w fun e w' => e = .returned (.iface 55 (.int .i64 4)) ∧ Below w.heap.size w w' := by
  obtain ⟨ao, acap, rfl, hal⟩ := hA.slice
  obtain ⟨co, ccap, rfl, hcl⟩ := hC.slice
  clear hA hC
  obtain ⟨m, hm⟩ : ∃ m, m = ats.length := ⟨_, rfl⟩
  obtain ⟨n, hn⟩ : ∃ n, n = c.length := ⟨_, rfl⟩
  rw [← hm] at h0 h1 hal ⊢
  rw [← hn] at h0 h1 hcl ⊢
  clear hm hn
  have hm' : ((m : Int) == 0) = false := by simp; omega
  have hn' : ((n : Int) == 0) = false := by simp; omega
  have HT : Hid (∀ W, Calls Tryz.prog 29 #[.int .i64 m, .int .i64 n] W fun e w' => e = .returned (.bool true) ∧ W = w') := fun W => by
    have := tooMany_any m n W
    rw [show (decide (6 < (m : Int)) || decide (20 < (n : Int))) = true by simp; omega] at this
    exact this
  clear h0 h1
  go_enter Tryz.func13, Tryz.ntmps13
  go_wp2_with fail
  go_at_call 29
  refine (HT.out _).mono ?_
  rintro e w' ⟨rfl, rfl⟩
  go_wp2
  go_ret
  exact ⟨rfl, below_alloc1 _ _⟩

theorem fcheck_rest (ao co : Option Addr) (acap ccap : Nat) (ats : List At) (c : List Int) (w : World) (hA : ReadsA w (.slice ao ats.length acap) ats) (hC : Reads w (.slice co c.length ccap) c) (hK : KindsLaid w) (h0 : ¬ (ats.length = 0 ∨ c.length = 0)) (h1 : ¬ (6 < ats.length ∨ 20 < c.length)) :
    Calls Tryz.prog 13 #[.agg #[.slice ao ats.length acap, .slice co c.length ccap]] w fun e w' => e = .returned (errV (formFault ats c)) ∧ Below w.heap.size w w' := by
  obtain ⟨w1, hw1⟩ : ∃ w1, w1 = w.alloc (.cells #[.slice ao ats.length acap, .slice co c.length ccap] 25) := ⟨_, rfl⟩
  have HB1 : Hid (Below w.heap.size w w1) := by unfold Hid; rw [hw1]; exact below_alloc1 w _
  have HS1 : Hid (w1.heap.size = w.heap.size + 1) := by unfold Hid; rw [hw1]; simp
  have HX : Hid (w1.cell? ⟨w.heap.size, 0, none⟩ = some (.slice ao ats.length acap) ∧ w1.cell? ⟨w.heap.size, 1, none⟩ = some (.slice co c.length ccap)) := by
    unfold Hid; rw [hw1]; simp
  have HA : Hid (ReadsA w1 (.slice ao ats.length acap) ats) := hA.below HB1.out
  have HC : Hid (Reads w1 (.slice co c.length ccap) c) := hC.below HB1.out
  have HK : Hid (KindsLaid w1) := hK.below HB1.out
  clear hA hC hK
  have HF : Hid (formFault ats c = if firstFault ats = 0 then (if c.all (signF ats.length) = true then (if cntF c 0 = some 1 then 0 else 3) else 1) else firstFault ats) := by
    unfold Hid formFault; rw [if_neg h0, if_neg h1]
  obtain ⟨m, hm⟩ : ∃ m, m = ats.length := ⟨_, rfl⟩
  obtain ⟨n, hn⟩ : ∃ n, n = c.length := ⟨_, rfl⟩
  rw [← hm] at h0 h1 hw1 HX HA HF ⊢
  rw [← hn] at h0 h1 hw1 HX HC ⊢
  have HM : Hid (m = ats.length) := hm
  have HN : Hid (n = c.length) := hn
  clear hm hn
  have hm' : ((m : Int) == 0) = false := by simp; omega
  have hn' : ((n : Int) == 0) = false := by simp; omega
  have hm6 : m ≤ 6 := by omega
  have hn20 : n ≤ 20 := by omega
  have HT : Hid (∀ W, Calls Tryz.prog 29 #[.int .i64 m, .int .i64 n] W fun e w' => e = .returned (.bool false) ∧ W = w') := fun W => by
    have := tooMany_any m n W
    rw [show (decide (6 < (m : Int)) || decide (20 < (n : Int))) = false by simp; omega] at this
    exact this
  clear h0 h1
  have x0 := HX.out.1
  have x1 := HX.out.2
  go_enter Tryz.func13, Tryz.ntmps13
  go_wp2_with fail
  rw [← hw1]
  clear hw1
  go_wp2_with fail
  go_at_call 29
  refine (HT.out _).mono ?_
  rintro e w' ⟨rfl, rfl⟩
  go_wp2
  go_loopw [29] (fun i wr => ∃ k : Nat, k ≤ m ∧ i = .int .i64 k ∧ Below w1.heap.size w1 wr ∧ firstFault (ats.drop k) = firstFault ats) (fun i _ => m - (intOf i).toNat)
  case atStart => exact ⟨0, Nat.zero_le _, rfl, Below.refl _ _, rfl⟩
  case round =>
    obtain ⟨k, hk, rfl, hbel, hff⟩ := hrel
    have HF0 : Hid (firstFault (ats.drop k) = firstFault ats) := hff
    have HB : Hid (Below w1.heap.size w1 wr) := hbel
    clear hff hbel
    by_cases hlt : k < m
    · obtain ⟨a, ha⟩ : ∃ a, ats[k]? = some a := ⟨_, List.getElem?_eq_getElem (by have := HM.out; omega)⟩
      have HFF : Hid (firstFault ats = if a.fault = 0 then firstFault (ats.drop (k + 1)) else a.fault) := by
        unfold Hid; rw [← HF0.out, firstFault_drop ats ha]
      rcases HA.out.below HB.out with ⟨_, _, hv, hn⟩ | ⟨b, off, cap, hv, hb, _, _, hall⟩
      · have := HM.out; rw [hn] at this; simp at this; omega
      obtain rfl : ao = some ⟨b, off, none⟩ := by cases hv; rfl
      obtain ⟨vs, vt, c0, c1, c2, c3, r1, r2⟩ := hall k a ha
      obtain ⟨sao, scap, rfl, _⟩ := r1.slice
      obtain ⟨tao, tcap, rfl, _⟩ := r2.slice
      clear hv hall
      obtain ⟨w2, hw2⟩ : ∃ w2, w2 = wr.alloc (.cells #[.int .i64 a.k, .slice sao a.s.length scap, .slice tao a.t.length tcap, .int .i64 a.n] 40) := ⟨_, rfl⟩
      have HB2 : Hid (Below wr.heap.size wr w2) := by unfold Hid; rw [hw2]; exact below_alloc1 wr _
      have HCk : Hid (Calls Tryz.prog 30 #[.agg #[.int .i64 a.k, .slice sao a.s.length scap, .slice tao a.t.length tcap, .int .i64 a.n]] w2 fun e w' => e = .returned (errV a.fault) ∧ Below w2.heap.size w2 w') :=
        acheck_any a.k a.n _ _ a.s a.t w2 (r1.below HB2.out) (r2.below HB2.out) ((HK.out.below HB.out).below HB2.out)
      clear r1 r2
      go_wp2_with fail
      rw [← hw2]
      clear hw2
      go_at_call 30
      refine HCk.out.mono ?_
      rintro e w3 ⟨rfl, hb3⟩
      have HB3 : Hid (Below w1.heap.size w1 w3) := (HB.out.trans (HB2.out.mono HB.out.size)).trans (hb3.mono (Nat.le_trans HB.out.size HB2.out.size))
      clear hb3 HCk
      by_cases hf : a.fault = 0
      · have HD : Hid (firstFault (ats.drop (k + 1)) = firstFault ats) := by
          have := HFF.out
          rw [if_pos hf] at this
          exact this.symm
        rw [hf, errV_0]
        go_wp2
        go_roundw
        case rel => exact ⟨k + 1, by omega, by go_num, HB3.out, HD.out⟩
        case measure => simp [intOf]; omega
      · have HE : Hid (formFault ats c = a.fault) := by
          have := HFF.out
          rw [if_neg hf] at this
          unfold Hid; rw [HF.out, this, if_neg hf]
        rw [errV_no hf]
        go_wp2
        go_ret
        refine ⟨back_v ?_, HB1.out.trans (HB3.out.mono HB1.out.size)⟩
        rw [HE.out, errV_no hf]
        rfl
    · have HE : Hid (firstFault ats = 0) := by
        have := HF0.out
        rw [List.drop_eq_nil_of_le (by have := HM.out; omega)] at this
        exact this.symm
      have hlt0 : w.heap.size < w1.heap.size := by have := HS1.out; omega
      have y0 : wr.cell? ⟨w.heap.size, 0, none⟩ = some (.slice ao m acap) := by rw [HB.out.cell hlt0]; exact HX.out.1
      have y1 : wr.cell? ⟨w.heap.size, 1, none⟩ = some (.slice co n ccap) := by rw [HB.out.cell hlt0]; exact HX.out.2
      rcases HC.out.below HB.out with ⟨_, _, hv, hcn⟩ | ⟨b, off, cap, hv, hb, _, ⟨hl63, _⟩, hc⟩
      · have := HN.out; rw [hcn] at this; simp at this; subst this; simp at hn'
      obtain rfl : co = some ⟨b, off, none⟩ := by cases hv; rfl
      clear hv
      have cF := fcontainsFunc_any m acap w.heap.size ao b off ccap c wr hl63 y0 hc
      have cO := fisOne_any b off ccap c wr (by have := HN.out; omega) hc
      rw [← HN.out] at cF cO
      obtain ⟨x, hx⟩ : ∃ x, x = c.all (signF m) := ⟨_, rfl⟩
      obtain ⟨y, hy⟩ : ∃ y, y = decide (cntF c 0 = some 1) := ⟨_, rfl⟩
      rw [← hx] at cF
      rw [← hy] at cO
      have HF' : Hid (formFault ats c = if x = true then (if y = true then 0 else 3) else 1) := by
        unfold Hid; rw [HF.out, HE.out, hx, hy]; simp only [decide_eq_true_eq, if_true]
      clear hx hy hc hlt0 hl63 hb
      have HP : Hid (Calls Tryz.prog 33 #[.slice (some ⟨b, off, none⟩) n ccap, .func (.func 31) #[] #[.pointer (some ⟨w.heap.size, 0, none⟩)]] wr fun e w' => e = .returned (.bool (!x)) ∧ wr = w') := cF
      have HQ : Hid (Calls Tryz.prog 34 #[.slice (some ⟨b, off, none⟩) n ccap] wr fun e w' => e = .returned (.bool y) ∧ wr = w') := cO
      clear cF cO
      have HEnd : Hid (Below w.heap.size w wr) := HB1.out.trans (HB.out.mono HB1.out.size)
      cases x
      · go_wp2_with (go_at_call 33; refine HP.out.mono ?_; rintro e w' ⟨rfl, rfl⟩)
        go_ret
        exact ⟨back_v (by rw [HF'.out]; rfl), HEnd.out⟩
      · cases y
        all_goals
          go_wp2_with (first | (go_at_call 33; refine HP.out.mono ?_; rintro e w' ⟨rfl, rfl⟩) | (go_at_call 34; refine HQ.out.mono ?_; rintro e w' ⟨rfl, rfl⟩))
          go_ret
          exact ⟨back_v (by rw [HF'.out]; rfl), HEnd.out⟩

/-- Check, whatever the formula. -/
theorem fcheck_any (va vc : Value) (ats : List At) (c : List Int) (w : World) (hA : ReadsA w va ats) (hC : Reads w vc c) (hK : KindsLaid w) :
    Calls Tryz.prog 13 #[.agg #[va, vc]] w fun e w' => e = .returned (errV (formFault ats c)) ∧ Below w.heap.size w w' := by
  by_cases h0 : ats.length = 0 ∨ c.length = 0
  · have e : formFault ats c = 5 := by unfold formFault; rw [if_pos h0]
    rw [e]
    exact fcheck_none va vc ats c w hA hC h0
  by_cases h1 : 6 < ats.length ∨ 20 < c.length
  · have e : formFault ats c = 4 := by unfold formFault; rw [if_neg h0, if_pos h1]
    rw [e]
    exact fcheck_full va vc ats c w hA hC h0 h1
  obtain ⟨ao, acap, rfl, _⟩ := hA.slice
  obtain ⟨co, ccap, rfl, _⟩ := hC.slice
  exact fcheck_rest ao co acap ccap ats c w hA hC hK h0 h1
end Go.Proofs.YtfnkbbpjfjendaiGreatDoor

namespace Go.Proofs.YtfnkbbpjfjendaiGreatDoor
open Go.ChangeShapes Go.WideShapes Go.ChangeAt Go.RowKit
set_option maxRecDepth 100000

theorem signF_ref {m : Nat} (hm : m ≤ 6) {s : Int} : signF m s = true ↔ ¬ (s < 0 ∨ 13 < s ∨ (s < 10 ∧ (m : Int) ≤ s)) := by
  rw [signF_iff]
  unfold takesF
  constructor
  · rintro (h | h)
    · split at h
      · omega
      · split at h <;> omega
    · omega
  · intro h
    by_cases h1 : s < 10
    · right; omega
    · left
      split
      · omega
      · rw [if_pos (by omega)]; omega
theorem takesF_high {s : Int} (h0 : ¬ s < 10) (h1 : ¬ 13 < s) : takesF s = if s = 12 then 1 else 2 := by
  unfold takesF
  by_cases h : s = 12
  · rw [if_neg (by omega), if_pos h, if_pos h]
  · rw [if_pos (by omega), if_neg h]
theorem all_step {m : Nat} {t : List Int} {k : Nat} (h : k < t.length) (ha : (t.take k).all (signF m) = true) (hs : signF m (t.getD k 0) = true) : (t.take (k + 1)).all (signF m) = true := by
  rw [takeF_succ t h, List.all_append, ha]
  simp only [List.all_cons, List.all_nil, Bool.and_true, Bool.true_and]
  exact hs
theorem all_stop {m : Nat} {t : List Int} {k : Nat} (h : k < t.length) (hs : ¬ signF m (t.getD k 0) = true) : ¬ t.all (signF m) = true := by
  intro ha
  apply hs
  have := List.all_eq_true.1 ha (t.getD k 0) (by simp [List.getElem?_eq_getElem h])
  exact this
theorem refForm_none (ao co : Option Addr) (m n acap ccap : Nat) (w : World) (h0 : m = 0 ∨ n = 0) :
    Calls Tryz.prog 6 #[.agg #[.slice ao m acap, .slice co n ccap]] w fun e w' => e = .returned (.int .i64 5) ∧ Below w.heap.size w w' := by
  by_cases hm : m = 0
  · subst hm
    go_enter Tryz.func6, Tryz.ntmps6
    go_wp2
    go_ret
    exact ⟨rfl, below_alloc1 _ _⟩
  · obtain rfl : n = 0 := by omega
    have hm' : ((m : Int) == 0) = false := by simp; omega
    go_enter Tryz.func6, Tryz.ntmps6
    go_wp2
    go_ret
    exact ⟨rfl, below_alloc1 _ _⟩
theorem refForm_full (ao co : Option Addr) (m n acap ccap : Nat) (w : World) (h0 : ¬ (m = 0 ∨ n = 0)) (h1 : 6 < m ∨ 20 < n) :
    Calls Tryz.prog 6 #[.agg #[.slice ao m acap, .slice co n ccap]] w fun e w' => e = .returned (.int .i64 4) ∧ Below w.heap.size w w' := by
  have hm' : ((m : Int) == 0) = false := by simp; omega
  have hn' : ((n : Int) == 0) = false := by simp; omega
  by_cases hm : 6 < m
  · have h : 6 < (m : Int) := by omega
    go_enter Tryz.func6, Tryz.ntmps6
    go_wp2
    go_ret
    exact ⟨rfl, below_alloc1 _ _⟩
  · have h : ¬ 6 < (m : Int) := by omega
    have h2 : 20 < (n : Int) := by omega
    go_enter Tryz.func6, Tryz.ntmps6
    go_wp2
    go_ret
    exact ⟨rfl, below_alloc1 _ _⟩
theorem refForm_rest (ao co : Option Addr) (acap ccap : Nat) (ats : List At) (c : List Int) (w : World) (hA : ReadsA w (.slice ao ats.length acap) ats) (hC : Reads w (.slice co c.length ccap) c) (h0 : ¬ (ats.length = 0 ∨ c.length = 0)) (h1 : ¬ (6 < ats.length ∨ 20 < c.length)) :
    Calls Tryz.prog 6 #[.agg #[.slice ao ats.length acap, .slice co c.length ccap]] w fun e w' => e = .returned (.int .i64 (formFault ats c)) ∧ Below w.heap.size w w' := by
  obtain ⟨w1, hw1⟩ : ∃ w1, w1 = w.alloc (.cells #[.slice ao ats.length acap, .slice co c.length ccap] 25) := ⟨_, rfl⟩
  have HB1 : Hid (Below w.heap.size w w1) := by unfold Hid; rw [hw1]; exact below_alloc1 w _
  have HS1 : Hid (w1.heap.size = w.heap.size + 1) := by unfold Hid; rw [hw1]; simp
  have HX : Hid (w1.cell? ⟨w.heap.size, 0, none⟩ = some (.slice ao ats.length acap) ∧ w1.cell? ⟨w.heap.size, 1, none⟩ = some (.slice co c.length ccap)) := by
    unfold Hid; rw [hw1]; simp
  have HA : Hid (ReadsA w1 (.slice ao ats.length acap) ats) := hA.below HB1.out
  have HC : Hid (Reads w1 (.slice co c.length ccap) c) := hC.below HB1.out
  clear hA hC
  have HF : Hid (formFault ats c = if firstFault ats = 0 then (if c.all (signF ats.length) = true then (if cntF c 0 = some 1 then 0 else 3) else 1) else firstFault ats) := by
    unfold Hid formFault; rw [if_neg h0, if_neg h1]
  obtain ⟨m, hm⟩ : ∃ m, m = ats.length := ⟨_, rfl⟩
  obtain ⟨n, hn⟩ : ∃ n, n = c.length := ⟨_, rfl⟩
  rw [← hm] at h0 h1 hw1 HX HA HF ⊢
  rw [← hn] at h0 h1 hw1 HX HC ⊢
  have HM : Hid (m = ats.length) := hm
  have HN : Hid (n = c.length) := hn
  clear hm hn
  have hm' : ((m : Int) == 0) = false := by simp; omega
  have hn' : ((n : Int) == 0) = false := by simp; omega
  have hm6 : m ≤ 6 := by omega
  have hn20 : n ≤ 20 := by omega
  have hm6' : ¬ 6 < (m : Int) := by omega
  have hn20' : ¬ 20 < (n : Int) := by omega
  clear h0 h1
  go_enter Tryz.func6, Tryz.ntmps6
  go_wp2
  rw [← hw1]
  clear hw1
  go_loopw [3] (fun i wr => ∃ k : Nat, k ≤ m ∧ i = .int .i64 k ∧ Below w1.heap.size w1 wr ∧ firstFault (ats.drop k) = firstFault ats) (fun i _ => m - (intOf i).toNat)
  case atStart => exact ⟨0, Nat.zero_le _, rfl, Below.refl _ _, rfl⟩
  case round =>
    obtain ⟨k, hk, rfl, hbel, hff⟩ := hrel
    have HF0 : Hid (firstFault (ats.drop k) = firstFault ats) := hff
    have HB : Hid (Below w1.heap.size w1 wr) := hbel
    clear hff hbel
    have hlt0 : w.heap.size < w1.heap.size := by have := HS1.out; omega
    have y0 : wr.cell? ⟨w.heap.size, 0, none⟩ = some (.slice ao m acap) := by rw [HB.out.cell hlt0]; exact HX.out.1
    have y1 : wr.cell? ⟨w.heap.size, 1, none⟩ = some (.slice co n ccap) := by rw [HB.out.cell hlt0]; exact HX.out.2
    clear hlt0
    by_cases hlt : k < m
    · obtain ⟨a, ha⟩ : ∃ a, ats[k]? = some a := ⟨_, List.getElem?_eq_getElem (by have := HM.out; omega)⟩
      have HFF : Hid (firstFault ats = if a.fault = 0 then firstFault (ats.drop (k + 1)) else a.fault) := by
        unfold Hid; rw [← HF0.out, firstFault_drop ats ha]
      rcases HA.out.below HB.out with ⟨_, _, hv, hn⟩ | ⟨b, off, cap, hv, hb, _, _, hall⟩
      · have := HM.out; rw [hn] at this; simp at this; omega
      obtain rfl : ao = some ⟨b, off, none⟩ := by cases hv; rfl
      obtain ⟨vs, vt, c0, c1, c2, c3, r1, r2⟩ := hall k a ha
      obtain ⟨sao, scap, rfl, _⟩ := r1.slice
      obtain ⟨tao, tcap, rfl, _⟩ := r2.slice
      clear hv hall
      have HCk : Hid (Calls Tryz.prog 14 #[.agg #[.int .i64 a.k, .slice sao a.s.length scap, .slice tao a.t.length tcap, .int .i64 a.n]] wr fun e w' => e = .returned (.int .i64 a.fault) ∧ Below wr.heap.size wr w') :=
        refAtom_any a.k a.n _ _ a.s a.t wr r1 r2
      clear r1 r2
      go_wp2_with fail
      go_at_call 14
      refine HCk.out.mono ?_
      rintro e w3 ⟨rfl, hb3⟩
      have HB3 : Hid (Below w1.heap.size w1 w3) := HB.out.trans (hb3.mono HB.out.size)
      clear hb3 HCk
      by_cases hf : a.fault = 0
      · have HD : Hid (firstFault (ats.drop (k + 1)) = firstFault ats) := by
          have := HFF.out
          rw [if_pos hf] at this
          exact this.symm
        rw [hf]
        go_wp2
        go_roundw
        case rel => exact ⟨k + 1, by omega, by go_num, HB3.out, HD.out⟩
        case measure => simp [intOf]; omega
      · have HE : Hid (formFault ats c = a.fault) := by
          have := HFF.out
          rw [if_neg hf] at this
          unfold Hid; rw [HF.out, this, if_neg hf]
        have hf' : (a.fault != 0) = true := by simpa using hf
        go_wp2
        go_ret
        exact ⟨back_v (by rw [HE.out]; rfl), HB1.out.trans (HB3.out.mono HB1.out.size)⟩
    · have HE : Hid (firstFault ats = 0) := by
        have := HF0.out
        rw [List.drop_eq_nil_of_le (by have := HM.out; omega)] at this
        exact this.symm
      have HF2 : Hid (formFault ats c = if c.all (signF m) = true then (if cntF c 0 = some 1 then 0 else 3) else 1) := by
        unfold Hid; rw [HF.out, HE.out]; simp only [if_true]
      have HEnd : Hid (Below w.heap.size w wr) := HB1.out.trans (HB.out.mono HB1.out.size)
      rcases HC.out.below HB.out with ⟨_, _, hv, hcn⟩ | ⟨b, off, cap, hv, hb, _, ⟨hl63, _⟩, hc⟩
      · have := HN.out; rw [hcn] at this; simp at this; subst this; simp at hn'
      obtain rfl : co = some ⟨b, off, none⟩ := by cases hv; rfl
      have HCe : Hid (∀ j, j < c.length → wr.cell? ⟨b, off + j, none⟩ = some (.int .i64 (c.getD j 0))) := hc
      clear hv hc hl63 hb
      go_wp2
      go_loop [5] (fun i => ∃ k : Nat, k ≤ n ∧ i = .int .i64 k ∧ (c.take k).all (signF m) = true) (fun i => n - (intOf i).toNat)
      case atStart => exact ⟨0, Nat.zero_le _, rfl, rfl⟩
      case round =>
        obtain ⟨j, hj, rfl, hall⟩ := hrel
        have HAl : Hid ((c.take j).all (signF m) = true) := hall
        clear hall
        by_cases hjn : j < n
        · obtain ⟨s, hs⟩ : ∃ s, s = c.getD j 0 := ⟨_, rfl⟩
          have hjc : j < c.length := by have := HN.out; omega
          have hc := HCe.out j hjc
          rw [← hs] at hc
          by_cases hg : signF m s = true
          · have HD : Hid ((c.take (j + 1)).all (signF m) = true) := all_step hjc HAl.out (by rw [← hs]; exact hg)
            have hb := (signF_ref hm6).1 hg
            have b1 : ¬ s < 0 := by omega
            have b2 : ¬ 13 < s := by omega
            clear hs hg
            by_cases b3 : s < 10
            · have b4 : ¬ (m : Int) ≤ s := by omega
              clear hb
              go_wp2
              go_round
              case rel => exact ⟨j + 1, by omega, by go_num, HD.out⟩
              case measure => simp [intOf]; omega
            · clear hb
              go_wp2
              go_round
              case rel => exact ⟨j + 1, by omega, by go_num, HD.out⟩
              case measure => simp [intOf]; omega
          · have HD : Hid (formFault ats c = 1) := by
              have := all_stop (m := m) hjc (by rw [← hs]; exact hg)
              unfold Hid; rw [HF2.out, if_neg this]
            have hb : s < 0 ∨ 13 < s ∨ (s < 10 ∧ (m : Int) ≤ s) := by
              by_cases h : s < 0 ∨ 13 < s ∨ (s < 10 ∧ (m : Int) ≤ s)
              · exact h
              · exact absurd ((signF_ref hm6).2 h) hg
            clear hs hg
            by_cases b1 : s < 0
            · clear hb
              go_wp2
              go_ret
              exact ⟨back_v (by rw [HD.out]; rfl), HEnd.out⟩
            · by_cases b2 : 13 < s
              · clear hb
                go_wp2
                go_ret
                exact ⟨back_v (by rw [HD.out]; rfl), HEnd.out⟩
              · have b3 : s < 10 := by omega
                have b4 : (m : Int) ≤ s := by omega
                clear hb
                go_wp2
                go_ret
                exact ⟨back_v (by rw [HD.out]; rfl), HEnd.out⟩
        · have HD : Hid (c.all (signF m) = true) := by
            have := HAl.out
            rw [List.take_of_length_le (by have := HN.out; omega)] at this
            exact this
          have HF3 : Hid (formFault ats c = if cntF c 0 = some 1 then 0 else 3) := by
            unfold Hid; rw [HF2.out, if_pos HD.out]
          go_wp2
          go_loop [7, 8] (fun q i => ∃ (k : Nat) (z : Int), k ≤ n ∧ i = .int .i64 k ∧ q = .int .i64 z ∧ cntF (c.take k) 0 = some z) (fun _ i => n - (intOf i).toNat)
          case atStart => exact ⟨0, 0, Nat.zero_le _, rfl, rfl, rfl⟩
          case round =>
            obtain ⟨i, z, hi, rfl, rfl, hz⟩ := hrel
            have HZ : Hid (cntF (c.take i) 0 = some z) := hz
            have hz0 : 0 ≤ z ∧ z ≤ 20 := by
              have := cntF_nonneg (Int.le_refl 0) hz
              simp at this
              omega
            clear hz
            by_cases hin : i < n
            · obtain ⟨s, hs⟩ : ∃ s, s = c.getD i 0 := ⟨_, rfl⟩
              have hic : i < c.length := by have := HN.out; omega
              have hc := HCe.out i hic
              rw [← hs] at hc
              have HZ1 : Hid (cntF (c.take (i + 1)) 0 = if z < takesF s then none else some (z + 1 - takesF s)) := by
                have := cntF_take_succ c hic HZ.out
                rw [← hs] at this; exact this
              have hg : signF m s = true := by
                have := List.all_eq_true.1 HD.out (c.getD i 0) (by simp [List.getElem?_eq_getElem hic])
                rw [← hs] at this; exact this
              have hb := (signF_ref hm6).1 hg
              clear hs hg
              by_cases b3 : s < 10
              · have HE1 : Hid (cntF (c.take (i + 1)) 0 = some (z + 1)) := by
                  have := HZ1.out
                  rw [takesF_low b3, if_neg (by omega)] at this
                  unfold Hid; rw [this]; simp
                clear hb
                go_wp2
                go_round
                case rel => exact ⟨i + 1, _, by omega, by go_num, by go_num, HE1.out⟩
                case measure => simp [intOf]; omega
              · have hk := takesF_high b3 (show ¬ 13 < s by omega)
                by_cases b12 : s = 12
                · rw [if_pos b12] at hk
                  have hq : (s != 12) = false := by simpa using b12
                  by_cases hlow : z < 1
                  · have HE1 : Hid (formFault ats c = 3) := by
                      have := HZ1.out
                      rw [hk, if_pos hlow] at this
                      unfold Hid; rw [HF3.out, cntF_take_none c _ this]; simp
                    clear hb hk b12
                    go_wp2
                    go_ret
                    exact ⟨back_v (by rw [HE1.out]; rfl), HEnd.out⟩
                  · have HE1 : Hid (cntF (c.take (i + 1)) 0 = some z) := by
                      have := HZ1.out
                      rw [hk, if_neg hlow] at this
                      unfold Hid; rw [this]; simp
                    clear hb hk b12
                    go_wp2
                    go_round
                    case rel => exact ⟨i + 1, _, by omega, by go_num, rfl, HE1.out⟩
                    case measure => simp [intOf]; omega
                · rw [if_neg b12] at hk
                  have hq : (s != 12) = true := by simpa using b12
                  by_cases hlow : z < 2
                  · have HE1 : Hid (formFault ats c = 3) := by
                      have := HZ1.out
                      rw [hk, if_pos hlow] at this
                      unfold Hid; rw [HF3.out, cntF_take_none c _ this]; simp
                    clear hb hk b12
                    by_cases h1 : z < 1
                    · go_wp2
                      go_ret
                      exact ⟨back_v (by rw [HE1.out]; rfl), HEnd.out⟩
                    · go_wp2
                      go_ret
                      exact ⟨back_v (by rw [HE1.out]; rfl), HEnd.out⟩
                  · have HE1 : Hid (cntF (c.take (i + 1)) 0 = some (z - 1)) := by
                      have := HZ1.out
                      rw [hk, if_neg hlow] at this
                      unfold Hid; rw [this]; congr 1; omega
                    have h1 : ¬ z < 1 := by omega
                    clear hb hk b12
                    go_wp2
                    go_round
                    case rel => exact ⟨i + 1, _, by omega, by go_num, by go_num, HE1.out⟩
                    case measure => simp [intOf]; omega
            · have HZ2 : Hid (cntF c 0 = some z) := by
                have := HZ.out
                rw [List.take_of_length_le (by have := HN.out; omega)] at this
                exact this
              by_cases h1 : z = 1
              · have HE1 : Hid (formFault ats c = 0) := by unfold Hid; rw [HF3.out, HZ2.out, h1]; rfl
                subst h1
                go_wp2
                go_ret
                exact ⟨back_v (by rw [HE1.out]; rfl), HEnd.out⟩
              · have HE1 : Hid (formFault ats c = 3) := by
                  unfold Hid; rw [HF3.out, HZ2.out, if_neg (by simpa using h1)]
                have h1' : (z != 1) = true := by simpa using h1
                go_wp2
                go_ret
                exact ⟨back_v (by rw [HE1.out]; rfl), HEnd.out⟩
/-- vennref1.Form, of any formula. -/
theorem refForm_any (va vc : Value) (ats : List At) (c : List Int) (w : World) (hA : ReadsA w va ats) (hC : Reads w vc c) :
    Calls Tryz.prog 6 #[.agg #[va, vc]] w fun e w' => e = .returned (.int .i64 (formFault ats c)) ∧ Below w.heap.size w w' := by
  obtain ⟨ao, acap, rfl, _⟩ := hA.slice
  obtain ⟨co, ccap, rfl, _⟩ := hC.slice
  by_cases h0 : ats.length = 0 ∨ c.length = 0
  · have e : formFault ats c = 5 := by unfold formFault; rw [if_pos h0]
    rw [e]
    exact refForm_none ao co _ _ acap ccap w h0
  by_cases h1 : 6 < ats.length ∨ 20 < c.length
  · have e : formFault ats c = 4 := by unfold formFault; rw [if_neg h0, if_pos h1]
    rw [e]
    exact refForm_full ao co _ _ acap ccap w h0 h1
  exact refForm_rest ao co acap ccap ats c w hA hC h0 h1
end Go.Proofs.YtfnkbbpjfjendaiGreatDoor

namespace Go.Proofs.YtfnkbbpjfjendaiGreatDoor
open Go.ChangeShapes Go.WideShapes Go.ChangeAt Go.RowKit
set_option maxRecDepth 100000

set_option maxHeartbeats 8000000 in
theorem readForm_short (s : ByteArray) (L : List (List UInt8)) (w : World) (hL : L.length = 1)
    (HC1 : Hid (∀ X, Calls Tryz.prog 21 #[.string s, .int .u8 10] X fun e w' => ∃ v, e = .returned v ∧ ReadsS w' v L ∧ Below X.heap.size X w')) :
    Calls Tryz.prog 10 #[.string s] w fun e w' => e = .returned (.tuple #[.agg #[.slice none 0 0, .slice none 0 0], .int .i64 2]) ∧ Below w.heap.size w w' := by
  obtain ⟨w1, hw1⟩ : ∃ w1, w1 = w.alloc (.cells #[.slice none 0 0, .slice none 0 0] 25) := ⟨_, rfl⟩
  have HB1 : Hid (Below w.heap.size w w1) := by unfold Hid; rw [hw1]; exact below_alloc1 _ _
  have HR1 : Hid (Blk w1 w.heap.size 25 #[.slice none 0 0, .slice none 0 0]) := by unfold Hid; rw [hw1]; exact Blk.new _ _ _
  go_enter Tryz.func10, Tryz.ntmps10
  go_upto_region 1 with fail
  rw [← hw1]
  clear hw1
  go_wp2_with fail
  go_at_call 21
  refine (HC1.out _).mono ?_
  rintro e w2 ⟨v, rfl, ⟨gL, capL, rfl, _, _, _⟩, hb⟩
  have HB2 : Hid (Below w.heap.size w w2) := HB1.out.trans (hb.mono HB1.out.size)
  have HR2 : Hid (Blk w2 w.heap.size 25 #[.slice none 0 0, .slice none 0 0]) := HR1.out.below hb
  rw [hL]
  clear hb hL
  have r0 : w2.cell? ⟨w.heap.size, 0, none⟩ = some (.slice none 0 0) := HR2.out.cell 0
  have r1 : w2.cell? ⟨w.heap.size, 1, none⟩ = some (.slice none 0 0) := HR2.out.cell 1
  have g0 : w2.frozen? ⟨w.heap.size, 0, none⟩ = false := HR2.out.frozen 0
  have g1 : w2.frozen? ⟨w.heap.size, 1, none⟩ = false := HR2.out.frozen 1
  go_wp2
  have hB2 := (HR2.out.set 0 (.slice none 0 0)).set 1 (.slice none 0 0)
  have hld := load_formT hB2
  refine bodyPost_ret (v := .tuple #[.agg #[.slice none 0 0, .slice none 0 0], .int .i64 2]) ?_ rfl ⟨rfl, (HB2.out.setCell (by simp) _).setCell (by simp) _⟩
  rw [results_cell_tmp rfl]
  simp [asAddr, Result.andThen, hld]

set_option maxHeartbeats 8000000 in
theorem readForm_last (s : ByteArray) (L : List (List UInt8)) (m : Nat) (w : World) (hm : L.length = m + 2) (zm : m ≤ 1048576) (z : ByteArray) (hz : strOf (L.getD (m + 1) []) = z) (qz : (z.toList == []) = false)
    (HC1 : Hid (∀ X, Calls Tryz.prog 21 #[.string s, .int .u8 10] X fun e w' => ∃ v, e = .returned v ∧ ReadsS w' v L ∧ Below X.heap.size X w')) :
    Calls Tryz.prog 10 #[.string s] w fun e w' => e = .returned (.tuple #[.agg #[.slice none 0 0, .slice none 0 0], .int .i64 2]) ∧ Below w.heap.size w w' := by
  obtain ⟨w1, hw1⟩ : ∃ w1, w1 = w.alloc (.cells #[.slice none 0 0, .slice none 0 0] 25) := ⟨_, rfl⟩
  have HB1 : Hid (Below w.heap.size w w1) := by unfold Hid; rw [hw1]; exact below_alloc1 _ _
  have HR1 : Hid (Blk w1 w.heap.size 25 #[.slice none 0 0, .slice none 0 0]) := by unfold Hid; rw [hw1]; exact Blk.new _ _ _
  go_enter Tryz.func10, Tryz.ntmps10
  go_upto_region 1 with fail
  rw [← hw1]
  clear hw1
  go_wp2_with fail
  go_at_call 21
  refine (HC1.out _).mono ?_
  rintro e w2 ⟨v, rfl, ⟨gL, capL, rfl, hgL, hcapL, hcellL⟩, hb⟩
  have HB2 : Hid (Below w.heap.size w w2) := HB1.out.trans (hb.mono HB1.out.size)
  have HR2 : Hid (Blk w2 w.heap.size 25 #[.slice none 0 0, .slice none 0 0]) := HR1.out.below hb
  have c1 : w2.cell? ⟨gL, m + 1, none⟩ = some (.string z) := by rw [hcellL (m + 1) (by omega), hz]
  rw [hm]
  have eM : (((m + 2 : Nat) : Int)) - 2 = (m : Int) := by omega
  have m0 : (0 : Int) ≤ (m : Int) := by omega
  clear hb hm hz hgL hcapL hcellL
  have r0 : w2.cell? ⟨w.heap.size, 0, none⟩ = some (.slice none 0 0) := HR2.out.cell 0
  have r1 : w2.cell? ⟨w.heap.size, 1, none⟩ = some (.slice none 0 0) := HR2.out.cell 1
  have g0 : w2.frozen? ⟨w.heap.size, 0, none⟩ = false := HR2.out.frozen 0
  have g1 : w2.frozen? ⟨w.heap.size, 1, none⟩ = false := HR2.out.frozen 1
  go_upto_region 3 with fail
  try rw [eM]
  clear eM
  go_wp2
  have hB2 := (HR2.out.set 0 (.slice none 0 0)).set 1 (.slice none 0 0)
  have hld := load_formT hB2
  refine bodyPost_ret (v := .tuple #[.agg #[.slice none 0 0, .slice none 0 0], .int .i64 2]) ?_ rfl ⟨rfl, (HB2.out.setCell (by simp) _).setCell (by simp) _⟩
  rw [results_cell_tmp rfl]
  simp [asAddr, Result.andThen, hld]

set_option maxHeartbeats 8000000 in
theorem readForm_code (s : ByteArray) (L W : List (List UInt8)) (m : Nat) (w : World) (hm : L.length = m + 2) (zm : m ≤ 1048576) (hW : 1 ≤ W.length) (zW : W.length ≤ 1048577)
    (x z y : ByteArray) (hx : strOf (L.getD m []) = x) (hz : strOf (L.getD (m + 1) []) = z) (qz : (z.toList == []) = true) (hy : strOf (W.getD 0 []) = y) (qy : (y.toList == [99, 111, 100, 101]) = false)
    (HC1 : Hid (∀ X, Calls Tryz.prog 21 #[.string s, .int .u8 10] X fun e w' => ∃ v, e = .returned v ∧ ReadsS w' v L ∧ Below X.heap.size X w'))
    (HC2 : Hid (∀ X, Calls Tryz.prog 21 #[.string x, .int .u8 32] X fun e w' => ∃ v, e = .returned v ∧ ReadsS w' v W ∧ Below X.heap.size X w')) :
    Calls Tryz.prog 10 #[.string s] w fun e w' => e = .returned (.tuple #[.agg #[.slice none 0 0, .slice none 0 0], .int .i64 2]) ∧ Below w.heap.size w w' := by
  obtain ⟨w1, hw1⟩ : ∃ w1, w1 = w.alloc (.cells #[.slice none 0 0, .slice none 0 0] 25) := ⟨_, rfl⟩
  have HB1 : Hid (Below w.heap.size w w1) := by unfold Hid; rw [hw1]; exact below_alloc1 _ _
  have HR1 : Hid (Blk w1 w.heap.size 25 #[.slice none 0 0, .slice none 0 0]) := by unfold Hid; rw [hw1]; exact Blk.new _ _ _
  go_enter Tryz.func10, Tryz.ntmps10
  go_upto_region 1 with fail
  rw [← hw1]
  clear hw1
  go_wp2_with fail
  go_at_call 21
  refine (HC1.out _).mono ?_
  rintro e w2 ⟨v, rfl, ⟨gL, capL, rfl, hgL, hcapL, hcellL⟩, hb⟩
  have HB2 : Hid (Below w.heap.size w w2) := HB1.out.trans (hb.mono HB1.out.size)
  have HR2 : Hid (Blk w2 w.heap.size 25 #[.slice none 0 0, .slice none 0 0]) := HR1.out.below hb
  have c0 : w2.cell? ⟨gL, m, none⟩ = some (.string x) := by rw [hcellL m (by omega), hx]
  have c1 : w2.cell? ⟨gL, m + 1, none⟩ = some (.string z) := by rw [hcellL (m + 1) (by omega), hz]
  rw [hm]
  have eM : (((m + 2 : Nat) : Int)) - 2 = (m : Int) := by omega
  have m0 : (0 : Int) ≤ (m : Int) := by omega
  clear hb hm hx hz hgL hcapL hcellL
  go_upto_region 3 with fail
  try rw [eM]
  clear eM
  go_wp2_with fail
  go_at_call 21
  refine (HC2.out _).mono ?_
  rintro e w3 ⟨v, rfl, ⟨gW, capW, rfl, hgW, hcapW, hcellW⟩, hb⟩
  have HB3 : Hid (Below w.heap.size w w3) := HB2.out.trans (hb.mono HB2.out.size)
  have HR3 : Hid (Blk w3 w.heap.size 25 #[.slice none 0 0, .slice none 0 0]) := HR2.out.below hb
  have d0 : w3.cell? ⟨gW, 0, none⟩ = some (.string y) := by rw [hcellW 0 (by omega), hy]
  obtain ⟨nW, hnW⟩ : ∃ n, n = W.length := ⟨_, rfl⟩
  rw [← hnW] at hW zW ⊢
  clear hb hcellW hgW hcapW c0 c1 hy hnW
  have r0 : w3.cell? ⟨w.heap.size, 0, none⟩ = some (.slice none 0 0) := HR3.out.cell 0
  have r1 : w3.cell? ⟨w.heap.size, 1, none⟩ = some (.slice none 0 0) := HR3.out.cell 1
  have g0 : w3.frozen? ⟨w.heap.size, 0, none⟩ = false := HR3.out.frozen 0
  have g1 : w3.frozen? ⟨w.heap.size, 1, none⟩ = false := HR3.out.frozen 1
  go_wp2
  have hB2 := (HR3.out.set 0 (.slice none 0 0)).set 1 (.slice none 0 0)
  have hld := load_formT hB2
  refine bodyPost_ret (v := .tuple #[.agg #[.slice none 0 0, .slice none 0 0], .int .i64 2]) ?_ rfl ⟨rfl, (HB3.out.setCell (by simp) _).setCell (by simp) _⟩
  rw [results_cell_tmp rfl]
  simp [asAddr, Result.andThen, hld]

theorem cutB_len {c : UInt8} : ∀ (n : Nat) (l : List UInt8), l.length ≤ n → (cutB c l).length ≤ l.length + 1 ∧ ∀ x ∈ cutB c l, x.length ≤ l.length := by
  intro n
  induction n with
  | zero =>
    intro l hl
    have : l = [] := List.length_eq_zero_iff.1 (by omega)
    subst this
    exact ⟨Nat.le_refl _, fun x hx => by simp [cutB] at hx; subst hx; exact Nat.le_refl _⟩
  | succ n ih =>
    intro l hl
    rcases cut_parts c l with h | ⟨x, r, rfl, h⟩
    · rw [cutB_miss h]
      exact ⟨by simp, fun x hx => by simp at hx; subst hx; exact Nat.le_refl _⟩
    · rw [cutB_hit h]
      obtain ⟨h1, h2⟩ := ih r (by simp at hl; omega)
      simp only [List.length_append, List.length_cons]
      refine ⟨by omega, fun y hy => ?_⟩
      rcases List.mem_cons.1 hy with rfl | hy
      · omega
      · have := h2 y hy; omega
theorem cutB_getD {c : UInt8} {l : List UInt8} (k : Nat) : ((cutB c l).getD k []).length ≤ l.length := by
  rcases Nat.lt_or_ge k (cutB c l).length with h | h
  · rw [List.getD_eq_getElem?_getD, List.getElem?_eq_getElem h]
    exact (cutB_len _ l (Nat.le_refl _)).2 _ (List.getElem_mem h)
  · rw [List.getD_eq_getElem?_getD, List.getElem?_eq_none h]; exact Nat.zero_le _
theorem qnil_yes : ((strOf []).toList == []) = true := q_yes []

/-- ReadForm, of any text. -/
theorem refReadForm_any (s : ByteArray) (hz : s.size ≤ 1048576) (w : World) :
    Calls Tryz.prog 10 #[.string s] w fun e w' => ∃ va vc, e = .returned (.tuple #[.agg #[va, vc], .int .i64 (formTextFault s.data.toList)]) ∧ (formTextFault s.data.toList = 0 → ReadsA w' va (textAts s.data.toList) ∧ Reads w' vc (textCode s.data.toList)) ∧ (¬ formTextFault s.data.toList = 0 → va = .slice none 0 0 ∧ vc = .slice none 0 0) ∧ Below w.heap.size w w' := by
  obtain ⟨t, ht⟩ : ∃ t, t = s.data.toList := ⟨_, rfl⟩
  have hts : t.length = s.size := by rw [ht]; exact Array.length_toList
  have HC1 : Hid (∀ X, Calls Tryz.prog 21 #[.string s, .int .u8 10] X fun e w' => ∃ v, e = .returned v ∧ ReadsS w' v (cutB 10 t) ∧ Below X.heap.size X w') := fun X => by rw [ht]; exact refCut_at 10 s hz X
  rw [← ht]
  clear ht
  have hbad : frameBad t = true → formTextFault t = 2 := fun h => by unfold formTextFault; rw [if_pos h]
  have fin : ∀ (e : Ending) (w' : World), formTextFault t = 2 → (e = .returned (.tuple #[.agg #[.slice none 0 0, .slice none 0 0], .int .i64 2]) ∧ Below w.heap.size w w') → ∃ va vc, e = .returned (.tuple #[.agg #[va, vc], .int .i64 (formTextFault t)]) ∧ (formTextFault t = 0 → ReadsA w' va (textAts t) ∧ Reads w' vc (textCode t)) ∧ (¬ formTextFault t = 0 → va = .slice none 0 0 ∧ vc = .slice none 0 0) ∧ Below w.heap.size w w' := fun e w' hf h =>
    ⟨_, _, by rw [hf]; exact h.1, fun h0 => by rw [hf] at h0; exact absurd h0 (by decide), fun _ => ⟨rfl, rfl⟩, h.2⟩
  have hc0 := cutB_len (c := 10) _ t (Nat.le_refl _)
  have hne := cutB_ne 10 t
  have hpos : 0 < (cutB 10 t).length := List.length_pos_iff.2 hne
  rcases Nat.lt_or_ge (cutB 10 t).length 2 with h2 | h2
  · refine (readForm_short s (cutB 10 t) w (by omega) HC1).mono fun e w' h => fin e w' (hbad ?_) h
    unfold frameBad
    rw [decide_eq_true h2]; rfl
  obtain ⟨m, hm⟩ : ∃ m, (cutB 10 t).length = m + 2 := ⟨(cutB 10 t).length - 2, by omega⟩
  have e1 : lastLine t = (cutB 10 t).getD (m + 1) [] := by unfold lastLine; rw [hm]; rfl
  have e2 : codeLine t = (cutB 10 t).getD m [] := by unfold codeLine; rw [hm]; rfl
  have e3 : headLines t = (cutB 10 t).take m := by unfold headLines; rw [hm]; rfl
  have zm : m ≤ 1048576 := by omega
  by_cases hl : lastLine t = []
  · have hcl : (codeLine t).length ≤ s.size := by rw [e2, ← hts]; exact cutB_getD m
    have HC2 : Hid (∀ X, Calls Tryz.prog 21 #[.string (strOf (codeLine t)), .int .u8 32] X fun e w' => ∃ v, e = .returned v ∧ ReadsS w' v (cutL (codeLine t)) ∧ Below X.heap.size X w') := fun X => by
      have h := refCut_at 32 (strOf (codeLine t)) (by rw [strOf_size]; omega) X
      rw [strOf_list, ← cutL_eq] at h
      exact h
    have hWl := cutB_len (c := 32) _ (codeLine t) (Nat.le_refl _)
    rw [← cutL_eq] at hWl
    have hW1 : 1 ≤ (cutL (codeLine t)).length := by
      rw [cutL_eq]; exact List.length_pos_iff.2 (cutB_ne _ _)
    have qz : ((strOf (lastLine t)).toList == []) = true := by rw [hl]; exact q_yes []
    by_cases hc : (cutL (codeLine t)).getD 0 [] = codeW
    · have qy : ((strOf ((cutL (codeLine t)).getD 0 [])).toList == [99, 111, 100, 101]) = true := by rw [hc]; exact q_yes _
      have HRA : Hid (∀ k, k < m → ∀ X, Calls Tryz.prog 22 #[.string (strOf ((cutB 10 t).getD k []))] X (AnswersN (cutL ((cutB 10 t).getD k [])) X)) := fun k _ X => by
        have h := readAtom_new (strOf ((cutB 10 t).getD k [])) (by rw [strOf_size]; have := cutB_getD (c := 10) (l := t) k; omega) X
        rw [strOf_list] at h
        exact h
      refine (readForm_rest s (cutB 10 t) (cutL (codeLine t)) m w hm hW1 zm (by omega) (codeWords t) rfl (strOf (codeLine t)) (strOf (lastLine t)) _ (by rw [e2]) (by rw [e1]) qz rfl qy HC1 HC2 HRA (fun va vc ats c X hA hC => refForm_any va vc ats c X hA hC)).mono ?_
      rintro e w' ⟨va, vc, F, rfl, hb, hor⟩
      rw [← e3] at hor
      rcases hor with ⟨h1, rfl, rfl, rfl⟩ | ⟨c, h1, hor⟩
      · refine fin _ w' (hbad ?_) ⟨rfl, hb⟩
        unfold frameBad
        rw [h1]; simp
      · have hfb : frameBad t = false := by
          unfold frameBad
          rw [h1, hl, hc, hm]
          simp
        have hcode : textCode t = c := by unfold textCode; rw [h1]; rfl
        have hff : formTextFault t = if linesFault (headLines t) = 0 then formFault (textAts t) c else linesFault (headLines t) := by unfold formTextFault; rw [hfb, if_neg (by decide), hcode]
        rcases hor with ⟨h2, rfl, rfl, rfl⟩ | ⟨h2, rfl, hor⟩
        · rw [if_neg h2] at hff
          exact ⟨_, _, by rw [hff], fun h0 => absurd (hff.symm.trans h0) h2, fun _ => ⟨rfl, rfl⟩, hb⟩
        · rw [if_pos h2] at hff
          rcases hor with ⟨h3, h4, h5⟩ | ⟨h3, rfl, rfl⟩
          · exact ⟨_, _, by rw [hff]; rfl, fun _ => ⟨h4, by rw [hcode]; exact h5⟩, fun h0 => absurd (hff.trans h3) h0, hb⟩
          · exact ⟨_, _, by rw [hff]; rfl, fun h0 => absurd (hff.symm.trans h0) h3, fun _ => ⟨rfl, rfl⟩, hb⟩
    · have qy : ((strOf ((cutL (codeLine t)).getD 0 [])).toList == [99, 111, 100, 101]) = false := q_no hc
      refine (readForm_code s (cutB 10 t) (cutL (codeLine t)) m w hm zm hW1 (by omega) (strOf (codeLine t)) (strOf (lastLine t)) _ (by rw [e2]) (by rw [e1]) qz rfl qy HC1 HC2).mono fun e w' h => fin e w' (hbad ?_) h
      unfold frameBad
      rw [decide_eq_true hc]; simp
  · have qz : ((strOf (lastLine t)).toList == []) = false := q_no hl
    refine (readForm_last s (cutB 10 t) m w hm zm (strOf (lastLine t)) (by rw [e1]) qz HC1).mono fun e w' h => fin e w' (hbad ?_) h
    unfold frameBad
    rw [decide_eq_true hl]; simp
end Go.Proofs.YtfnkbbpjfjendaiGreatDoor
