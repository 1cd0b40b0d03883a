/-
  Proved: what form.Check returns, of any atoms and any row of signs; what was in memory is as it was (a contract that the statements lean on).
  Proved: what the reference's Term and World return, of any row of signs and any world; what was in memory is as it was (contracts that the statements lean on).
-/
import Derived.Test.YtjaedfjfcghgcaaDoorLibA6
import Derived.Test.YtjaedfjfcghgcaaDoorLibA9
import Derived.Test.YtjaedfjfcghgcaaDoorLibA8
import Derived.Test.YtjaedfjfcghgcaaDoorLibA1
namespace Go.Proofs.YtjaedfjfcghgcaaDoor
open Go.ChangeShapes Go.WideShapes Go.ChangeAt Go.RowKit
set_option maxRecDepth 100000

/-- behind k right atoms. -/
theorem firstFault_drop (ats : List At) {k : Nat} {a : At} (ha : ats[k]? = some a) : firstFault (ats.drop k) = if a.fault = 0 then firstFault (ats.drop (k + 1)) else a.fault := by
  obtain ⟨hk, rfl⟩ := List.getElem?_eq_some_iff.1 ha
  rw [List.drop_eq_getElem_cons hk]; rfl

/-- where there is no atom, or no sign. -/
theorem fcheck_none (va vc : Value) (ats : List At) (c : List Int) (w : World) (hA : ReadsA w va ats) (hC : Reads w vc c) (h0 : ats.length = 0 ∨ c.length = 0) :
    Calls Tryd.prog 33 #[.agg #[va, vc]] w fun e w' => e = .returned (.iface 64 (.int .i64 5)) ∧ Below w.heap.size w w' := by
  obtain ⟨ao, acap, rfl, hal⟩ := hA.slice
  obtain ⟨co, ccap, rfl, hcl⟩ := hC.slice
  clear hA hC
  obtain ⟨m, hm⟩ : ∃ m, m = ats.length := ⟨_, rfl⟩
  obtain ⟨n, hn⟩ : ∃ n, n = c.length := ⟨_, rfl⟩
  rw [← hm] at h0 hal ⊢
  rw [← hn] at h0 hcl ⊢
  clear hm hn
  rcases h0 with rfl | rfl
  · go_enter Tryd.func33, Tryd.ntmps33
    go_wp2
    go_ret
    exact ⟨rfl, below_alloc1 _ _⟩
  · by_cases h1 : m = 0
    · subst h1
      go_enter Tryd.func33, Tryd.ntmps33
      go_wp2
      go_ret
      exact ⟨rfl, below_alloc1 _ _⟩
    · have h1' : ¬ ((m : Int) = 0) := by omega
      go_enter Tryd.func33, Tryd.ntmps33
      go_wp2
      go_ret
      exact ⟨rfl, below_alloc1 _ _⟩
/-- where there are too many. -/
theorem fcheck_full (va vc : Value) (ats : List At) (c : List Int) (w : World) (hA : ReadsA w va ats) (hC : Reads w vc c) (h0 : ¬ (ats.length = 0 ∨ c.length = 0)) (h1 : 6 < ats.length ∨ 20 < c.length) :
    Calls Tryd.prog 33 #[.agg #[va, vc]] w fun e w' => e = .returned (.iface 64 (.int .i64 4)) ∧ Below w.heap.size w w' := by
  obtain ⟨ao, acap, rfl, hal⟩ := hA.slice
  obtain ⟨co, ccap, rfl, hcl⟩ := hC.slice
  clear hA hC
  obtain ⟨m, hm⟩ : ∃ m, m = ats.length := ⟨_, rfl⟩
  obtain ⟨n, hn⟩ : ∃ n, n = c.length := ⟨_, rfl⟩
  rw [← hm] at h0 h1 hal ⊢
  rw [← hn] at h0 h1 hcl ⊢
  clear hm hn
  have hm' : ((m : Int) == 0) = false := by simp; omega
  have hn' : ((n : Int) == 0) = false := by simp; omega
  have HT : Hid (∀ W, Calls Tryd.prog 44 #[.int .i64 m, .int .i64 n] W fun e w' => e = .returned (.bool true) ∧ W = w') := fun W => by
    have := tooMany_any m n W
    rw [show (decide (6 < (m : Int)) || decide (20 < (n : Int))) = true by simp; omega] at this
    exact this
  clear h0 h1
  go_enter Tryd.func33, Tryd.ntmps33
  go_wp2_with fail
  go_at_call 44
  refine (HT.out _).mono ?_
  rintro e w' ⟨rfl, rfl⟩
  go_wp2
  go_ret
  exact ⟨rfl, below_alloc1 _ _⟩

theorem fcheck_rest (ao co : Option Addr) (acap ccap : Nat) (ats : List At) (c : List Int) (w : World) (hA : ReadsA w (.slice ao ats.length acap) ats) (hC : Reads w (.slice co c.length ccap) c) (hK : KindsLaid w) (h0 : ¬ (ats.length = 0 ∨ c.length = 0)) (h1 : ¬ (6 < ats.length ∨ 20 < c.length)) :
    Calls Tryd.prog 33 #[.agg #[.slice ao ats.length acap, .slice co c.length ccap]] w fun e w' => e = .returned (errV (formFault ats c)) ∧ Below w.heap.size w w' := by
  obtain ⟨w1, hw1⟩ : ∃ w1, w1 = w.alloc (.cells #[.slice ao ats.length acap, .slice co c.length ccap] 42) := ⟨_, rfl⟩
  have HB1 : Hid (Below w.heap.size w w1) := by unfold Hid; rw [hw1]; exact below_alloc1 w _
  have HS1 : Hid (w1.heap.size = w.heap.size + 1) := by unfold Hid; rw [hw1]; simp
  have HX : Hid (w1.cell? ⟨w.heap.size, 0, none⟩ = some (.slice ao ats.length acap) ∧ w1.cell? ⟨w.heap.size, 1, none⟩ = some (.slice co c.length ccap)) := by
    unfold Hid; rw [hw1]; simp
  have HA : Hid (ReadsA w1 (.slice ao ats.length acap) ats) := hA.below HB1.out
  have HC : Hid (Reads w1 (.slice co c.length ccap) c) := hC.below HB1.out
  have HK : Hid (KindsLaid w1) := hK.below HB1.out
  clear hA hC hK
  have HF : Hid (formFault ats c = if firstFault ats = 0 then (if c.all (signF ats.length) = true then (if cntF c 0 = some 1 then 0 else 3) else 1) else firstFault ats) := by
    unfold Hid formFault; rw [if_neg h0, if_neg h1]
  obtain ⟨m, hm⟩ : ∃ m, m = ats.length := ⟨_, rfl⟩
  obtain ⟨n, hn⟩ : ∃ n, n = c.length := ⟨_, rfl⟩
  rw [← hm] at h0 h1 hw1 HX HA HF ⊢
  rw [← hn] at h0 h1 hw1 HX HC ⊢
  have HM : Hid (m = ats.length) := hm
  have HN : Hid (n = c.length) := hn
  clear hm hn
  have hm' : ((m : Int) == 0) = false := by simp; omega
  have hn' : ((n : Int) == 0) = false := by simp; omega
  have hm6 : m ≤ 6 := by omega
  have hn20 : n ≤ 20 := by omega
  have HT : Hid (∀ W, Calls Tryd.prog 44 #[.int .i64 m, .int .i64 n] W fun e w' => e = .returned (.bool false) ∧ W = w') := fun W => by
    have := tooMany_any m n W
    rw [show (decide (6 < (m : Int)) || decide (20 < (n : Int))) = false by simp; omega] at this
    exact this
  clear h0 h1
  have x0 := HX.out.1
  have x1 := HX.out.2
  go_enter Tryd.func33, Tryd.ntmps33
  go_wp2_with fail
  rw [← hw1]
  clear hw1
  go_wp2_with fail
  go_at_call 44
  refine (HT.out _).mono ?_
  rintro e w' ⟨rfl, rfl⟩
  go_wp2
  go_loopw [29] (fun i wr => ∃ k : Nat, k ≤ m ∧ i = .int .i64 k ∧ Below w1.heap.size w1 wr ∧ firstFault (ats.drop k) = firstFault ats) (fun i _ => m - (intOf i).toNat)
  case atStart => exact ⟨0, Nat.zero_le _, rfl, Below.refl _ _, rfl⟩
  case round =>
    obtain ⟨k, hk, rfl, hbel, hff⟩ := hrel
    have HF0 : Hid (firstFault (ats.drop k) = firstFault ats) := hff
    have HB : Hid (Below w1.heap.size w1 wr) := hbel
    clear hff hbel
    by_cases hlt : k < m
    · obtain ⟨a, ha⟩ : ∃ a, ats[k]? = some a := ⟨_, List.getElem?_eq_getElem (by have := HM.out; omega)⟩
      have HFF : Hid (firstFault ats = if a.fault = 0 then firstFault (ats.drop (k + 1)) else a.fault) := by
        unfold Hid; rw [← HF0.out, firstFault_drop ats ha]
      rcases HA.out.below HB.out with ⟨_, _, hv, hn⟩ | ⟨b, off, cap, hv, hb, _, _, hall⟩
      · have := HM.out; rw [hn] at this; simp at this; omega
      obtain rfl : ao = some ⟨b, off, none⟩ := by cases hv; rfl
      obtain ⟨vs, vt, c0, c1, c2, c3, r1, r2⟩ := hall k a ha
      obtain ⟨sao, scap, rfl, _⟩ := r1.slice
      obtain ⟨tao, tcap, rfl, _⟩ := r2.slice
      clear hv hall
      obtain ⟨w2, hw2⟩ : ∃ w2, w2 = wr.alloc (.cells #[.int .i64 a.k, .slice sao a.s.length scap, .slice tao a.t.length tcap, .int .i64 a.n] 39) := ⟨_, rfl⟩
      have HB2 : Hid (Below wr.heap.size wr w2) := by unfold Hid; rw [hw2]; exact below_alloc1 wr _
      have HCk : Hid (Calls Tryd.prog 55 #[.agg #[.int .i64 a.k, .slice sao a.s.length scap, .slice tao a.t.length tcap, .int .i64 a.n]] w2 fun e w' => e = .returned (errV a.fault) ∧ Below w2.heap.size w2 w') :=
        acheck_any a.k a.n _ _ a.s a.t w2 (r1.below HB2.out) (r2.below HB2.out) ((HK.out.below HB.out).below HB2.out)
      clear r1 r2
      go_wp2_with fail
      rw [← hw2]
      clear hw2
      go_at_call 55
      refine HCk.out.mono ?_
      rintro e w3 ⟨rfl, hb3⟩
      have HB3 : Hid (Below w1.heap.size w1 w3) := (HB.out.trans (HB2.out.mono HB.out.size)).trans (hb3.mono (Nat.le_trans HB.out.size HB2.out.size))
      clear hb3 HCk
      by_cases hf : a.fault = 0
      · have HD : Hid (firstFault (ats.drop (k + 1)) = firstFault ats) := by
          have := HFF.out
          rw [if_pos hf] at this
          exact this.symm
        rw [hf, errV_0]
        go_wp2
        go_roundw
        case rel => exact ⟨k + 1, by omega, by go_num, HB3.out, HD.out⟩
        case measure => simp [intOf]; omega
      · have HE : Hid (formFault ats c = a.fault) := by
          have := HFF.out
          rw [if_neg hf] at this
          unfold Hid; rw [HF.out, this, if_neg hf]
        rw [errV_no hf]
        go_wp2
        go_ret
        refine ⟨back_v ?_, HB1.out.trans (HB3.out.mono HB1.out.size)⟩
        rw [HE.out, errV_no hf]
        rfl
    · have HE : Hid (firstFault ats = 0) := by
        have := HF0.out
        rw [List.drop_eq_nil_of_le (by have := HM.out; omega)] at this
        exact this.symm
      have hlt0 : w.heap.size < w1.heap.size := by have := HS1.out; omega
      have y0 : wr.cell? ⟨w.heap.size, 0, none⟩ = some (.slice ao m acap) := by rw [HB.out.cell hlt0]; exact HX.out.1
      have y1 : wr.cell? ⟨w.heap.size, 1, none⟩ = some (.slice co n ccap) := by rw [HB.out.cell hlt0]; exact HX.out.2
      rcases HC.out.below HB.out with ⟨_, _, hv, hcn⟩ | ⟨b, off, cap, hv, hb, _, ⟨hl63, _⟩, hc⟩
      · have := HN.out; rw [hcn] at this; simp at this; subst this; simp at hn'
      obtain rfl : co = some ⟨b, off, none⟩ := by cases hv; rfl
      clear hv
      have cF := fcontainsFunc_any m acap w.heap.size ao b off ccap c wr hl63 y0 hc
      have cO := fisOne_any b off ccap c wr (by have := HN.out; omega) hc
      rw [← HN.out] at cF cO
      obtain ⟨x, hx⟩ : ∃ x, x = c.all (signF m) := ⟨_, rfl⟩
      obtain ⟨y, hy⟩ : ∃ y, y = decide (cntF c 0 = some 1) := ⟨_, rfl⟩
      rw [← hx] at cF
      rw [← hy] at cO
      have HF' : Hid (formFault ats c = if x = true then (if y = true then 0 else 3) else 1) := by
        unfold Hid; rw [HF.out, HE.out, hx, hy]; simp only [decide_eq_true_eq, if_true]
      clear hx hy hc hlt0 hl63 hb
      have HP : Hid (Calls Tryd.prog 37 #[.slice (some ⟨b, off, none⟩) n ccap, .func (.func 56) #[] #[.pointer (some ⟨w.heap.size, 0, none⟩)]] wr fun e w' => e = .returned (.bool (!x)) ∧ wr = w') := cF
      have HQ : Hid (Calls Tryd.prog 58 #[.slice (some ⟨b, off, none⟩) n ccap] wr fun e w' => e = .returned (.bool y) ∧ wr = w') := cO
      clear cF cO
      have HEnd : Hid (Below w.heap.size w wr) := HB1.out.trans (HB.out.mono HB1.out.size)
      cases x
      · go_wp2_with (go_at_call 37; refine HP.out.mono ?_; rintro e w' ⟨rfl, rfl⟩)
        go_ret
        exact ⟨back_v (by rw [HF'.out]; rfl), HEnd.out⟩
      · cases y
        all_goals
          go_wp2_with (first | (go_at_call 37; refine HP.out.mono ?_; rintro e w' ⟨rfl, rfl⟩) | (go_at_call 58; refine HQ.out.mono ?_; rintro e w' ⟨rfl, rfl⟩))
          go_ret
          exact ⟨back_v (by rw [HF'.out]; rfl), HEnd.out⟩

/-- Check, whatever the formula. -/
theorem fcheck_any (va vc : Value) (ats : List At) (c : List Int) (w : World) (hA : ReadsA w va ats) (hC : Reads w vc c) (hK : KindsLaid w) :
    Calls Tryd.prog 33 #[.agg #[va, vc]] w fun e w' => e = .returned (errV (formFault ats c)) ∧ Below w.heap.size w w' := by
  by_cases h0 : ats.length = 0 ∨ c.length = 0
  · have e : formFault ats c = 5 := by unfold formFault; rw [if_pos h0]
    rw [e]
    exact fcheck_none va vc ats c w hA hC h0
  by_cases h1 : 6 < ats.length ∨ 20 < c.length
  · have e : formFault ats c = 4 := by unfold formFault; rw [if_neg h0, if_pos h1]
    rw [e]
    exact fcheck_full va vc ats c w hA hC h0 h1
  obtain ⟨ao, acap, rfl, _⟩ := hA.slice
  obtain ⟨co, ccap, rfl, _⟩ := hC.slice
  exact fcheck_rest ao co acap ccap ats c w hA hC hK h0 h1
end Go.Proofs.YtjaedfjfcghgcaaDoor

namespace Go.Proofs.YtjaedfjfcghgcaaDoor
open Go.ChangeShapes Go.WideShapes Go.ChangeAt Go.RowKit
set_option maxRecDepth 100000

theorem all_take_succ (t : List Int) {k : Nat} (h : k < t.length) : (t.take (k + 1)).all signB = ((t.take k).all signB && signB (t.getD k 0)) := by
  rw [take_succ_getD t h]; simp
theorem all_false_of {t : List Int} {k : Nat} (h : k < t.length) (hs : signB (t.getD k 0) = false) : ¬ t.all signB = true := by
  intro ha
  have := List.all_eq_true.1 ha (t.getD k 0) (by rw [List.getD_eq_getElem?_getD, List.getElem?_eq_getElem h]; exact List.getElem_mem h)
  rw [hs] at this; cases this

set_option maxRecDepth 100000 in
set_option maxHeartbeats 4000000 in
theorem refTerm_mid (b off cap : Nat) (t : List Int) (w : World) (h0 : 0 < t.length) (hl : t.length ≤ 12) (hc : ∀ k, k < t.length → w.cell? ⟨b, off + k, none⟩ = some (.int .i64 (t.getD k 0))) :
    Calls Tryd.prog 64 #[.slice (some ⟨b, off, none⟩) t.length cap] w fun e w' => e = .returned (.int .i64 (faultN t)) ∧ w = w' := by
  have HC : Hid (∀ k, k < t.length → w.cell? ⟨b, off + k, none⟩ = some (.int .i64 (t.getD k 0))) := hc
  clear hc
  obtain ⟨n, hn⟩ : ∃ n, n = t.length := ⟨_, rfl⟩
  rw [← hn] at h0 hl ⊢
  have HN : Hid (n = t.length) := hn
  obtain ⟨F, hF⟩ : ∃ F, F = faultN t := ⟨_, rfl⟩
  rw [← hF]
  have HF : Hid (F = if t.all signB = true then (if cnt t 0 = some 1 then 0 else 3) else 1) := by
    unfold Hid; rw [hF]; unfold faultN; rw [if_neg (by omega), if_neg (by omega)]
  clear hn hF
  go_enter Tryd.func64, Tryd.ntmps64
  go_wp2
  go_loop [3] (fun i => ∃ k : Nat, k ≤ n ∧ i = .int .i64 k ∧ (t.take k).all signB = true) (fun i => n - (intOf i).toNat)
  case atStart => exact ⟨0, Nat.zero_le _, rfl, by simp⟩
  case round =>
    obtain ⟨k, hk, rfl, hall⟩ := hrel
    have HA : Hid ((t.take k).all signB = true) := hall
    clear hall
    by_cases hlt : k < n
    · obtain ⟨s, hs⟩ : ∃ s, s = t.getD k 0 := ⟨_, rfl⟩
      have hkt : k < t.length := by rw [← HN.out]; exact hlt
      have hc := HC.out k hkt
      rw [← hs] at hc
      by_cases hlo : s < 0
      · have HE : Hid (1 = F) := by
          have := all_false_of hkt (by rw [← hs]; simp [signB]; omega)
          unfold Hid; rw [HF.out, if_neg this]
        clear hs hkt
        go_wp2
        go_ret
        exact ⟨back_i HE.out, rfl⟩
      by_cases hhi : 8 < s
      · have HE : Hid (1 = F) := by
          have := all_false_of hkt (by rw [← hs]; simp [signB]; omega)
          unfold Hid; rw [HF.out, if_neg this]
        clear hs hkt
        go_wp2
        go_ret
        exact ⟨back_i HE.out, rfl⟩
      have HA2 : Hid ((t.take (k + 1)).all signB = true) := by
        have : signB s = true := by simp [signB]; omega
        unfold Hid; rw [all_take_succ t hkt, HA.out, ← hs, this]; rfl
      clear hs hkt
      go_wp2
      go_round
      case rel => exact ⟨k + 1, by omega, by go_num, HA2.out⟩
      case measure => simp [intOf]; omega
    · have HAll : Hid (t.all signB = true) := by
        have := HA.out
        rw [List.take_of_length_le (by have := HN.out; omega)] at this
        exact this
      clear HA
      go_wp2
      go_loop [4, 5] (fun c i => ∃ (k : Nat) (m : Int), k ≤ n ∧ i = .int .i64 k ∧ c = .int .i64 m ∧ cnt (t.take k) 0 = some m) (fun _ i => n - (intOf i).toNat)
      case atStart => exact ⟨0, 0, Nat.zero_le _, rfl, rfl, rfl⟩
      case round =>
        clear hlt hk
        obtain ⟨k, m, hk, rfl, rfl, hm⟩ := hrel
        have HM : Hid (cnt (t.take k) 0 = some m) := hm
        have hm0 : 0 ≤ m ∧ m ≤ 12 := by
          have := cnt_nonneg (Int.le_refl 0) hm
          simp at this
          omega
        clear hm
        by_cases hlt : k < n
        · obtain ⟨s, hs⟩ : ∃ s, s = t.getD k 0 := ⟨_, rfl⟩
          have hkt : k < t.length := by rw [← HN.out]; exact hlt
          have hc := HC.out k hkt
          rw [← hs] at hc
          have hsg : 0 ≤ s ∧ s ≤ 8 := by
            refine signB_iff.1 (List.all_eq_true.1 HAll.out s ?_)
            rw [hs, List.getD_eq_getElem?_getD, List.getElem?_eq_getElem hkt]; exact List.getElem_mem hkt
          have HD : Hid (cnt (t.take (k + 1)) 0 = if m < takesN s then none else some (m + 1 - takesN s)) := by
            have := cnt_take_succ t hkt HM.out
            rw [← hs] at this; exact this
          have HNo : Hid (m < takesN s → 3 = F) := fun hb => by
            have h1 := HD.out
            rw [if_pos hb] at h1
            have h2 := cnt_take_none t (k + 1) h1
            rw [HF.out, if_pos HAll.out, if_neg (by rw [h2]; simp)]
          have HYes : Hid (¬ m < takesN s → cnt (t.take (k + 1)) 0 = some (m + 1 - takesN s)) := fun hb => by
            have h1 := HD.out
            rw [if_neg hb] at h1; exact h1
          clear hs hkt HD
          by_cases h5 : s < 5
          · have HE : Hid (cnt (t.take (k + 1)) 0 = some (m + 1)) := by
              have := HYes.out (by rw [takes5 s h5]; omega)
              rw [takes5 s h5] at this; rw [show m + 1 = m + 1 - 0 by omega]; exact this
            go_wp2
            go_round
            case rel => exact ⟨k + 1, _, by omega, by go_num, rfl, HE.out⟩
            case measure => simp [intOf]; omega
          by_cases h8 : s < 8
          · have ht := takes2 s (by omega) (by omega)
            by_cases hb : m < 2
            · have HE : Hid (3 = F) := HNo.out (by rw [ht]; exact hb)
              clear ht
              by_cases hb1 : m < 1
              · go_wp2
                go_ret
                exact ⟨back_i HE.out, rfl⟩
              · go_wp2
                go_ret
                exact ⟨back_i HE.out, rfl⟩
            · have HE : Hid (cnt (t.take (k + 1)) 0 = some (m - 1)) := by
                have := HYes.out (by rw [ht]; omega)
                rw [ht] at this; rw [show m - 1 = m + 1 - 2 by omega]; exact this
              have hb1 : ¬ m < 1 := by omega
              clear ht
              go_wp2
              go_round
              case rel => exact ⟨k + 1, _, by omega, by go_num, rfl, HE.out⟩
              case measure => simp [intOf]; omega
          · obtain rfl : s = 8 := by omega
            by_cases hb : m < 1
            · have HE : Hid (3 = F) := HNo.out (by rw [takes1]; exact hb)
              go_wp2
              go_ret
              exact ⟨back_i HE.out, rfl⟩
            · have HE : Hid (cnt (t.take (k + 1)) 0 = some m) := by
                have := HYes.out (by rw [takes1]; exact hb)
                rw [takes1] at this; rw [show m = m + 1 - 1 by omega]; exact this
              go_wp2
              go_round
              case rel => exact ⟨k + 1, _, by omega, by go_num, rfl, HE.out⟩
              case measure => simp [intOf]; omega
        · have HE : Hid (cnt t 0 = some m) := by
            have h1 := HM.out
            rw [List.take_of_length_le (by have := HN.out; omega)] at h1; exact h1
          by_cases h1 : m = 1
          · have HG : Hid (0 = F) := by unfold Hid; rw [HF.out, if_pos HAll.out, HE.out, if_pos (by rw [h1])]
            subst h1
            go_wp2
            go_ret
            exact ⟨back_i HG.out, rfl⟩
          · have HG : Hid (3 = F) := by unfold Hid; rw [HF.out, if_pos HAll.out, HE.out, if_neg (by simpa using h1)]
            have h1' : (m != 1) = true := by simpa using h1
            clear h1
            go_wp2
            go_ret
            exact ⟨back_i HG.out, rfl⟩

theorem refTerm_any (t : List Int) (v : Value) (w : World) (h : Reads w v t) :
    Calls Tryd.prog 64 #[v] w fun e w' => e = .returned (.int .i64 (faultN t)) ∧ w = w' := by
  rcases h with ⟨ao, cap, rfl, rfl⟩ | ⟨b, off, cap, rfl, -, h0, ⟨hl, _⟩, hc⟩
  · go_enter Tryd.func64, Tryd.ntmps64
    go_wp2
    go_ret
    exact ⟨rfl, rfl⟩
  · by_cases h12 : 12 < t.length
    · have e : faultN t = 4 := by unfold faultN; rw [if_neg (by omega), if_pos h12]
      rw [e]
      clear e hc
      obtain ⟨n, hn⟩ : ∃ n, n = t.length := ⟨_, rfl⟩
      rw [← hn] at h0 hl h12 ⊢
      clear hn
      go_enter Tryd.func64, Tryd.ntmps64
      go_wp2
      go_ret
      exact ⟨rfl, rfl⟩
    · exact refTerm_mid b off cap t w h0 (by omega) hc

end Go.Proofs.YtjaedfjfcghgcaaDoor
