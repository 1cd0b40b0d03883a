/-
  Proved: what form.Check returns, of any atoms and any row of signs; what was in memory is as it was (a contract that the statements lean on).
  Plain facts on between how many things a term has, as the program goes over all counts once (no program is read here); proved: what span.check returns, of any formula, any row of signs and any number of things; what was in memory is as it was (a contract that the statements lean on).
  Proved: what fields.check returns, of any counts; what was in memory is as it was (a contract that the statements lean on).
  Proved: what fields.World returns, of any counts; what was in memory is as it was (a contract that the statements lean on).
  Rows of booleans in memory (facts that the contracts lean on).
  Proved: what form.made and form.work return, of a right Code and which atoms hold; what was in memory is as it was (contracts that the statements lean on).
-/
import Derived.Test.YtgkgbpbohgklhahDoorLibSA7
import Derived.Test.YtgkgbpbohgklhahDoorLibSA8
import Derived.Test.YtgkgbpbohgklhahDoorLibSA5
import Derived.Test.YtgkgbpbohgklhahDoorLibSA2
import Derived.Test.YtgkgbpbohgklhahDoorLibSA6
import Derived.Deep.RegionHeld3
import Derived.Deep.AppendLies
namespace Go.Proofs.YtgkgbpbohgklhahDoor
open Go.ChangeShapes Go.WideShapes Go.ChangeAt Go.RowKit
set_option maxRecDepth 100000

/-- behind k right atoms. -/
theorem firstFault_drop (ats : List At) {k : Nat} {a : At} (ha : ats[k]? = some a) : firstFault (ats.drop k) = if a.fault = 0 then firstFault (ats.drop (k + 1)) else a.fault := by
  obtain ⟨hk, rfl⟩ := List.getElem?_eq_some_iff.1 ha
  rw [List.drop_eq_getElem_cons hk]; rfl

/-- where there is no atom, or no sign. -/
theorem fcheck_none (va vc : Value) (ats : List At) (c : List Int) (w : World) (hA : ReadsA w va ats) (hC : Reads w vc c) (h0 : ats.length = 0 ∨ c.length = 0) :
    Calls Tryd.prog 11 #[.agg #[va, vc]] w fun e w' => e = .returned (.iface 38 (.int .i64 5)) ∧ Below w.heap.size w w' := by
  obtain ⟨ao, acap, rfl, hal⟩ := hA.slice
  obtain ⟨co, ccap, rfl, hcl⟩ := hC.slice
  clear hA hC
  obtain ⟨m, hm⟩ : ∃ m, m = ats.length := ⟨_, rfl⟩
  obtain ⟨n, hn⟩ : ∃ n, n = c.length := ⟨_, rfl⟩
  rw [← hm] at h0 hal ⊢
  rw [← hn] at h0 hcl ⊢
  clear hm hn
  rcases h0 with rfl | rfl
  · go_enter Tryd.func11, Tryd.ntmps11
    go_wp2
    go_ret
    exact ⟨rfl, below_alloc1 _ _⟩
  · by_cases h1 : m = 0
    · subst h1
      go_enter Tryd.func11, Tryd.ntmps11
      go_wp2
      go_ret
      exact ⟨rfl, below_alloc1 _ _⟩
    · have h1' : ¬ ((m : Int) = 0) := by omega
      go_enter Tryd.func11, Tryd.ntmps11
      go_wp2
      go_ret
      exact ⟨rfl, below_alloc1 _ _⟩
/-- where there are too many. -/
theorem fcheck_full (va vc : Value) (ats : List At) (c : List Int) (w : World) (hA : ReadsA w va ats) (hC : Reads w vc c) (h0 : ¬ (ats.length = 0 ∨ c.length = 0)) (h1 : 6 < ats.length ∨ 20 < c.length) :
    Calls Tryd.prog 11 #[.agg #[va, vc]] w fun e w' => e = .returned (.iface 38 (.int .i64 4)) ∧ Below w.heap.size w w' := by
  obtain ⟨ao, acap, rfl, hal⟩ := hA.slice
  obtain ⟨co, ccap, rfl, hcl⟩ := hC.slice
  clear hA hC
  obtain ⟨m, hm⟩ : ∃ m, m = ats.length := ⟨_, rfl⟩
  obtain ⟨n, hn⟩ : ∃ n, n = c.length := ⟨_, rfl⟩
  rw [← hm] at h0 h1 hal ⊢
  rw [← hn] at h0 h1 hcl ⊢
  clear hm hn
  have hm' : ((m : Int) == 0) = false := by simp; omega
  have hn' : ((n : Int) == 0) = false := by simp; omega
  have HT : Hid (∀ W, Calls Tryd.prog 21 #[.int .i64 m, .int .i64 n] W fun e w' => e = .returned (.bool true) ∧ W = w') := fun W => by
    have := tooMany_any m n W
    rw [show (decide (6 < (m : Int)) || decide (20 < (n : Int))) = true by simp; omega] at this
    exact this
  clear h0 h1
  go_enter Tryd.func11, Tryd.ntmps11
  go_wp2_with fail
  go_at_call 21
  refine (HT.out _).mono ?_
  rintro e w' ⟨rfl, rfl⟩
  go_wp2
  go_ret
  exact ⟨rfl, below_alloc1 _ _⟩

theorem fcheck_rest (ao co : Option Addr) (acap ccap : Nat) (ats : List At) (c : List Int) (w : World) (hA : ReadsA w (.slice ao ats.length acap) ats) (hC : Reads w (.slice co c.length ccap) c) (hK : KindsLaid w) (h0 : ¬ (ats.length = 0 ∨ c.length = 0)) (h1 : ¬ (6 < ats.length ∨ 20 < c.length)) :
    Calls Tryd.prog 11 #[.agg #[.slice ao ats.length acap, .slice co c.length ccap]] w fun e w' => e = .returned (errV (formFault ats c)) ∧ Below w.heap.size w w' := by
  obtain ⟨w1, hw1⟩ : ∃ w1, w1 = w.alloc (.cells #[.slice ao ats.length acap, .slice co c.length ccap] 25) := ⟨_, rfl⟩
  have HB1 : Hid (Below w.heap.size w w1) := by unfold Hid; rw [hw1]; exact below_alloc1 w _
  have HS1 : Hid (w1.heap.size = w.heap.size + 1) := by unfold Hid; rw [hw1]; simp
  have HX : Hid (w1.cell? ⟨w.heap.size, 0, none⟩ = some (.slice ao ats.length acap) ∧ w1.cell? ⟨w.heap.size, 1, none⟩ = some (.slice co c.length ccap)) := by
    unfold Hid; rw [hw1]; simp
  have HA : Hid (ReadsA w1 (.slice ao ats.length acap) ats) := hA.below HB1.out
  have HC : Hid (Reads w1 (.slice co c.length ccap) c) := hC.below HB1.out
  have HK : Hid (KindsLaid w1) := hK.below HB1.out
  clear hA hC hK
  have HF : Hid (formFault ats c = if firstFault ats = 0 then (if c.all (signF ats.length) = true then (if cntF c 0 = some 1 then 0 else 3) else 1) else firstFault ats) := by
    unfold Hid formFault; rw [if_neg h0, if_neg h1]
  obtain ⟨m, hm⟩ : ∃ m, m = ats.length := ⟨_, rfl⟩
  obtain ⟨n, hn⟩ : ∃ n, n = c.length := ⟨_, rfl⟩
  rw [← hm] at h0 h1 hw1 HX HA HF ⊢
  rw [← hn] at h0 h1 hw1 HX HC ⊢
  have HM : Hid (m = ats.length) := hm
  have HN : Hid (n = c.length) := hn
  clear hm hn
  have hm' : ((m : Int) == 0) = false := by simp; omega
  have hn' : ((n : Int) == 0) = false := by simp; omega
  have hm6 : m ≤ 6 := by omega
  have hn20 : n ≤ 20 := by omega
  have HT : Hid (∀ W, Calls Tryd.prog 21 #[.int .i64 m, .int .i64 n] W fun e w' => e = .returned (.bool false) ∧ W = w') := fun W => by
    have := tooMany_any m n W
    rw [show (decide (6 < (m : Int)) || decide (20 < (n : Int))) = false by simp; omega] at this
    exact this
  clear h0 h1
  have x0 := HX.out.1
  have x1 := HX.out.2
  go_enter Tryd.func11, Tryd.ntmps11
  go_wp2_with fail
  rw [← hw1]
  clear hw1
  go_wp2_with fail
  go_at_call 21
  refine (HT.out _).mono ?_
  rintro e w' ⟨rfl, rfl⟩
  go_wp2
  go_loopw [29] (fun i wr => ∃ k : Nat, k ≤ m ∧ i = .int .i64 k ∧ Below w1.heap.size w1 wr ∧ firstFault (ats.drop k) = firstFault ats) (fun i _ => m - (intOf i).toNat)
  case atStart => exact ⟨0, Nat.zero_le _, rfl, Below.refl _ _, rfl⟩
  case round =>
    obtain ⟨k, hk, rfl, hbel, hff⟩ := hrel
    have HF0 : Hid (firstFault (ats.drop k) = firstFault ats) := hff
    have HB : Hid (Below w1.heap.size w1 wr) := hbel
    clear hff hbel
    by_cases hlt : k < m
    · obtain ⟨a, ha⟩ : ∃ a, ats[k]? = some a := ⟨_, List.getElem?_eq_getElem (by have := HM.out; omega)⟩
      have HFF : Hid (firstFault ats = if a.fault = 0 then firstFault (ats.drop (k + 1)) else a.fault) := by
        unfold Hid; rw [← HF0.out, firstFault_drop ats ha]
      rcases HA.out.below HB.out with ⟨_, _, hv, hn⟩ | ⟨b, off, cap, hv, hb, _, _, hall⟩
      · have := HM.out; rw [hn] at this; simp at this; omega
      obtain rfl : ao = some ⟨b, off, none⟩ := by cases hv; rfl
      obtain ⟨vs, vt, c0, c1, c2, c3, r1, r2⟩ := hall k a ha
      obtain ⟨sao, scap, rfl, _⟩ := r1.slice
      obtain ⟨tao, tcap, rfl, _⟩ := r2.slice
      clear hv hall
      obtain ⟨w2, hw2⟩ : ∃ w2, w2 = wr.alloc (.cells #[.int .i64 a.k, .slice sao a.s.length scap, .slice tao a.t.length tcap, .int .i64 a.n] 37) := ⟨_, rfl⟩
      have HB2 : Hid (Below wr.heap.size wr w2) := by unfold Hid; rw [hw2]; exact below_alloc1 wr _
      have HCk : Hid (Calls Tryd.prog 22 #[.agg #[.int .i64 a.k, .slice sao a.s.length scap, .slice tao a.t.length tcap, .int .i64 a.n]] w2 fun e w' => e = .returned (errV a.fault) ∧ Below w2.heap.size w2 w') :=
        acheck_any a.k a.n _ _ a.s a.t w2 (r1.below HB2.out) (r2.below HB2.out) ((HK.out.below HB.out).below HB2.out)
      clear r1 r2
      go_wp2_with fail
      rw [← hw2]
      clear hw2
      go_at_call 22
      refine HCk.out.mono ?_
      rintro e w3 ⟨rfl, hb3⟩
      have HB3 : Hid (Below w1.heap.size w1 w3) := (HB.out.trans (HB2.out.mono HB.out.size)).trans (hb3.mono (Nat.le_trans HB.out.size HB2.out.size))
      clear hb3 HCk
      by_cases hf : a.fault = 0
      · have HD : Hid (firstFault (ats.drop (k + 1)) = firstFault ats) := by
          have := HFF.out
          rw [if_pos hf] at this
          exact this.symm
        rw [hf, errV_0]
        go_wp2
        go_roundw
        case rel => exact ⟨k + 1, by omega, by go_num, HB3.out, HD.out⟩
        case measure => simp [intOf]; omega
      · have HE : Hid (formFault ats c = a.fault) := by
          have := HFF.out
          rw [if_neg hf] at this
          unfold Hid; rw [HF.out, this, if_neg hf]
        rw [errV_no hf]
        go_wp2
        go_ret
        refine ⟨back_v ?_, HB1.out.trans (HB3.out.mono HB1.out.size)⟩
        rw [HE.out, errV_no hf]
        rfl
    · have HE : Hid (firstFault ats = 0) := by
        have := HF0.out
        rw [List.drop_eq_nil_of_le (by have := HM.out; omega)] at this
        exact this.symm
      have hlt0 : w.heap.size < w1.heap.size := by have := HS1.out; omega
      have y0 : wr.cell? ⟨w.heap.size, 0, none⟩ = some (.slice ao m acap) := by rw [HB.out.cell hlt0]; exact HX.out.1
      have y1 : wr.cell? ⟨w.heap.size, 1, none⟩ = some (.slice co n ccap) := by rw [HB.out.cell hlt0]; exact HX.out.2
      rcases HC.out.below HB.out with ⟨_, _, hv, hcn⟩ | ⟨b, off, cap, hv, hb, _, ⟨hl63, _⟩, hc⟩
      · have := HN.out; rw [hcn] at this; simp at this; subst this; simp at hn'
      obtain rfl : co = some ⟨b, off, none⟩ := by cases hv; rfl
      clear hv
      have cF := fcontainsFunc_any m acap w.heap.size ao b off ccap c wr hl63 y0 hc
      have cO := fisOne_any b off ccap c wr (by have := HN.out; omega) hc
      rw [← HN.out] at cF cO
      obtain ⟨x, hx⟩ : ∃ x, x = c.all (signF m) := ⟨_, rfl⟩
      obtain ⟨y, hy⟩ : ∃ y, y = decide (cntF c 0 = some 1) := ⟨_, rfl⟩
      rw [← hx] at cF
      rw [← hy] at cO
      have HF' : Hid (formFault ats c = if x = true then (if y = true then 0 else 3) else 1) := by
        unfold Hid; rw [HF.out, HE.out, hx, hy]; simp only [decide_eq_true_eq, if_true]
      clear hx hy hc hlt0 hl63 hb
      have HP : Hid (Calls Tryd.prog 25 #[.slice (some ⟨b, off, none⟩) n ccap, .func (.func 23) #[] #[.pointer (some ⟨w.heap.size, 0, none⟩)]] wr fun e w' => e = .returned (.bool (!x)) ∧ wr = w') := cF
      have HQ : Hid (Calls Tryd.prog 26 #[.slice (some ⟨b, off, none⟩) n ccap] wr fun e w' => e = .returned (.bool y) ∧ wr = w') := cO
      clear cF cO
      have HEnd : Hid (Below w.heap.size w wr) := HB1.out.trans (HB.out.mono HB1.out.size)
      cases x
      · go_wp2_with (go_at_call 25; refine HP.out.mono ?_; rintro e w' ⟨rfl, rfl⟩)
        go_ret
        exact ⟨back_v (by rw [HF'.out]; rfl), HEnd.out⟩
      · cases y
        all_goals
          go_wp2_with (first | (go_at_call 25; refine HP.out.mono ?_; rintro e w' ⟨rfl, rfl⟩) | (go_at_call 26; refine HQ.out.mono ?_; rintro e w' ⟨rfl, rfl⟩))
          go_ret
          exact ⟨back_v (by rw [HF'.out]; rfl), HEnd.out⟩

/-- Check, whatever the formula. -/
theorem fcheck_any (va vc : Value) (ats : List At) (c : List Int) (w : World) (hA : ReadsA w va ats) (hC : Reads w vc c) (hK : KindsLaid w) :
    Calls Tryd.prog 11 #[.agg #[va, vc]] w fun e w' => e = .returned (errV (formFault ats c)) ∧ Below w.heap.size w w' := by
  by_cases h0 : ats.length = 0 ∨ c.length = 0
  · have e : formFault ats c = 5 := by unfold formFault; rw [if_pos h0]
    rw [e]
    exact fcheck_none va vc ats c w hA hC h0
  by_cases h1 : 6 < ats.length ∨ 20 < c.length
  · have e : formFault ats c = 4 := by unfold formFault; rw [if_neg h0, if_pos h1]
    rw [e]
    exact fcheck_full va vc ats c w hA hC h0 h1
  obtain ⟨ao, acap, rfl, _⟩ := hA.slice
  obtain ⟨co, ccap, rfl, _⟩ := hC.slice
  exact fcheck_rest ao co acap ccap ats c w hA hC hK h0 h1
end Go.Proofs.YtgkgbpbohgklhahDoor

namespace Go.Proofs.YtgkgbpbohgklhahDoor
open Go.ChangeShapes Go.WideShapes Go.ChangeAt Go.RowKit
set_option maxRecDepth 100000

/-- from one more than all, and one fewer than none. -/
def spanFrom (ats : List At) (c t : List Int) (u : Int) (L : List Wd) : Int × Int := L.foldl (spanStep ats c t) (u + 1, -1)
theorem spanFrom_add (ats : List At) (c t : List Int) (u : Int) (L : List Wd) (D : Wd) : spanFrom ats c t u (L ++ [D]) = spanStep ats c t (spanFrom ats c t u L) D := by
  unfold spanFrom; rw [List.foldl_append]; rfl
theorem span_from {ats : List At} {c t : List Int} {u : Int} : ∀ L : List Wd, (∀ D ∈ L, pcN (D.val t) ≤ u) →
    (spanFrom ats c t u L = (u + 1, -1) ∧ spanOver ats c t L = (100, -1)) ∨ (spanFrom ats c t u L = spanOver ats c t L ∧ 0 ≤ (spanOver ats c t L).1 ∧ (spanOver ats c t L).1 ≤ (spanOver ats c t L).2 ∧ (spanOver ats c t L).2 ≤ 6) := by
  refine revInd ?_ ?_
  · intro _; exact Or.inl ⟨rfl, rfl⟩
  · intro L E ih hL
    have ih := ih fun D hD => hL D (List.mem_append_left _ hD)
    have hE := hL E (by simp)
    have hp := pcN_le (E.val t)
    rw [spanFrom_add, spanOver_add]
    rcases Bool.eq_false_or_eq_true (E.formIs ats c) with hf | hf
    · right
      unfold spanStep
      rw [if_pos hf, if_pos hf]
      rcases ih with ⟨h1, h2⟩ | ⟨h1, h2, h3, h4⟩
      · rw [h1, h2]
        have e1 : pcN (E.val t) < u + 1 := by omega
        have e2 : pcN (E.val t) < 100 := by omega
        have e3 : (-1 : Int) < pcN (E.val t) := by omega
        rw [if_pos e1, if_pos e2, if_pos e3]
        exact ⟨rfl, hp.1, Int.le_refl _, hp.2⟩
      · rw [h1]
        refine ⟨rfl, ?_, ?_, ?_⟩
        · dsimp only
          split <;> omega
        · dsimp only
          split <;> split <;> omega
        · dsimp only
          split <;> omega
    · have es : ∀ p, spanStep ats c t p E = p := fun p => by unfold spanStep; rw [if_neg (by rw [hf]; decide)]
      rw [es, es]
      exact ih
theorem made_size {t : List Int} (ht : faultN t = 0) {N : Nat → Int} (h0 : countsFault N = 0) : pcN ((madeN N 8).val t) = sumIn (liesB t) N 8 := by
  obtain ⟨n, hn⟩ := one_term ht
  rw [size_fields (made_ok h0) hn]
  exact sumIn_same fun f hf => made_fc h0 hf
theorem made_few {t : List Int} (ht : faultN t = 0) {u : Nat} (hu : u ≤ 6) : ∀ D ∈ worldsL u, pcN (D.val t) ≤ u := by
  intro D hD
  unfold worldsL at hD
  obtain ⟨N, hN, rfl⟩ := List.mem_map.1 hD
  have h0 := everyC_right hu hN
  rw [made_size ht h0, ← (everyC_sum hN).2]
  exact (sumIn_le (counts_zero.1 h0).1).2

def spCheckN (ats : List At) (c t : List Int) (u : Int) : Int := if formFault ats c = 0 then (if faultN t = 0 then (if 0 ≤ u ∧ u ≤ 6 then 0 else 1) else faultN t) else formFault ats c

theorem spcheck_form (ao : Option Addr) (al acap : Nat) (co : Option Addr) (cl ccap : Nat) (vt : Value) (u m : Int) (w : World)
    (HF : Hid (∀ W, Below w.heap.size w W → Calls Tryd.prog 11 #[.agg #[.slice ao al acap, .slice co cl ccap]] W fun e w' => e = .returned (.iface 38 (.int .i64 m)) ∧ Below W.heap.size W w')) :
    Calls Tryd.prog 7 #[.agg #[.slice ao al acap, .slice co cl ccap], vt, .int .i64 u] w fun e w' => e = .returned (.iface 38 (.int .i64 m)) ∧ Below w.heap.size w w' := by
  go_enter Tryd.func7, Tryd.ntmps7
  go_wp2_with fail
  go_at_call 11
  refine (HF.out _ (below_alloc1 _ _)).mono ?_
  rintro e w2 ⟨rfl, hb⟩
  have HB : Hid (Below w.heap.size w w2) := (below_alloc1 w _).trans (hb.mono (by simp))
  clear hb
  go_wp2
  go_ret
  exact ⟨rfl, HB.out⟩
theorem spcheck_term (ao : Option Addr) (al acap : Nat) (co : Option Addr) (cl ccap : Nat) (vt : Value) (u m : Int) (w : World)
    (HF : Hid (∀ W, Below w.heap.size w W → Calls Tryd.prog 11 #[.agg #[.slice ao al acap, .slice co cl ccap]] W fun e w' => e = .returned .nilIface ∧ Below W.heap.size W w'))
    (HT : Hid (∀ W, Below w.heap.size w W → Calls Tryd.prog 12 #[vt] W fun e w' => e = .returned (.iface 38 (.int .i64 m)) ∧ W = w')) :
    Calls Tryd.prog 7 #[.agg #[.slice ao al acap, .slice co cl ccap], vt, .int .i64 u] w fun e w' => e = .returned (.iface 38 (.int .i64 m)) ∧ Below w.heap.size w w' := by
  go_enter Tryd.func7, Tryd.ntmps7
  go_wp2_with fail
  go_at_call 11
  refine (HF.out _ (below_alloc1 _ _)).mono ?_
  rintro e w2 ⟨rfl, hb⟩
  have HB : Hid (Below w.heap.size w w2) := (below_alloc1 w _).trans (hb.mono (by simp))
  clear hb
  go_wp2_with fail
  go_at_call 12
  refine (HT.out _ HB.out).mono ?_
  rintro e w3 ⟨rfl, rfl⟩
  go_wp2
  go_ret
  exact ⟨rfl, HB.out⟩
theorem spcheck_good (ao : Option Addr) (al acap : Nat) (co : Option Addr) (cl ccap : Nat) (vt E : Value) (u : Int) (w : World)
    (HF : Hid (∀ W, Below w.heap.size w W → Calls Tryd.prog 11 #[.agg #[.slice ao al acap, .slice co cl ccap]] W fun e w' => e = .returned .nilIface ∧ Below W.heap.size W w'))
    (HT : Hid (∀ W, Below w.heap.size w W → Calls Tryd.prog 12 #[vt] W fun e w' => e = .returned .nilIface ∧ W = w'))
    (HS : Hid (∀ W, Calls Tryd.prog 13 #[.int .i64 u, .int .i64 0] W fun e w' => e = .returned E ∧ W = w')) :
    Calls Tryd.prog 7 #[.agg #[.slice ao al acap, .slice co cl ccap], vt, .int .i64 u] w fun e w' => e = .returned E ∧ Below w.heap.size w w' := by
  go_enter Tryd.func7, Tryd.ntmps7
  go_wp2_with fail
  go_at_call 11
  refine (HF.out _ (below_alloc1 _ _)).mono ?_
  rintro e w2 ⟨rfl, hb⟩
  have HB : Hid (Below w.heap.size w w2) := (below_alloc1 w _).trans (hb.mono (by simp))
  clear hb
  go_wp2_with fail
  go_at_call 12
  refine (HT.out _ HB.out).mono ?_
  rintro e w3 ⟨rfl, rfl⟩
  go_wp2_with fail
  go_at_call 13
  refine (HS.out _).mono ?_
  rintro e w3 ⟨rfl, rfl⟩
  go_wp2
  go_ret
  exact ⟨rfl, HB.out⟩
/-- what is wrong with a formula, a term, or how many things there are. -/
theorem spcheck_any (va vc vt : Value) (ats : List At) (c t : List Int) (u : Int) (w : World) (hA : ReadsA w va ats) (hC : Reads w vc c) (hT : Reads w vt t) (hK : KindsLaid w) :
    Calls Tryd.prog 7 #[.agg #[va, vc], vt, .int .i64 u] w fun e w' => e = .returned (errV (spCheckN ats c t u)) ∧ Below w.heap.size w w' := by
  have hF := fun W (hW : Below w.heap.size w W) => fcheck_any va vc ats c W (hA.below hW) (hC.below hW) (hK.below hW)
  have hTc := fun W (hW : Below w.heap.size w W) => tcheck_any t vt W (hT.below hW)
  obtain ⟨ao, acap, rfl, _⟩ := hA.slice
  obtain ⟨co, ccap, rfl, _⟩ := hC.slice
  unfold spCheckN
  by_cases hf : formFault ats c = 0
  · rw [if_pos hf]
    rw [hf] at hF
    by_cases ht : faultN t = 0
    · rw [if_pos ht]
      rw [ht] at hTc
      by_cases hu : 0 ≤ u ∧ u ≤ 6
      · rw [if_pos hu]
        exact spcheck_good ao _ acap co _ ccap vt _ u w hF hTc fun W => check_ok _ _ (ok_zero hu.1 hu.2) W
      · rw [if_neg hu]
        exact spcheck_good ao _ acap co _ ccap vt _ u w hF hTc fun W => check_no _ _ (okB_not.2 fun h => hu ⟨h.1, h.2.1⟩) W
    · rw [if_neg ht, errV_no ht]
      rw [errV_no ht] at hTc
      exact spcheck_term ao _ acap co _ ccap vt u _ w hF hTc
  · rw [if_neg hf, errV_no hf]
    rw [errV_no hf] at hF
    exact spcheck_form ao _ acap co _ ccap vt u _ w hF
end Go.Proofs.YtgkgbpbohgklhahDoor

namespace Go.Proofs.YtgkgbpbohgklhahDoor
open Go.ChangeShapes Go.WideShapes Go.ChangeAt Go.RowKit

set_option maxRecDepth 100000 in
set_option maxHeartbeats 4000000 in
theorem fcounts_any (N : Nat → Int) (w : World) :
    Calls Tryd.prog 20 #[.agg #[.int .i64 (N 0), .int .i64 (N 1), .int .i64 (N 2), .int .i64 (N 3), .int .i64 (N 4), .int .i64 (N 5), .int .i64 (N 6), .int .i64 (N 7)]] w fun e w' => e = .returned (errV (countsFault N)) ∧ Below w.heap.size w w' := by
  obtain ⟨w1, hw1⟩ : ∃ w1, w1 = w.alloc (.cells #[.int .i64 (N 0), .int .i64 (N 1), .int .i64 (N 2), .int .i64 (N 3), .int .i64 (N 4), .int .i64 (N 5), .int .i64 (N 6), .int .i64 (N 7)] 43) := ⟨_, rfl⟩
  have HW : Hid (Below w.heap.size w w1) := by unfold Hid; rw [hw1]; exact below_alloc1 _ _
  have HX : Hid (∀ k, k < 8 → w1.cell? ⟨w.heap.size, k, none⟩ = some (.int .i64 (N k))) := fun k hk => by
    rw [hw1]
    rcases eight hk with rfl | rfl | rfl | rfl | rfl | rfl | rfl | rfl <;> simp
  obtain ⟨F, hF⟩ : ∃ F, F = countsFault N := ⟨_, rfl⟩
  have HF1 : Hid (∀ k, k < 8 → ¬ (0 ≤ N k ∧ N k ≤ 6) → errV F = .iface 38 (.int .i64 1)) := fun k hk h => by
    rw [hF]; unfold countsFault; rw [if_neg (by rw [eachB_no hk h]; decide)]; rfl
  have HF2 : Hid ((∀ f, f < 8 → 0 ≤ N f ∧ N f ≤ 6) → (sumN N 8 ≤ 6 → errV F = .nilIface) ∧ (6 < sumN N 8 → errV F = .iface 38 (.int .i64 4))) := fun h => by
    rw [hF]; unfold countsFault; rw [if_pos (eachB_iff.2 h)]
    exact ⟨fun h' => by rw [if_pos h']; rfl, fun h' => by rw [if_neg (by omega)]; rfl⟩
  rw [← hF]
  clear hF
  go_enter Tryd.func20, Tryd.ntmps20
  go_wp2
  rw [← hw1]
  clear hw1
  go_loop [6] (fun i => ∃ k : Nat, k ≤ 8 ∧ i = .int .i64 k ∧ ∀ f, f < k → 0 ≤ N f ∧ N f ≤ 6) (fun i => 8 - (intOf i).toNat)
  case atStart => exact ⟨0, Nat.zero_le _, rfl, fun f hf => by omega⟩
  case round =>
    obtain ⟨k, hk, rfl, hall⟩ := hrel
    have HA : Hid (∀ f, f < k → 0 ≤ N f ∧ N f ≤ 6) := hall
    clear hall
    by_cases hlt : k < 8
    · have hc := HX.out k hlt
      obtain ⟨x, hx⟩ : ∃ x, x = N k := ⟨_, rfl⟩
      rw [← hx] at hc
      have HXk : Hid (x = N k) := hx
      clear hx
      by_cases h0 : x < 0
      · have HE : Hid (errV F = .iface 38 (.int .i64 1)) := HF1.out k hlt (by rw [← HXk.out]; omega)
        go_wp2
        go_ret
        exact ⟨back_v HE.out.symm, HW.out⟩
      by_cases h6 : 6 < x
      · have HE : Hid (errV F = .iface 38 (.int .i64 1)) := HF1.out k hlt (by rw [← HXk.out]; omega)
        go_wp2
        go_ret
        exact ⟨back_v HE.out.symm, HW.out⟩
      · have HN : Hid (∀ f, f < k + 1 → 0 ≤ N f ∧ N f ≤ 6) := fun f hf => by
          rcases Nat.lt_or_ge f k with h' | h'
          · exact HA.out f h'
          · obtain rfl : f = k := by omega
            rw [← HXk.out]; omega
        go_wp2
        go_round
        case rel => exact ⟨k + 1, by omega, by go_num, HN.out⟩
        case measure => simp [intOf]; omega
    · obtain rfl : k = 8 := by omega
      go_wp2
      go_loop [4, 21] (fun s i => ∃ k : Nat, k ≤ 8 ∧ i = .int .i64 k ∧ s = .int .i64 (sumN N k)) (fun _ i => 8 - (intOf i).toNat)
      case atStart => exact ⟨0, Nat.zero_le _, rfl, rfl⟩
      case round =>
        obtain ⟨k, hk, rfl, rfl⟩ := hrel
        by_cases hlt2 : k < 8
        · have hc := HX.out k hlt2
          have p1 := sumN_le (N := N) (k := k) fun f hf => HA.out f (by omega)
          have p2 := HA.out k (by omega)
          have HS : Hid (sumN N (k + 1) = sumN N k + N k) := rfl
          go_wp2
          go_round
          case rel => exact ⟨k + 1, by omega, by go_num, by rw [HS.out]⟩
          case measure => simp [intOf]; omega
        · obtain rfl : k = 8 := by omega
          by_cases h6 : sumN N 8 ≤ 6
          · have HE : Hid (errV F = .nilIface) := (HF2.out HA.out).1 h6
            go_wp2
            go_ret
            exact ⟨back_v HE.out.symm, HW.out⟩
          · have h6' : 6 < sumN N 8 := by omega
            have HE : Hid (errV F = .iface 38 (.int .i64 4)) := (HF2.out HA.out).2 h6'
            go_wp2
            go_ret
            exact ⟨back_v HE.out.symm, HW.out⟩
end Go.Proofs.YtgkgbpbohgklhahDoor

namespace Go.Proofs.YtgkgbpbohgklhahDoor
open Go.ChangeShapes Go.WideShapes Go.ChangeAt Go.RowKit

/-- the world of so many in each field; the empty one, if the counts are wrong. -/
def madeW (N : Nat → Int) : Wd := if countsFault N = 0 then madeN N 8 else ⟨0, 0, 0, 0⟩

theorem with_more (D : Wd) (f : Nat) (hok : D.ok = true) (h5 : D.u ≤ 5) (hf : f < 8) (w : World) :
    Calls Tryd.prog 30 #[.agg #[.int .i64 D.u, .int .i64 D.a, .int .i64 D.b, .int .i64 D.c], .int .i64 f] w fun e w' => e = .returned (.agg #[.int .i64 (D.more f).u, .int .i64 (D.more f).a, .int .i64 (D.more f).b, .int .i64 (D.more f).c]) ∧ Below w.heap.size w w' := by
  obtain ⟨u, a, b, c⟩ := D
  obtain ⟨n, rfl⟩ := Int.eq_ofNat_of_zero_le (show 0 ≤ u from (ok_u hok).1)
  exact with_field n a b c f hok (by simp only at h5; omega) hf w

set_option maxRecDepth 100000 in
set_option maxHeartbeats 4000000 in
theorem fworld_wrong (N : Nat → Int) (w : World) (hf : ¬ countsFault N = 0) :
    Calls Tryd.prog 17 #[.agg #[.int .i64 (N 0), .int .i64 (N 1), .int .i64 (N 2), .int .i64 (N 3), .int .i64 (N 4), .int .i64 (N 5), .int .i64 (N 6), .int .i64 (N 7)]] w fun e w' => e = .returned (.tuple #[.agg #[.int .i64 0, .int .i64 0, .int .i64 0, .int .i64 0], .iface 38 (.int .i64 (countsFault N))]) ∧ Below w.heap.size w w' := by
  obtain ⟨w1, hw1⟩ : ∃ w1, w1 = (w.alloc (.cells #[.int .i64 (N 0), .int .i64 (N 1), .int .i64 (N 2), .int .i64 (N 3), .int .i64 (N 4), .int .i64 (N 5), .int .i64 (N 6), .int .i64 (N 7)] 43)).alloc (.cells #[.int .i64 0, .int .i64 0, .int .i64 0, .int .i64 0] 56) := ⟨_, rfl⟩
  have HW : Hid (Below w.heap.size w w1) := by unfold Hid; rw [hw1]; exact (below_alloc1 _ _).alloc (by simp) _
  have HK0 : Hid (Blk w1 w.heap.size 43 (arr8 N)) := by unfold Hid; rw [hw1]; exact (Blk.new _ _ _).old _
  have HK1 : Hid (Blk w1 (w.heap.size + 1) 56 (arrW ⟨0, 0, 0, 0⟩)) := by
    unfold Hid; rw [hw1]
    have := Blk.new (w.alloc (.cells (arr8 N) 43)) 56 (arrW ⟨0, 0, 0, 0⟩)
    simp only [World.size_alloc] at this
    exact this
  have HC : Hid (Calls Tryd.prog 20 #[.agg #[.int .i64 (N 0), .int .i64 (N 1), .int .i64 (N 2), .int .i64 (N 3), .int .i64 (N 4), .int .i64 (N 5), .int .i64 (N 6), .int .i64 (N 7)]] w1 fun e w' => e = .returned (.iface 38 (.int .i64 (countsFault N))) ∧ Below w1.heap.size w1 w') := by
    have := fcounts_any N w1
    unfold errV at this
    rw [if_neg hf] at this
    exact this
  obtain ⟨F, hF⟩ : ∃ F, F = countsFault N := ⟨_, rfl⟩
  rw [← hF] at HC ⊢
  clear hF hf
  obtain ⟨x0, x1, x2, x3, x4, x5, x6, x7⟩ := HK0.out.cells8
  go_enter Tryd.func17, Tryd.ntmps17
  go_wp2_with fail
  rw [← hw1]
  clear hw1
  go_wp2_with fail
  go_at_call 20
  refine HC.out.mono ?_
  rintro e w2 ⟨rfl, hb⟩
  have HB : Hid (Below w.heap.size w w2) := HW.out.trans (hb.mono HW.out.size)
  have HR : Hid (Blk w2 (w.heap.size + 1) 56 (arrW ⟨0, 0, 0, 0⟩)) := HK1.out.below hb
  clear hb x0 x1 x2 x3 x4 x5 x6 x7
  have r0 : w2.cell? ⟨w.heap.size + 1, 0, none⟩ = some (.int .i64 0) := HR.out.cell 0
  have r1 : w2.cell? ⟨w.heap.size + 1, 1, none⟩ = some (.int .i64 0) := HR.out.cell 1
  have r2 : w2.cell? ⟨w.heap.size + 1, 2, none⟩ = some (.int .i64 0) := HR.out.cell 2
  have r3 : w2.cell? ⟨w.heap.size + 1, 3, none⟩ = some (.int .i64 0) := HR.out.cell 3
  obtain ⟨f0, f1, f2, f3⟩ := HR.out.frozen4
  go_wp2
  have hld := loadW (putW_blk HR.out ⟨0, 0, 0, 0⟩)
  refine bodyPost_ret (v := .tuple #[.agg #[.int .i64 0, .int .i64 0, .int .i64 0, .int .i64 0], .iface 38 (.int .i64 F)]) ?_ rfl ⟨rfl, ?_⟩
  · rw [results_cell_tmp rfl]
    unfold putW arrW at hld
    simp only at hld
    simp [asAddr, Result.andThen, hld]
  · exact putW_below HB.out (by omega) ⟨0, 0, 0, 0⟩

set_option maxRecDepth 100000 in
set_option maxHeartbeats 4000000 in
theorem fworld_right (N : Nat → Int) (w : World) (hf : countsFault N = 0) :
    Calls Tryd.prog 17 #[.agg #[.int .i64 (N 0), .int .i64 (N 1), .int .i64 (N 2), .int .i64 (N 3), .int .i64 (N 4), .int .i64 (N 5), .int .i64 (N 6), .int .i64 (N 7)]] w fun e w' => e = .returned (.tuple #[.agg (arrW (madeN N 8)), .nilIface]) ∧ Below w.heap.size w w' := by
  obtain ⟨Z, hZ⟩ : ∃ Z : Wd, Z = ⟨0, 0, 0, 0⟩ := ⟨_, rfl⟩
  obtain ⟨w1, hw1⟩ : ∃ w1, w1 = (w.alloc (.cells #[.int .i64 (N 0), .int .i64 (N 1), .int .i64 (N 2), .int .i64 (N 3), .int .i64 (N 4), .int .i64 (N 5), .int .i64 (N 6), .int .i64 (N 7)] 43)).alloc (.cells #[.int .i64 0, .int .i64 0, .int .i64 0, .int .i64 0] 56) := ⟨_, rfl⟩
  have HW : Hid (Below w.heap.size w w1) := by unfold Hid; rw [hw1]; exact (below_alloc1 _ _).alloc (by simp) _
  have HK0 : Hid (Blk w1 w.heap.size 43 (arr8 N)) := by unfold Hid; rw [hw1]; exact (Blk.new _ _ _).old _
  have HK1 : Hid (Blk w1 (w.heap.size + 1) 56 (arrW Z)) := by
    unfold Hid; rw [hw1, hZ]
    have := Blk.new (w.alloc (.cells (arr8 N) 43)) 56 (arrW ⟨0, 0, 0, 0⟩)
    simp only [World.size_alloc] at this
    exact this
  have HC : Hid (Calls Tryd.prog 20 #[.agg #[.int .i64 (N 0), .int .i64 (N 1), .int .i64 (N 2), .int .i64 (N 3), .int .i64 (N 4), .int .i64 (N 5), .int .i64 (N 6), .int .i64 (N 7)]] w1 fun e w' => e = .returned .nilIface ∧ Below w1.heap.size w1 w') := by
    have := fcounts_any N w1
    rw [hf] at this
    exact this
  obtain ⟨hall, hsum⟩ := counts_zero.1 hf
  have HN : Hid (∀ k, k < 8 → 0 ≤ N k ∧ N k ≤ 6) := hall
  have HX : Hid (∀ W k, k < 8 → Blk W w.heap.size 43 (arr8 N) → W.cell? ⟨w.heap.size, k, none⟩ = some (.int .i64 (N k))) := fun W k hk h => by rw [h.cell, arr8_get _ hk]
  have HV : Hid (∀ (k j : Nat) W, k < 8 → (j : Int) < N k → Calls Tryd.prog 30 #[.agg #[.int .i64 ((madeN N k).mores k j).u, .int .i64 ((madeN N k).mores k j).a, .int .i64 ((madeN N k).mores k j).b, .int .i64 ((madeN N k).mores k j).c], .int .i64 k] W fun e w' => e = .returned (.agg #[.int .i64 ((madeN N k).mores k (j + 1)).u, .int .i64 ((madeN N k).mores k (j + 1)).a, .int .i64 ((madeN N k).mores k (j + 1)).b, .int .i64 ((madeN N k).mores k (j + 1)).c]) ∧ Below W.heap.size W w') := fun k j W hk hj => by
    obtain ⟨i1, i2, _⟩ := made_all hall hsum (k := k) (by omega)
    have hm := sumN_mono (N := N) (k := k + 1) (l := 8) (by omega) hall
    have es : sumN N (k + 1) = sumN N k + N k := rfl
    have e := mores_u (madeN N k) k j
    exact with_more _ k (mores_ok i1 k (by rw [i2]; omega)) (by rw [e, i2]; omega) hk W
  have HE : Hid (∀ k, k < 8 → (madeN N k).mores k (N k).toNat = madeN N (k + 1)) := fun k _ => rfl
  have HZ : Hid (Z = madeN N 0) := hZ
  clear hf hall hsum
  obtain ⟨x0, x1, x2, x3, x4, x5, x6, x7⟩ := HK0.out.cells8
  go_enter Tryd.func17, Tryd.ntmps17
  go_wp2_with fail
  rw [← hw1]
  clear hw1
  go_wp2_with fail
  go_at_call 20
  refine HC.out.mono ?_
  rintro e w2 ⟨rfl, hb⟩
  have HB : Hid (Below w.heap.size w w2) := HW.out.trans (hb.mono HW.out.size)
  have HP : Hid (Blk w2 w.heap.size 43 (arr8 N)) := HK0.out.below hb
  have HR : Hid (Blk w2 (w.heap.size + 1) 56 (arrW Z)) := HK1.out.below hb
  clear hb x0 x1 x2 x3 x4 x5 x6 x7
  obtain ⟨G, hG⟩ : ∃ G, G = w2.heap.size := ⟨_, rfl⟩
  have HG : Hid (w.heap.size + 1 < G) := by unfold Hid; rw [hG]; exact HR.out.lt
  obtain ⟨w3, hw3⟩ : ∃ w3, w3 = w2.alloc (.cells #[.int .i64 0, .int .i64 0, .int .i64 0, .int .i64 0] 56) := ⟨_, rfl⟩
  have HB3 : Hid (Below w.heap.size w w3) := by unfold Hid; rw [hw3]; exact HB.out.alloc HB.out.size _
  have HP3 : Hid (Blk w3 w.heap.size 43 (arr8 N)) := by unfold Hid; rw [hw3]; exact HP.out.old _
  have HR3 : Hid (Blk w3 (w.heap.size + 1) 56 (arrW Z)) := by unfold Hid; rw [hw3]; exact HR.out.old _
  have HM3 : Hid (Blk w3 G 56 (arrW (madeN N 0))) := by unfold Hid; rw [hw3, hG]; exact Blk.new _ _ _
  clear HB HP HR hZ
  go_wp2
  rw [← hw3, ← hG]
  clear hw3 hG
  go_loopw [13] (fun i wr => ∃ k : Nat, k ≤ 8 ∧ i = .int .i64 k ∧ Below w.heap.size w wr ∧ Blk wr w.heap.size 43 (arr8 N) ∧ Blk wr (w.heap.size + 1) 56 (arrW Z) ∧ Blk wr G 56 (arrW (madeN N k))) (fun i _ => 8 - (intOf i).toNat)
  case atStart => exact ⟨0, Nat.zero_le _, rfl, HB3.out, HP3.out, HR3.out, HM3.out⟩
  case round =>
    obtain ⟨k, hk, rfl, hb, hp, hr, hm⟩ := hrel
    have HB4 : Hid (Below w.heap.size w wr) := hb
    have HP4 : Hid (Blk wr w.heap.size 43 (arr8 N)) := hp
    have HR4 : Hid (Blk wr (w.heap.size + 1) 56 (arrW Z)) := hr
    have HM4 : Hid (Blk wr G 56 (arrW (madeN N k))) := hm
    clear hb hp hr hm
    by_cases hlt : k < 8
    · have y := HX.out wr k hlt HP4.out
      have p := HN.out k hlt
      obtain ⟨x, hx⟩ : ∃ x : Nat, (x : Int) = N k := ⟨(N k).toNat, by omega⟩
      have HXk : Hid ((x : Int) = N k) := hx
      have HEk : Hid ((madeN N k).mores k x = madeN N (k + 1)) := by
        have := HE.out k hlt
        rw [show (N k).toNat = x by omega] at this
        exact this
      rw [← hx] at y p
      clear hx
      go_wp2
      clear y
      rw [show decide ((k : Int) < 8) = true by simp; omega]
      go_loopw [19] (fun i wr => ∃ j : Nat, j ≤ x ∧ i = .int .i64 j ∧ Below w.heap.size w wr ∧ Blk wr w.heap.size 43 (arr8 N) ∧ Blk wr (w.heap.size + 1) 56 (arrW Z) ∧ Blk wr G 56 (arrW ((madeN N k).mores k j))) (fun i _ => x - (intOf i).toNat)
      case atStart => exact ⟨0, Nat.zero_le _, rfl, HB4.out, HP4.out, HR4.out, HM4.out⟩
      case round =>
        obtain ⟨j, hj, rfl, hb, hp, hr, hm⟩ := hrel
        have HB5 : Hid (Below w.heap.size w wr) := hb
        have HP5 : Hid (Blk wr w.heap.size 43 (arr8 N)) := hp
        have HR5 : Hid (Blk wr (w.heap.size + 1) 56 (arrW Z)) := hr
        have HM5 : Hid (Blk wr G 56 (arrW ((madeN N k).mores k j))) := hm
        clear hb hp hr hm
        by_cases hlj : j < x
        · have HVk : Hid (Calls Tryd.prog 30 #[.agg #[.int .i64 ((madeN N k).mores k j).u, .int .i64 ((madeN N k).mores k j).a, .int .i64 ((madeN N k).mores k j).b, .int .i64 ((madeN N k).mores k j).c], .int .i64 k] wr fun e w' => e = .returned (.agg #[.int .i64 ((madeN N k).mores k (j + 1)).u, .int .i64 ((madeN N k).mores k (j + 1)).a, .int .i64 ((madeN N k).mores k (j + 1)).b, .int .i64 ((madeN N k).mores k (j + 1)).c]) ∧ Below wr.heap.size wr w') := HV.out k j wr hlt (by rw [← HXk.out]; omega)
          obtain ⟨D, hD⟩ : ∃ D, D = (madeN N k).mores k j := ⟨_, rfl⟩
          rw [← hD] at HVk HM5
          obtain ⟨E, hE⟩ : ∃ E, E = (madeN N k).mores k (j + 1) := ⟨_, rfl⟩
          rw [← hE] at HVk
          have HEj : Hid (E = (madeN N k).mores k (j + 1)) := hE
          clear hD hE
          obtain ⟨y0, y1, y2, y3⟩ := HM5.out.cells4
          go_wp2_with fail
          go_at_call 30
          refine HVk.out.mono ?_
          rintro e w6 ⟨rfl, hb⟩
          have HB6 : Hid (Below w.heap.size w w6) := HB5.out.trans (hb.mono HB5.out.size)
          have HP6 : Hid (Blk w6 w.heap.size 43 (arr8 N)) := HP5.out.below hb
          have HR6 : Hid (Blk w6 (w.heap.size + 1) 56 (arrW Z)) := HR5.out.below hb
          have HM6 : Hid (Blk w6 G 56 (arrW D)) := HM5.out.below hb
          clear hb y0 y1 y2 y3
          obtain ⟨y0, y1, y2, y3⟩ := HM6.out.cells4
          obtain ⟨f0, f1, f2, f3⟩ := HM6.out.frozen4
          go_wp2
          go_roundw
          case rel =>
            have hg := HG.out
            exact ⟨j + 1, by omega, by go_num, putW_below HB6.out (by omega) E, putW_far HP6.out (by omega) E, putW_far HR6.out (by omega) E, by rw [← HEj.out]; exact putW_blk HM6.out E⟩
          case measure => simp [intOf]; omega
        · obtain rfl : j = x := by omega
          go_wp2
          go_roundw
          case rel => exact ⟨k + 1, by omega, by go_num, HB5.out, HP5.out, HR5.out, by rw [← HEk.out]; exact HM5.out⟩
          case measure => simp [intOf]; omega
    · obtain rfl : k = 8 := by omega
      obtain ⟨D, hD⟩ : ∃ D, D = madeN N 8 := ⟨_, rfl⟩
      rw [← hD] at HM4
      have HD : Hid (D = madeN N 8) := hD
      clear hD
      obtain ⟨y0, y1, y2, y3⟩ := HM4.out.cells4
      obtain ⟨r0, r1, r2, r3⟩ := HR4.out.cells4
      obtain ⟨f0, f1, f2, f3⟩ := HR4.out.frozen4
      go_wp2
      have hld := loadW (putW_blk HR4.out D)
      refine bodyPost_ret (v := .tuple #[.agg (arrW D), .nilIface]) ?_ rfl ⟨by rw [HD.out], ?_⟩
      · rw [results_cell_tmp rfl]
        unfold putW at hld
        simp [asAddr, Result.andThen, hld]
      · exact putW_below HB4.out (by omega) D

/-- World, whatever the counts. -/
theorem fworld_any (N : Nat → Int) (w : World) :
    Calls Tryd.prog 17 #[.agg #[.int .i64 (N 0), .int .i64 (N 1), .int .i64 (N 2), .int .i64 (N 3), .int .i64 (N 4), .int .i64 (N 5), .int .i64 (N 6), .int .i64 (N 7)]] w fun e w' => e = .returned (.tuple #[.agg (arrW (madeW N)), errV (countsFault N)]) ∧ Below w.heap.size w w' := by
  by_cases hf : countsFault N = 0
  · unfold madeW
    rw [if_pos hf, hf]
    exact fworld_right N w hf
  · unfold madeW errV
    rw [if_neg hf, if_neg hf]
    exact fworld_wrong N w hf
end Go.Proofs.YtgkgbpbohgklhahDoor

namespace Go.Proofs.YtgkgbpbohgklhahDoor
open Go.ChangeShapes Go.WideShapes Go.ChangeAt Go.RowKit
set_option maxRecDepth 100000

theorem infoBool : (Tryd.prog.info? 4).map (fun i => (i.zero, i.size, i.bytes)) = some (some (.bool false), 1, 1) := by kernel_rfl

/-- the slice v reads, in the world w, as these booleans. -/
def ReadsB (w : World) (b off : Nat) (hs : List Bool) : Prop := b < w.heap.size ∧ ∀ k, k < hs.length → w.cell? ⟨b, off + k, none⟩ = some (.bool (hs.getD k false))

end Go.Proofs.YtgkgbpbohgklhahDoor

namespace Go.Proofs.YtgkgbpbohgklhahDoor
open Go.ChangeShapes Go.WideShapes Go.ChangeAt Go.RowKit
set_option maxRecDepth 100000

theorem fmade_op (s : Int) (x y : Bool) (hs : s = 10 ∨ s = 11 ∨ s = 13) (B off cap : Nat) (vh : Value) (w : World) (c0 : w.cell? ⟨B, off, none⟩ = some (.bool x)) (c1 : w.cell? ⟨B, off + 1, none⟩ = some (.bool y)) (held : List Bool) :
    Calls Tryd.prog 38 #[.int .i64 s, .slice (some ⟨B, off, none⟩) 2 cap, vh] w fun e w' => e = .returned (.bool (madeF held s [x, y])) ∧ w = w' := by
  rcases hs with rfl | rfl | rfl
  · cases x
    all_goals
      go_enter Tryd.func38, Tryd.ntmps38
      go_wp2
      go_ret
      exact ⟨rfl, rfl⟩
  · cases x
    all_goals
      go_enter Tryd.func38, Tryd.ntmps38
      go_wp2
      go_ret
      exact ⟨rfl, rfl⟩
  · cases x
    all_goals
      go_enter Tryd.func38, Tryd.ntmps38
      go_wp2
      go_ret
      exact ⟨rfl, rfl⟩
theorem fmade_no (x : Bool) (B off cap : Nat) (vh : Value) (w : World) (c0 : w.cell? ⟨B, off, none⟩ = some (.bool x)) (held : List Bool) :
    Calls Tryd.prog 38 #[.int .i64 12, .slice (some ⟨B, off, none⟩) 1 cap, vh] w fun e w' => e = .returned (.bool (madeF held 12 [x])) ∧ w = w' := by
  go_enter Tryd.func38, Tryd.ntmps38
  go_wp2
  go_ret
  exact ⟨rfl, rfl⟩
theorem fmade_leaf (s : Int) (held : List Bool) (h0 : 0 ≤ s) (h1 : s < held.length) (h6 : held.length ≤ 6) (hb ho hcap : Nat) (v : Value) (w : World) (hR : ReadsB w hb ho held) :
    Calls Tryd.prog 38 #[.int .i64 s, v, .slice (some ⟨hb, ho, none⟩) held.length hcap] w fun e w' => e = .returned (.bool (madeF held s [])) ∧ w = w' := by
  obtain ⟨k, rfl⟩ := Int.eq_ofNat_of_zero_le h0
  have e : madeF held (k : Int) [] = held.getD k false := by rw [madeF_leaf held (takesF_low (by omega)) []]; simp
  rw [e]
  have hc := hR.2 k (by omega)
  obtain ⟨x, hx⟩ : ∃ x, x = held.getD k false := ⟨_, rfl⟩
  rw [← hx] at hc ⊢
  obtain ⟨m, hm⟩ : ∃ m, m = held.length := ⟨_, rfl⟩
  rw [← hm] at h1 h6 ⊢
  clear hx hm hR e
  have g0 : ((k : Int) == 10) = false := by simp; omega
  have g1 : ((k : Int) == 11) = false := by simp; omega
  have g2 : ((k : Int) == 13) = false := by simp; omega
  have g3 : ((k : Int) == 12) = false := by simp; omega
  have h0' : (0 : Int) ≤ (k : Int) := by omega
  go_enter Tryd.func38, Tryd.ntmps38
  go_wp2
  go_ret
  exact ⟨rfl, rfl⟩
end Go.Proofs.YtgkgbpbohgklhahDoor
