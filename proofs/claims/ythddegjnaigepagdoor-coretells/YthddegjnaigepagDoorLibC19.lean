/-
  Proved: what vennref1.Form returns, of any formula; what was in memory is as it was (a contract that the statements lean on).
  Proved: what the reference's in and In return, of a right term and a right world; what was in memory is as it was (contracts that the statements lean on).
  Proved: what the reference's functions of chapter 1 (Size, Do) return, and that they leave memory as it was.
  Proved: what the reference's Value returns, of a right term and a right world; what was in memory is as it was (contracts that the statements lean on).
-/
import Derived.Test.YthddegjnaigepagDoorLibC8
import Derived.Test.YthddegjnaigepagDoorLibC18
import Derived.Test.YthddegjnaigepagDoorLibC16
import Derived.WalkKit
import Derived.ProofKit
import Derived.OpenShut
namespace Go.Proofs.YthddegjnaigepagDoor
open Go.ChangeShapes Go.WideShapes Go.ChangeAt Go.RowKit
set_option maxRecDepth 100000

theorem signF_ref {m : Nat} (hm : m ≤ 6) {s : Int} : signF m s = true ↔ ¬ (s < 0 ∨ 13 < s ∨ (s < 10 ∧ (m : Int) ≤ s)) := by
  rw [signF_iff]
  unfold takesF
  constructor
  · rintro (h | h)
    · split at h
      · omega
      · split at h <;> omega
    · omega
  · intro h
    by_cases h1 : s < 10
    · right; omega
    · left
      split
      · omega
      · rw [if_pos (by omega)]; omega
theorem takesF_high {s : Int} (h0 : ¬ s < 10) (h1 : ¬ 13 < s) : takesF s = if s = 12 then 1 else 2 := by
  unfold takesF
  by_cases h : s = 12
  · rw [if_neg (by omega), if_pos h, if_pos h]
  · rw [if_pos (by omega), if_neg h]
theorem all_step {m : Nat} {t : List Int} {k : Nat} (h : k < t.length) (ha : (t.take k).all (signF m) = true) (hs : signF m (t.getD k 0) = true) : (t.take (k + 1)).all (signF m) = true := by
  rw [takeF_succ t h, List.all_append, ha]
  simp only [List.all_cons, List.all_nil, Bool.and_true, Bool.true_and]
  exact hs
theorem all_stop {m : Nat} {t : List Int} {k : Nat} (h : k < t.length) (hs : ¬ signF m (t.getD k 0) = true) : ¬ t.all (signF m) = true := by
  intro ha
  apply hs
  have := List.all_eq_true.1 ha (t.getD k 0) (by simp [List.getElem?_eq_getElem h])
  exact this
theorem refForm_none (ao co : Option Addr) (m n acap ccap : Nat) (w : World) (h0 : m = 0 ∨ n = 0) :
    Calls Tryd.prog 15 #[.agg #[.slice ao m acap, .slice co n ccap]] w fun e w' => e = .returned (.int .i64 5) ∧ Below w.heap.size w w' := by
  by_cases hm : m = 0
  · subst hm
    go_enter Tryd.func15, Tryd.ntmps15
    go_wp2
    go_ret
    exact ⟨rfl, below_alloc1 _ _⟩
  · obtain rfl : n = 0 := by omega
    have hm' : ((m : Int) == 0) = false := by simp; omega
    go_enter Tryd.func15, Tryd.ntmps15
    go_wp2
    go_ret
    exact ⟨rfl, below_alloc1 _ _⟩
theorem refForm_full (ao co : Option Addr) (m n acap ccap : Nat) (w : World) (h0 : ¬ (m = 0 ∨ n = 0)) (h1 : 6 < m ∨ 20 < n) :
    Calls Tryd.prog 15 #[.agg #[.slice ao m acap, .slice co n ccap]] w fun e w' => e = .returned (.int .i64 4) ∧ Below w.heap.size w w' := by
  have hm' : ((m : Int) == 0) = false := by simp; omega
  have hn' : ((n : Int) == 0) = false := by simp; omega
  by_cases hm : 6 < m
  · have h : 6 < (m : Int) := by omega
    go_enter Tryd.func15, Tryd.ntmps15
    go_wp2
    go_ret
    exact ⟨rfl, below_alloc1 _ _⟩
  · have h : ¬ 6 < (m : Int) := by omega
    have h2 : 20 < (n : Int) := by omega
    go_enter Tryd.func15, Tryd.ntmps15
    go_wp2
    go_ret
    exact ⟨rfl, below_alloc1 _ _⟩
theorem refForm_rest (ao co : Option Addr) (acap ccap : Nat) (ats : List At) (c : List Int) (w : World) (hA : ReadsA w (.slice ao ats.length acap) ats) (hC : Reads w (.slice co c.length ccap) c) (h0 : ¬ (ats.length = 0 ∨ c.length = 0)) (h1 : ¬ (6 < ats.length ∨ 20 < c.length)) :
    Calls Tryd.prog 15 #[.agg #[.slice ao ats.length acap, .slice co c.length ccap]] w fun e w' => e = .returned (.int .i64 (formFault ats c)) ∧ Below w.heap.size w w' := by
  obtain ⟨w1, hw1⟩ : ∃ w1, w1 = w.alloc (.cells #[.slice ao ats.length acap, .slice co c.length ccap] 42) := ⟨_, rfl⟩
  have HB1 : Hid (Below w.heap.size w w1) := by unfold Hid; rw [hw1]; exact below_alloc1 w _
  have HS1 : Hid (w1.heap.size = w.heap.size + 1) := by unfold Hid; rw [hw1]; simp
  have HX : Hid (w1.cell? ⟨w.heap.size, 0, none⟩ = some (.slice ao ats.length acap) ∧ w1.cell? ⟨w.heap.size, 1, none⟩ = some (.slice co c.length ccap)) := by
    unfold Hid; rw [hw1]; simp
  have HA : Hid (ReadsA w1 (.slice ao ats.length acap) ats) := hA.below HB1.out
  have HC : Hid (Reads w1 (.slice co c.length ccap) c) := hC.below HB1.out
  clear hA hC
  have HF : Hid (formFault ats c = if firstFault ats = 0 then (if c.all (signF ats.length) = true then (if cntF c 0 = some 1 then 0 else 3) else 1) else firstFault ats) := by
    unfold Hid formFault; rw [if_neg h0, if_neg h1]
  obtain ⟨m, hm⟩ : ∃ m, m = ats.length := ⟨_, rfl⟩
  obtain ⟨n, hn⟩ : ∃ n, n = c.length := ⟨_, rfl⟩
  rw [← hm] at h0 h1 hw1 HX HA HF ⊢
  rw [← hn] at h0 h1 hw1 HX HC ⊢
  have HM : Hid (m = ats.length) := hm
  have HN : Hid (n = c.length) := hn
  clear hm hn
  have hm' : ((m : Int) == 0) = false := by simp; omega
  have hn' : ((n : Int) == 0) = false := by simp; omega
  have hm6 : m ≤ 6 := by omega
  have hn20 : n ≤ 20 := by omega
  have hm6' : ¬ 6 < (m : Int) := by omega
  have hn20' : ¬ 20 < (n : Int) := by omega
  clear h0 h1
  go_enter Tryd.func15, Tryd.ntmps15
  go_wp2
  rw [← hw1]
  clear hw1
  go_loopw [3] (fun i wr => ∃ k : Nat, k ≤ m ∧ i = .int .i64 k ∧ Below w1.heap.size w1 wr ∧ firstFault (ats.drop k) = firstFault ats) (fun i _ => m - (intOf i).toNat)
  case atStart => exact ⟨0, Nat.zero_le _, rfl, Below.refl _ _, rfl⟩
  case round =>
    obtain ⟨k, hk, rfl, hbel, hff⟩ := hrel
    have HF0 : Hid (firstFault (ats.drop k) = firstFault ats) := hff
    have HB : Hid (Below w1.heap.size w1 wr) := hbel
    clear hff hbel
    have hlt0 : w.heap.size < w1.heap.size := by have := HS1.out; omega
    have y0 : wr.cell? ⟨w.heap.size, 0, none⟩ = some (.slice ao m acap) := by rw [HB.out.cell hlt0]; exact HX.out.1
    have y1 : wr.cell? ⟨w.heap.size, 1, none⟩ = some (.slice co n ccap) := by rw [HB.out.cell hlt0]; exact HX.out.2
    clear hlt0
    by_cases hlt : k < m
    · obtain ⟨a, ha⟩ : ∃ a, ats[k]? = some a := ⟨_, List.getElem?_eq_getElem (by have := HM.out; omega)⟩
      have HFF : Hid (firstFault ats = if a.fault = 0 then firstFault (ats.drop (k + 1)) else a.fault) := by
        unfold Hid; rw [← HF0.out, firstFault_drop ats ha]
      rcases HA.out.below HB.out with ⟨_, _, hv, hn⟩ | ⟨b, off, cap, hv, hb, _, _, hall⟩
      · have := HM.out; rw [hn] at this; simp at this; omega
      obtain rfl : ao = some ⟨b, off, none⟩ := by cases hv; rfl
      obtain ⟨vs, vt, c0, c1, c2, c3, r1, r2⟩ := hall k a ha
      obtain ⟨sao, scap, rfl, _⟩ := r1.slice
      obtain ⟨tao, tcap, rfl, _⟩ := r2.slice
      clear hv hall
      have HCk : Hid (Calls Tryd.prog 30 #[.agg #[.int .i64 a.k, .slice sao a.s.length scap, .slice tao a.t.length tcap, .int .i64 a.n]] wr fun e w' => e = .returned (.int .i64 a.fault) ∧ Below wr.heap.size wr w') :=
        refAtom_any a.k a.n _ _ a.s a.t wr r1 r2
      clear r1 r2
      go_wp2_with fail
      go_at_call 30
      refine HCk.out.mono ?_
      rintro e w3 ⟨rfl, hb3⟩
      have HB3 : Hid (Below w1.heap.size w1 w3) := HB.out.trans (hb3.mono HB.out.size)
      clear hb3 HCk
      by_cases hf : a.fault = 0
      · have HD : Hid (firstFault (ats.drop (k + 1)) = firstFault ats) := by
          have := HFF.out
          rw [if_pos hf] at this
          exact this.symm
        rw [hf]
        go_wp2
        go_roundw
        case rel => exact ⟨k + 1, by omega, by go_num, HB3.out, HD.out⟩
        case measure => simp [intOf]; omega
      · have HE : Hid (formFault ats c = a.fault) := by
          have := HFF.out
          rw [if_neg hf] at this
          unfold Hid; rw [HF.out, this, if_neg hf]
        have hf' : (a.fault != 0) = true := by simpa using hf
        go_wp2
        go_ret
        exact ⟨back_v (by rw [HE.out]; rfl), HB1.out.trans (HB3.out.mono HB1.out.size)⟩
    · have HE : Hid (firstFault ats = 0) := by
        have := HF0.out
        rw [List.drop_eq_nil_of_le (by have := HM.out; omega)] at this
        exact this.symm
      have HF2 : Hid (formFault ats c = if c.all (signF m) = true then (if cntF c 0 = some 1 then 0 else 3) else 1) := by
        unfold Hid; rw [HF.out, HE.out]; simp only [if_true]
      have HEnd : Hid (Below w.heap.size w wr) := HB1.out.trans (HB.out.mono HB1.out.size)
      rcases HC.out.below HB.out with ⟨_, _, hv, hcn⟩ | ⟨b, off, cap, hv, hb, _, ⟨hl63, _⟩, hc⟩
      · have := HN.out; rw [hcn] at this; simp at this; subst this; simp at hn'
      obtain rfl : co = some ⟨b, off, none⟩ := by cases hv; rfl
      have HCe : Hid (∀ j, j < c.length → wr.cell? ⟨b, off + j, none⟩ = some (.int .i64 (c.getD j 0))) := hc
      clear hv hc hl63 hb
      go_wp2
      go_loop [5] (fun i => ∃ k : Nat, k ≤ n ∧ i = .int .i64 k ∧ (c.take k).all (signF m) = true) (fun i => n - (intOf i).toNat)
      case atStart => exact ⟨0, Nat.zero_le _, rfl, rfl⟩
      case round =>
        obtain ⟨j, hj, rfl, hall⟩ := hrel
        have HAl : Hid ((c.take j).all (signF m) = true) := hall
        clear hall
        by_cases hjn : j < n
        · obtain ⟨s, hs⟩ : ∃ s, s = c.getD j 0 := ⟨_, rfl⟩
          have hjc : j < c.length := by have := HN.out; omega
          have hc := HCe.out j hjc
          rw [← hs] at hc
          by_cases hg : signF m s = true
          · have HD : Hid ((c.take (j + 1)).all (signF m) = true) := all_step hjc HAl.out (by rw [← hs]; exact hg)
            have hb := (signF_ref hm6).1 hg
            have b1 : ¬ s < 0 := by omega
            have b2 : ¬ 13 < s := by omega
            clear hs hg
            by_cases b3 : s < 10
            · have b4 : ¬ (m : Int) ≤ s := by omega
              clear hb
              go_wp2
              go_round
              case rel => exact ⟨j + 1, by omega, by go_num, HD.out⟩
              case measure => simp [intOf]; omega
            · clear hb
              go_wp2
              go_round
              case rel => exact ⟨j + 1, by omega, by go_num, HD.out⟩
              case measure => simp [intOf]; omega
          · have HD : Hid (formFault ats c = 1) := by
              have := all_stop (m := m) hjc (by rw [← hs]; exact hg)
              unfold Hid; rw [HF2.out, if_neg this]
            have hb : s < 0 ∨ 13 < s ∨ (s < 10 ∧ (m : Int) ≤ s) := by
              by_cases h : s < 0 ∨ 13 < s ∨ (s < 10 ∧ (m : Int) ≤ s)
              · exact h
              · exact absurd ((signF_ref hm6).2 h) hg
            clear hs hg
            by_cases b1 : s < 0
            · clear hb
              go_wp2
              go_ret
              exact ⟨back_v (by rw [HD.out]; rfl), HEnd.out⟩
            · by_cases b2 : 13 < s
              · clear hb
                go_wp2
                go_ret
                exact ⟨back_v (by rw [HD.out]; rfl), HEnd.out⟩
              · have b3 : s < 10 := by omega
                have b4 : (m : Int) ≤ s := by omega
                clear hb
                go_wp2
                go_ret
                exact ⟨back_v (by rw [HD.out]; rfl), HEnd.out⟩
        · have HD : Hid (c.all (signF m) = true) := by
            have := HAl.out
            rw [List.take_of_length_le (by have := HN.out; omega)] at this
            exact this
          have HF3 : Hid (formFault ats c = if cntF c 0 = some 1 then 0 else 3) := by
            unfold Hid; rw [HF2.out, if_pos HD.out]
          go_wp2
          go_loop [7, 8] (fun q i => ∃ (k : Nat) (z : Int), k ≤ n ∧ i = .int .i64 k ∧ q = .int .i64 z ∧ cntF (c.take k) 0 = some z) (fun _ i => n - (intOf i).toNat)
          case atStart => exact ⟨0, 0, Nat.zero_le _, rfl, rfl, rfl⟩
          case round =>
            obtain ⟨i, z, hi, rfl, rfl, hz⟩ := hrel
            have HZ : Hid (cntF (c.take i) 0 = some z) := hz
            have hz0 : 0 ≤ z ∧ z ≤ 20 := by
              have := cntF_nonneg (Int.le_refl 0) hz
              simp at this
              omega
            clear hz
            by_cases hin : i < n
            · obtain ⟨s, hs⟩ : ∃ s, s = c.getD i 0 := ⟨_, rfl⟩
              have hic : i < c.length := by have := HN.out; omega
              have hc := HCe.out i hic
              rw [← hs] at hc
              have HZ1 : Hid (cntF (c.take (i + 1)) 0 = if z < takesF s then none else some (z + 1 - takesF s)) := by
                have := cntF_take_succ c hic HZ.out
                rw [← hs] at this; exact this
              have hg : signF m s = true := by
                have := List.all_eq_true.1 HD.out (c.getD i 0) (by simp [List.getElem?_eq_getElem hic])
                rw [← hs] at this; exact this
              have hb := (signF_ref hm6).1 hg
              clear hs hg
              by_cases b3 : s < 10
              · have HE1 : Hid (cntF (c.take (i + 1)) 0 = some (z + 1)) := by
                  have := HZ1.out
                  rw [takesF_low b3, if_neg (by omega)] at this
                  unfold Hid; rw [this]; simp
                clear hb
                go_wp2
                go_round
                case rel => exact ⟨i + 1, _, by omega, by go_num, by go_num, HE1.out⟩
                case measure => simp [intOf]; omega
              · have hk := takesF_high b3 (show ¬ 13 < s by omega)
                by_cases b12 : s = 12
                · rw [if_pos b12] at hk
                  have hq : (s != 12) = false := by simpa using b12
                  by_cases hlow : z < 1
                  · have HE1 : Hid (formFault ats c = 3) := by
                      have := HZ1.out
                      rw [hk, if_pos hlow] at this
                      unfold Hid; rw [HF3.out, cntF_take_none c _ this]; simp
                    clear hb hk b12
                    go_wp2
                    go_ret
                    exact ⟨back_v (by rw [HE1.out]; rfl), HEnd.out⟩
                  · have HE1 : Hid (cntF (c.take (i + 1)) 0 = some z) := by
                      have := HZ1.out
                      rw [hk, if_neg hlow] at this
                      unfold Hid; rw [this]; simp
                    clear hb hk b12
                    go_wp2
                    go_round
                    case rel => exact ⟨i + 1, _, by omega, by go_num, rfl, HE1.out⟩
                    case measure => simp [intOf]; omega
                · rw [if_neg b12] at hk
                  have hq : (s != 12) = true := by simpa using b12
                  by_cases hlow : z < 2
                  · have HE1 : Hid (formFault ats c = 3) := by
                      have := HZ1.out
                      rw [hk, if_pos hlow] at this
                      unfold Hid; rw [HF3.out, cntF_take_none c _ this]; simp
                    clear hb hk b12
                    by_cases h1 : z < 1
                    · go_wp2
                      go_ret
                      exact ⟨back_v (by rw [HE1.out]; rfl), HEnd.out⟩
                    · go_wp2
                      go_ret
                      exact ⟨back_v (by rw [HE1.out]; rfl), HEnd.out⟩
                  · have HE1 : Hid (cntF (c.take (i + 1)) 0 = some (z - 1)) := by
                      have := HZ1.out
                      rw [hk, if_neg hlow] at this
                      unfold Hid; rw [this]; congr 1; omega
                    have h1 : ¬ z < 1 := by omega
                    clear hb hk b12
                    go_wp2
                    go_round
                    case rel => exact ⟨i + 1, _, by omega, by go_num, by go_num, HE1.out⟩
                    case measure => simp [intOf]; omega
            · have HZ2 : Hid (cntF c 0 = some z) := by
                have := HZ.out
                rw [List.take_of_length_le (by have := HN.out; omega)] at this
                exact this
              by_cases h1 : z = 1
              · have HE1 : Hid (formFault ats c = 0) := by unfold Hid; rw [HF3.out, HZ2.out, h1]; rfl
                subst h1
                go_wp2
                go_ret
                exact ⟨back_v (by rw [HE1.out]; rfl), HEnd.out⟩
              · have HE1 : Hid (formFault ats c = 3) := by
                  unfold Hid; rw [HF3.out, HZ2.out, if_neg (by simpa using h1)]
                have h1' : (z != 1) = true := by simpa using h1
                go_wp2
                go_ret
                exact ⟨back_v (by rw [HE1.out]; rfl), HEnd.out⟩
/-- vennref1.Form, of any formula. -/
theorem refForm_any (va vc : Value) (ats : List At) (c : List Int) (w : World) (hA : ReadsA w va ats) (hC : Reads w vc c) :
    Calls Tryd.prog 15 #[.agg #[va, vc]] w fun e w' => e = .returned (.int .i64 (formFault ats c)) ∧ Below w.heap.size w w' := by
  obtain ⟨ao, acap, rfl, _⟩ := hA.slice
  obtain ⟨co, ccap, rfl, _⟩ := hC.slice
  by_cases h0 : ats.length = 0 ∨ c.length = 0
  · have e : formFault ats c = 5 := by unfold formFault; rw [if_pos h0]
    rw [e]
    exact refForm_none ao co _ _ acap ccap w h0
  by_cases h1 : 6 < ats.length ∨ 20 < c.length
  · have e : formFault ats c = 4 := by unfold formFault; rw [if_neg h0, if_pos h1]
    rw [e]
    exact refForm_full ao co _ _ acap ccap w h0 h1
  exact refForm_rest ao co acap ccap ats c w hA hC h0 h1
end Go.Proofs.YthddegjnaigepagDoor

namespace Go.Proofs.YthddegjnaigepagDoor
open Go.ChangeShapes Go.WideShapes Go.ChangeAt Go.RowKit
set_option maxRecDepth 100000

/-- the row q lies in w at a place. -/
def Lies (w : World) (B off : Nat) (q : List Int) : Prop := B < w.heap.size ∧ ∀ k, k < q.length → w.cell? ⟨B, off + k, none⟩ = some (.int .i64 (q.getD k 0))
theorem Lies.below {w w' : World} {B off : Nat} {q : List Int} (h : Lies w B off q) (hb : Below w.heap.size w w') : Lies w' B off q :=
  ⟨Nat.lt_of_lt_of_le h.1 hb.size, fun k hk => by rw [hb.cell h.1]; exact h.2 k hk⟩
theorem Lies.front {w : World} {B off : Nat} {q l : List Int} (h : Lies w B off (q ++ l)) : Lies w B off q :=
  ⟨h.1, fun k hk => by
    rw [h.2 k (by rw [List.length_append]; omega)]
    simp [List.getElem?_append_left hk]⟩
theorem Lies.last {w : World} {B off : Nat} {q : List Int} {s : Int} (h : Lies w B off (q ++ [s])) : w.cell? ⟨B, off + q.length, none⟩ = some (.int .i64 s) := by
  rw [h.2 q.length (by simp)]; simp
theorem name_le {w : Wd} (h : w.ok = true) (s : Int) : 0 ≤ w.name s ∧ w.name s < 64 := by
  obtain ⟨_, _, h1, h2⟩ := okB_lt (ok_name h s); exact ⟨h1, h2⟩
theorem back_bs {a b : Bool} {v : Value} (h : a = b) : Ending.returned (.tuple #[.bool a, v]) = .returned (.tuple #[.bool b, v]) := by rw [h]

set_option maxRecDepth 100000 in
set_option maxHeartbeats 4000000 in
theorem in_leaf (s : Int) (h0 : 0 ≤ s) (h4 : s ≤ 4) (m B off cap i : Nat) (u a b c : Int) (w : World) (hok : (Wd.mk u a b c).ok = true) (hi : (i : Int) < u) (hm : m ≤ 12) (hcap : m + 1 ≤ cap) (hB : B < w.heap.size) (hc : w.cell? ⟨B, off + m, none⟩ = some (.int .i64 s)) :
    Calls Tryd.prog 82 #[.slice (some ⟨B, off, none⟩) (m + 1) cap, .agg #[.int .i64 u, .int .i64 a, .int .i64 b, .int .i64 c], .int .i64 i] w fun e w' => e = .returned (.tuple #[.bool (hasB ((Wd.mk u a b c).val [s]) i), .slice (some ⟨B, off, none⟩) m cap]) ∧ Below w.heap.size w w' := by
  have HL : Hid (hasB ((Wd.mk u a b c).val [s]) i = if s < 3 then hasB ((Wd.mk u a b c).name s) i else s == 4) := has_leaf hok s h0 h4 i hi
  have hu := ok_u hok
  simp only at hu
  have hi6 : i ≤ 6 := by omega
  have HH : Hid (∀ s W, Calls Tryd.prog 52 #[.int .i64 ((Wd.mk u a b c).name s), .int .i64 i] W fun e w' => e = .returned (.bool (hasB ((Wd.mk u a b c).name s) i)) ∧ W = w') := fun s W => refHas_any _ i (name_le hok s).1 (by have := (name_le hok s).2; omega) (by omega) W
  have d0 : (w.alloc (.cells #[.int .i64 u, .int .i64 a, .int .i64 b, .int .i64 c] 37)).cell? ⟨B, off + m, none⟩ = some (.int .i64 s) := by
    rw [World.cell?_alloc_lt _ _ ⟨B, off + m, none⟩ hB]; exact hc
  have hle : (m : Int) ≤ (cap : Int) := by omega
  obtain ⟨V, hV⟩ : ∃ V, V = hasB ((Wd.mk u a b c).val [s]) i := ⟨_, rfl⟩
  rw [← hV] at HL ⊢
  clear hV hc hB hok hu hi
  have hd : s = 0 ∨ s = 1 ∨ s = 2 ∨ s = 3 ∨ s = 4 := by omega
  clear h0 h4
  rcases hd with rfl | rfl | rfl | rfl | rfl
  · have HA : Hid (∀ W, Calls Tryd.prog 52 #[.int .i64 a, .int .i64 i] W fun e w' => e = .returned (.bool V) ∧ W = w') := fun W => by rw [HL.out]; exact HH.out 0 W
    go_enter Tryd.func82, Tryd.ntmps82
    go_wp2_with (go_at_call 52; refine (HA.out _).mono ?_; rintro e w' ⟨rfl, rfl⟩)
    go_ret2
    exact ⟨rfl, below_alloc1 _ _⟩
  · have HA : Hid (∀ W, Calls Tryd.prog 52 #[.int .i64 b, .int .i64 i] W fun e w' => e = .returned (.bool V) ∧ W = w') := fun W => by rw [HL.out]; exact HH.out 1 W
    go_enter Tryd.func82, Tryd.ntmps82
    go_wp2_with (go_at_call 52; refine (HA.out _).mono ?_; rintro e w' ⟨rfl, rfl⟩)
    go_ret2
    exact ⟨rfl, below_alloc1 _ _⟩
  · have HA : Hid (∀ W, Calls Tryd.prog 52 #[.int .i64 c, .int .i64 i] W fun e w' => e = .returned (.bool V) ∧ W = w') := fun W => by rw [HL.out]; exact HH.out 2 W
    go_enter Tryd.func82, Tryd.ntmps82
    go_wp2_with (go_at_call 52; refine (HA.out _).mono ?_; rintro e w' ⟨rfl, rfl⟩)
    go_ret2
    exact ⟨rfl, below_alloc1 _ _⟩
  · go_enter Tryd.func82, Tryd.ntmps82
    go_wp2_with fail
    go_ret2
    exact ⟨back_bs HL.out.symm, below_alloc1 _ _⟩
  · go_enter Tryd.func82, Tryd.ntmps82
    go_wp2_with fail
    go_ret2
    exact ⟨back_bs HL.out.symm, below_alloc1 _ _⟩

set_option maxRecDepth 100000 in
set_option maxHeartbeats 4000000 in
/-- behind one call of itself. -/
theorem in_opp (m p B off cap i : Nat) (u a b c : Int) (x : Bool) (w : World) (hm : m ≤ 12) (hcap : m + 1 ≤ cap) (hB : B < w.heap.size) (hc : w.cell? ⟨B, off + m, none⟩ = some (.int .i64 8))
    (ih : ∀ W, Below w.heap.size w W → Calls Tryd.prog 82 #[.slice (some ⟨B, off, none⟩) m cap, .agg #[.int .i64 u, .int .i64 a, .int .i64 b, .int .i64 c], .int .i64 i] W fun e w' => e = .returned (.tuple #[.bool x, .slice (some ⟨B, off, none⟩) p cap]) ∧ Below W.heap.size W w') :
    Calls Tryd.prog 82 #[.slice (some ⟨B, off, none⟩) (m + 1) cap, .agg #[.int .i64 u, .int .i64 a, .int .i64 b, .int .i64 c], .int .i64 i] w fun e w' => e = .returned (.tuple #[.bool (!x), .slice (some ⟨B, off, none⟩) p cap]) ∧ Below w.heap.size w w' := by
  have HI : Hid (Calls Tryd.prog 82 #[.slice (some ⟨B, off, none⟩) m cap, .agg #[.int .i64 u, .int .i64 a, .int .i64 b, .int .i64 c], .int .i64 i] (w.alloc (.cells #[.int .i64 u, .int .i64 a, .int .i64 b, .int .i64 c] 37)) fun e w' => e = .returned (.tuple #[.bool x, .slice (some ⟨B, off, none⟩) p cap]) ∧ Below (w.alloc (.cells #[.int .i64 u, .int .i64 a, .int .i64 b, .int .i64 c] 37)).heap.size (w.alloc (.cells #[.int .i64 u, .int .i64 a, .int .i64 b, .int .i64 c] 37)) w') := ih _ (below_alloc1 _ _)
  have HA : Hid (Below w.heap.size w (w.alloc (.cells #[.int .i64 u, .int .i64 a, .int .i64 b, .int .i64 c] 37))) := below_alloc1 _ _
  have d0 : (w.alloc (.cells #[.int .i64 u, .int .i64 a, .int .i64 b, .int .i64 c] 37)).cell? ⟨B, off + m, none⟩ = some (.int .i64 8) := by
    rw [World.cell?_alloc_lt _ _ ⟨B, off + m, none⟩ hB]; exact hc
  have hle : (m : Int) ≤ (cap : Int) := by omega
  clear hc hB ih
  go_enter Tryd.func82, Tryd.ntmps82
  go_wp2_with (go_at_call 82; refine HI.out.mono ?_; rintro e w2 ⟨rfl, hb⟩)
  go_ret2
  exact ⟨rfl, HA.out.trans (hb.mono HA.out.size)⟩

set_option maxRecDepth 100000 in
set_option maxHeartbeats 4000000 in
/-- behind two calls of itself. -/
theorem in_two (s : Int) (h5 : 5 ≤ s) (h7 : s ≤ 7) (m p q B off cap i : Nat) (u a b c : Int) (x y : Bool) (w : World) (hm : m ≤ 12) (hcap : m + 1 ≤ cap) (hB : B < w.heap.size) (hc : w.cell? ⟨B, off + m, none⟩ = some (.int .i64 s))
    (ihy : ∀ W, Below w.heap.size w W → Calls Tryd.prog 82 #[.slice (some ⟨B, off, none⟩) m cap, .agg #[.int .i64 u, .int .i64 a, .int .i64 b, .int .i64 c], .int .i64 i] W fun e w' => e = .returned (.tuple #[.bool y, .slice (some ⟨B, off, none⟩) q cap]) ∧ Below W.heap.size W w')
    (ihx : ∀ W, Below w.heap.size w W → Calls Tryd.prog 82 #[.slice (some ⟨B, off, none⟩) q cap, .agg #[.int .i64 u, .int .i64 a, .int .i64 b, .int .i64 c], .int .i64 i] W fun e w' => e = .returned (.tuple #[.bool x, .slice (some ⟨B, off, none⟩) p cap]) ∧ Below W.heap.size W w') :
    Calls Tryd.prog 82 #[.slice (some ⟨B, off, none⟩) (m + 1) cap, .agg #[.int .i64 u, .int .i64 a, .int .i64 b, .int .i64 c], .int .i64 i] w fun e w' => e = .returned (.tuple #[.bool (inB s x y), .slice (some ⟨B, off, none⟩) p cap]) ∧ Below w.heap.size w w' := by
  obtain ⟨w1, hw1⟩ : ∃ w1, w1 = w.alloc (.cells #[.int .i64 u, .int .i64 a, .int .i64 b, .int .i64 c] 37) := ⟨_, rfl⟩
  have HA : Hid (Below w.heap.size w w1) := by unfold Hid; rw [hw1]; exact below_alloc1 _ _
  have HI : Hid (Calls Tryd.prog 82 #[.slice (some ⟨B, off, none⟩) m cap, .agg #[.int .i64 u, .int .i64 a, .int .i64 b, .int .i64 c], .int .i64 i] w1 fun e w' => e = .returned (.tuple #[.bool y, .slice (some ⟨B, off, none⟩) q cap]) ∧ Below w1.heap.size w1 w') := ihy _ HA.out
  have HX : Hid (∀ W, Below w.heap.size w W → Calls Tryd.prog 82 #[.slice (some ⟨B, off, none⟩) q cap, .agg #[.int .i64 u, .int .i64 a, .int .i64 b, .int .i64 c], .int .i64 i] W fun e w' => e = .returned (.tuple #[.bool x, .slice (some ⟨B, off, none⟩) p cap]) ∧ Below W.heap.size W w') := ihx
  have HC : Hid (∀ W, Below w1.heap.size w1 W → W.cell? ⟨w.heap.size, 0, none⟩ = some (.int .i64 u) ∧ W.cell? ⟨w.heap.size, 1, none⟩ = some (.int .i64 a) ∧ W.cell? ⟨w.heap.size, 2, none⟩ = some (.int .i64 b) ∧ W.cell? ⟨w.heap.size, 3, none⟩ = some (.int .i64 c)) := fun W hc => by
    have hlt : w.heap.size < w1.heap.size := by rw [hw1]; simp
    rw [hc.cell (p := ⟨w.heap.size, 0, none⟩) hlt, hc.cell (p := ⟨w.heap.size, 1, none⟩) hlt, hc.cell (p := ⟨w.heap.size, 2, none⟩) hlt, hc.cell (p := ⟨w.heap.size, 3, none⟩) hlt, hw1]
    simp
  have d0 : w1.cell? ⟨B, off + m, none⟩ = some (.int .i64 s) := by
    rw [hw1, World.cell?_alloc_lt _ _ ⟨B, off + m, none⟩ hB]; exact hc
  have hle : (m : Int) ≤ (cap : Int) := by omega
  clear hc hB ihx ihy
  have hd : s = 5 ∨ s = 6 ∨ s = 7 := by omega
  clear h5 h7
  rcases hd with rfl | rfl | rfl
  all_goals
    rw [hw1] at d0
    go_enter Tryd.func82, Tryd.ntmps82
    go_wp2_with fail
    rw [← hw1]
    rw [← hw1] at d0
    clear hw1
    go_at_call 82
    refine HI.out.mono ?_
    rintro e w2 ⟨rfl, hb⟩
    have HB2 : Hid (Below w.heap.size w w2) := HA.out.trans (hb.mono HA.out.size)
    obtain ⟨x0, x1, x2, x3⟩ := HC.out _ hb
    clear hb
    go_wp2_with fail
    go_at_call 82
    refine (HX.out _ HB2.out).mono ?_
    rintro e w3 ⟨rfl, hb3⟩
    have HB3 : Hid (Below w.heap.size w w3) := HB2.out.trans (hb3.mono HB2.out.size)
    clear hb3 x0 x1 x2 x3
    cases x <;> cases y
    all_goals
      go_wp2
      go_ret2
      exact ⟨rfl, HB3.out⟩

theorem in_any (i : Nat) (u a b c : Int) (hok : (Wd.mk u a b c).ok = true) (hi : (i : Int) < u) (B off cap : Nat) (n : Nat) :
    ∀ (q : List Int), isTm n q → ∀ (pre : List Int) (w : World), (pre ++ q).length ≤ 12 → (pre ++ q).length ≤ cap → Lies w B off (pre ++ q) →
    Calls Tryd.prog 82 #[.slice (some ⟨B, off, none⟩) (pre ++ q).length cap, .agg #[.int .i64 u, .int .i64 a, .int .i64 b, .int .i64 c], .int .i64 i] w fun e w' => e = .returned (.tuple #[.bool (hasB ((Wd.mk u a b c).val q) i), .slice (some ⟨B, off, none⟩) pre.length cap]) ∧ Below w.heap.size w w' := by
  induction n with
  | zero => intro q h; exact h.elim
  | succ n ih =>
    intro q h pre w h12 hcap hL
    rcases h with ⟨s, h0, h4, rfl⟩ | ⟨t, ht, rfl⟩ | ⟨s, A, C, h5, h7, hA, hC, rfl⟩
    · have e : (pre ++ [s]).length = pre.length + 1 := by simp
      rw [e] at h12 hcap ⊢
      exact in_leaf s h0 h4 pre.length B off cap i u a b c w hok hi (by omega) hcap hL.1 hL.last
    · have e0 : pre ++ (t ++ [8]) = (pre ++ t) ++ [8] := by simp
      have e : (pre ++ (t ++ [8])).length = (pre ++ t).length + 1 := by rw [e0, List.length_append]; rfl
      rw [e] at h12 hcap ⊢
      rw [e0] at hL
      rw [has_opp hok ht i hi]
      exact in_opp (pre ++ t).length pre.length B off cap i u a b c _ w (by omega) hcap hL.1 hL.last (fun W hb => ih t ht pre W (by omega) (by omega) (hL.front.below hb))
    · have e0 : pre ++ (A ++ (C ++ [s])) = ((pre ++ A) ++ C) ++ [s] := by simp
      have e : (pre ++ (A ++ (C ++ [s]))).length = ((pre ++ A) ++ C).length + 1 := by rw [e0, List.length_append]; rfl
      have e2 : ((pre ++ A) ++ C).length = (pre ++ A).length + C.length := by rw [List.length_append]
      rw [e] at h12 hcap ⊢
      rw [e0] at hL
      rw [has_two hok h5 h7 hA hC i hi]
      exact in_two s h5 h7 ((pre ++ A) ++ C).length pre.length (pre ++ A).length B off cap i u a b c _ _ w (by omega) hcap hL.1 hL.last
        (fun W hb => ih C hC (pre ++ A) W (by omega) (by omega) (hL.front.below hb)) (fun W hb => ih A hA pre W (by omega) (by omega) (hL.front.front.below hb))

theorem In_any (t : List Int) (hf : faultN t = 0) (i : Nat) (u a b c : Int) (hok : (Wd.mk u a b c).ok = true) (hi : (i : Int) < u) (B off cap : Nat) (hcap : t.length ≤ cap) (w : World) (hL : Lies w B off t) :
    Calls Tryd.prog 81 #[.slice (some ⟨B, off, none⟩) t.length cap, .agg #[.int .i64 u, .int .i64 a, .int .i64 b, .int .i64 c], .int .i64 i] w fun e w' => e = .returned (.bool (hasB ((Wd.mk u a b c).val t) i)) ∧ Below w.heap.size w w' := by
  obtain ⟨_, h12, hs, h1⟩ := fault_zero.1 hf
  obtain ⟨k, hk⟩ := tree t hs h1
  have HI : Hid (Calls Tryd.prog 82 #[.slice (some ⟨B, off, none⟩) t.length cap, .agg #[.int .i64 u, .int .i64 a, .int .i64 b, .int .i64 c], .int .i64 i] (w.alloc (.cells #[.int .i64 u, .int .i64 a, .int .i64 b, .int .i64 c] 37)) fun e w' => e = .returned (.tuple #[.bool (hasB ((Wd.mk u a b c).val t) i), .slice (some ⟨B, off, none⟩) 0 cap]) ∧ Below (w.alloc (.cells #[.int .i64 u, .int .i64 a, .int .i64 b, .int .i64 c] 37)).heap.size (w.alloc (.cells #[.int .i64 u, .int .i64 a, .int .i64 b, .int .i64 c] 37)) w') := by
    have hL' := hL.below (below_alloc1 w (.cells #[.int .i64 u, .int .i64 a, .int .i64 b, .int .i64 c] 37))
    exact in_any i u a b c hok hi B off cap k t hk [] _ h12 hcap hL'
  have HA : Hid (Below w.heap.size w (w.alloc (.cells #[.int .i64 u, .int .i64 a, .int .i64 b, .int .i64 c] 37))) := below_alloc1 _ _
  obtain ⟨V, hV⟩ : ∃ V, V = hasB ((Wd.mk u a b c).val t) i := ⟨_, rfl⟩
  rw [← hV] at HI ⊢
  obtain ⟨n, hn⟩ : ∃ n, n = t.length := ⟨_, rfl⟩
  rw [← hn] at HI ⊢
  clear hV hn hk hL hcap hi hok h1 hs h12 hf
  go_enter Tryd.func81, Tryd.ntmps81
  go_wp2_with (go_at_call 82; refine HI.out.mono ?_; rintro e w2 ⟨rfl, hb⟩)
  go_ret
  exact ⟨rfl, HA.out.trans (hb.mono HA.out.size)⟩
end Go.Proofs.YthddegjnaigepagDoor

namespace Go.Proofs.YthddegjnaigepagDoor
open Go.ChangeShapes Go.WideShapes Go.ChangeAt Go.RowKit
set_option maxRecDepth 100000

theorem refSize_any (s : Int) (hs : 0 ≤ s) (hm : s < 64) (w : World) :
    Calls Tryd.prog 78 #[.int .i64 s] w fun e w' => e = .returned (.int .i64 (pcN s)) ∧ w = w' := by
  have HE : Hid (pcTo s 6 = pcN s) := pcTo_six s hs hm
  go_enter Tryd.func78, Tryd.ntmps78
  go_wp2
  go_loop [3, 4] (fun n i => ∃ k : Nat, k ≤ 6 ∧ i = .int .i64 k ∧ n = .int .i64 (pcTo s k)) (fun _ i => 6 - (intOf i).toNat)
  case atStart => exact ⟨0, Nat.zero_le _, rfl, rfl⟩
  case round =>
    obtain ⟨k, hk, rfl, rfl⟩ := hrel
    have p1 := pcTo_le s k
    by_cases hlt : k < 6
    · by_cases hh : hasB s k = true
      · have HS : Hid (pcTo s (k + 1) = pcTo s k + 1) := by unfold Hid; rw [pcTo, if_pos hh]
        go_wp2_with (go_at_call 52; refine (refHas_any _ _ hs ?_ ?_ _).mono ?_; omega; omega; rintro e w' ⟨rfl, rfl⟩)
        go_round
        case rel => exact ⟨k + 1, by omega, by go_num, by rw [HS.out]⟩
        case measure => simp [intOf]; omega
      · have hh' : hasB s k = false := by simpa using hh
        have HS : Hid (pcTo s (k + 1) = pcTo s k) := by unfold Hid; rw [pcTo, if_neg hh]; omega
        clear hh
        go_wp2_with (go_at_call 52; refine (refHas_any _ _ hs ?_ ?_ _).mono ?_; omega; omega; rintro e w' ⟨rfl, rfl⟩)
        go_round
        case rel => exact ⟨k + 1, by omega, by go_num, by rw [HS.out]⟩
        case measure => simp [intOf]; omega
    · obtain rfl : k = 6 := by omega
      go_wp2
      go_ret
      exact ⟨ret_i HE.out, rfl⟩
theorem in5 (x y : Bool) : inB 5 x y = (x || y) := rfl
theorem in6 (x y : Bool) : inB 6 x y = (x && y) := rfl
theorem in7 (x y : Bool) : inB 7 x y = (x && !y) := rfl
theorem in8 (x y : Bool) : inB 8 x y = !x := rfl

set_option maxHeartbeats 1000000 in
theorem refDo_any (what u a b : Int) (hl : 5 ≤ what) (hm : what ≤ 8) (ha : okB u a = true) (hb : okB u b = true) (w : World) :
    Calls Tryd.prog 79 #[.int .i64 what, .int .i64 u, .int .i64 a, .int .i64 b] w fun e w' => e = .returned (.int .i64 (doN what u a b)) ∧ w = w' := by
  obtain ⟨u0, u1, a0, a1⟩ := okB_lt ha
  obtain ⟨_, _, b0, b1⟩ := okB_lt hb
  have HE : Hid (doTo what a b u.toNat = doN what u a b) := doTo_do what u a b hl hm ha hb
  clear ha hb
  obtain ⟨n, rfl⟩ := Int.eq_ofNat_of_zero_le u0
  clear u0
  have hd : what = 5 ∨ what = 6 ∨ what = 7 ∨ what = 8 := by omega
  clear hl hm
  go_enter Tryd.func79, Tryd.ntmps79
  go_wp2
  go_loop [9, 10] (fun s i => ∃ k : Nat, k ≤ n ∧ i = .int .i64 k ∧ s = .int .i64 (doTo what a b k)) (fun _ i => n - (intOf i).toNat)
  case atStart => exact ⟨0, Nat.zero_le _, rfl, rfl⟩
  case round =>
    obtain ⟨k, hk, rfl, rfl⟩ := hrel
    have p1 := doTo_le what a b k
    by_cases hlt : k < n
    · have p2 := pw_le6 (k := k) (by omega)
      have p3 := pw_pos k
      have HS : Hid (doTo what a b (k + 1) = doTo what a b k + if inB what (hasB a k) (hasB b k) = true then pw k else 0) := rfl
      rcases hd with rfl | rfl | rfl | rfl
      all_goals
        cases hx : hasB a k <;> cases hy : hasB b k
        all_goals
          go_wp2_with (first | (go_at_call 52; refine (refHas_any _ _ ?_ ?_ ?_ _).mono ?_; omega; omega; omega; rintro e w' ⟨rfl, rfl⟩) | (go_at_call 53; refine (refPower_any _ ?_ _).mono ?_; omega; rintro e w' ⟨rfl, rfl⟩))
          go_round
          case rel => exact ⟨k + 1, by omega, by go_num, by rw [HS.out, hx, hy]; simp [in5, in6, in7, in8]⟩
          case measure => simp [intOf]; omega
    · obtain rfl : k = n := by omega
      go_wp2
      go_ret
      exact ⟨ret_i HE.out, rfl⟩
end Go.Proofs.YthddegjnaigepagDoor

namespace Go.Proofs.YthddegjnaigepagDoor
open Go.ChangeShapes Go.WideShapes Go.ChangeAt Go.RowKit
set_option maxRecDepth 100000

set_option maxRecDepth 100000 in
set_option maxHeartbeats 4000000 in
theorem refValue_any (t : List Int) (hf : faultN t = 0) (u a b c : Int) (hok : (Wd.mk u a b c).ok = true) (B off cap : Nat) (hcap : t.length ≤ cap) (w : World) (hL : Lies w B off t) :
    Calls Tryd.prog 77 #[.slice (some ⟨B, off, none⟩) t.length cap, .agg #[.int .i64 u, .int .i64 a, .int .i64 b, .int .i64 c]] w fun e w' => e = .returned (.int .i64 ((Wd.mk u a b c).val t)) ∧ Below w.heap.size w w' := by
  have hv := ok_val hok t
  simp only at hv
  obtain ⟨hu0, hu6, _, _⟩ := okB_lt hv
  have HS : Hid (sumTo ((Wd.mk u a b c).val t) u.toNat = (Wd.mk u a b c).val t) := sumTo_all hv
  have HIn : Hid (∀ i : Nat, (i : Int) < u → ∀ W, Below w.heap.size w W → Calls Tryd.prog 81 #[.slice (some ⟨B, off, none⟩) t.length cap, .agg #[.int .i64 u, .int .i64 a, .int .i64 b, .int .i64 c], .int .i64 i] W fun e w' => e = .returned (.bool (hasB ((Wd.mk u a b c).val t) i)) ∧ Below W.heap.size W w') := fun i hi W hb => In_any t hf i u a b c hok hi B off cap hcap W (hL.below hb)
  obtain ⟨V, hV⟩ : ∃ V, V = (Wd.mk u a b c).val t := ⟨_, rfl⟩
  rw [← hV] at HS HIn ⊢
  obtain ⟨n, hn⟩ : ∃ n, n = t.length := ⟨_, rfl⟩
  rw [← hn] at HIn ⊢
  clear hV hn hv hL hcap hok hf
  obtain ⟨U, rfl⟩ := Int.eq_ofNat_of_zero_le hu0
  rw [Int.toNat_natCast] at HS
  clear hu0
  obtain ⟨w1, hw1⟩ : ∃ w1, w1 = w.alloc (.cells #[.int .i64 (U : Int), .int .i64 a, .int .i64 b, .int .i64 c] 37) := ⟨_, rfl⟩
  have HX : Hid (∀ W, Below w1.heap.size w1 W → W.cell? ⟨w.heap.size, 0, none⟩ = some (.int .i64 (U : Int)) ∧ W.cell? ⟨w.heap.size, 1, none⟩ = some (.int .i64 a) ∧ W.cell? ⟨w.heap.size, 2, none⟩ = some (.int .i64 b) ∧ W.cell? ⟨w.heap.size, 3, none⟩ = some (.int .i64 c)) := fun W hc => by
    have hlt : w.heap.size < w1.heap.size := by rw [hw1]; simp
    rw [hc.cell (p := ⟨w.heap.size, 0, none⟩) hlt, hc.cell (p := ⟨w.heap.size, 1, none⟩) hlt, hc.cell (p := ⟨w.heap.size, 2, none⟩) hlt, hc.cell (p := ⟨w.heap.size, 3, none⟩) hlt, hw1]
    simp
  have HW : Hid (Below w.heap.size w w1 ∧ w.heap.size ≤ w1.heap.size) := by
    refine ⟨?_, ?_⟩
    · rw [hw1]; exact below_alloc1 _ _
    · rw [hw1]; simp
  go_enter Tryd.func77, Tryd.ntmps77
  go_wp2
  rw [← hw1]
  clear hw1
  go_loopw [5, 6] (fun s i wr => ∃ k : Nat, k ≤ U ∧ i = .int .i64 k ∧ s = .int .i64 (sumTo V k) ∧ Below w1.heap.size w1 wr) (fun _ i _ => U - (intOf i).toNat)
  case atStart => exact ⟨0, Nat.zero_le _, rfl, rfl, Below.refl _ _⟩
  case round =>
    obtain ⟨k, hk, rfl, rfl, hbel⟩ := hrel
    obtain ⟨x0, x1, x2, x3⟩ := HX.out _ hbel
    have HB : Hid (Below w1.heap.size w1 wr) := hbel
    have HB0 : Hid (Below w.heap.size w wr) := HW.out.1.trans (hbel.mono HW.out.2)
    clear hbel
    have p1 := sumTo_le V k
    by_cases hlt : k < U
    · have p2 := pw_le6 (k := k) (by omega)
      have p3 := pw_pos k
      have HI := HIn.out k (by omega) wr HB0.out
      have HI' : Hid (Calls Tryd.prog 81 #[.slice (some ⟨B, off, none⟩) n cap, .agg #[.int .i64 (U : Int), .int .i64 a, .int .i64 b, .int .i64 c], .int .i64 k] wr fun e w' => e = .returned (.bool (hasB V k)) ∧ Below wr.heap.size wr w') := HI
      clear HI
      have HT : Hid (sumTo V (k + 1) = sumTo V k + if hasB V k = true then pw k else 0) := rfl
      cases hx : hasB V k
      · rw [hx] at HI'
        have HE : Hid (sumTo V (k + 1) = sumTo V k) := by unfold Hid; rw [HT.out, hx]; simp
        clear hx HT
        go_wp2_with (go_at_call 81; refine HI'.out.mono ?_; rintro e w2 ⟨rfl, hb⟩)
        go_roundw
        case rel => exact ⟨k + 1, by omega, by go_num, by rw [HE.out], HB.out.trans (hb.mono HB.out.size)⟩
        case measure => simp [intOf]; omega
      · rw [hx] at HI'
        have HE : Hid (sumTo V (k + 1) = sumTo V k + pw k) := by unfold Hid; rw [HT.out, hx]; simp
        clear hx HT
        go_wp2_with (first | (go_at_call 81; refine HI'.out.mono ?_; rintro e w2 ⟨rfl, hb⟩) | (go_at_call 53; refine (refPower_any _ ?_ _).mono ?_; omega; rintro e w' ⟨rfl, rfl⟩))
        go_roundw
        case rel => exact ⟨k + 1, by omega, by go_num, by rw [HE.out], HB.out.trans (hb.mono HB.out.size)⟩
        case measure => simp [intOf]; omega
    · obtain rfl : k = U := by omega
      go_wp2
      go_ret
      exact ⟨back_i HS.out, HB0.out⟩
end Go.Proofs.YthddegjnaigepagDoor
