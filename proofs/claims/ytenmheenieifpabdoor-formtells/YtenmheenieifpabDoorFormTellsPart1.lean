/-
  Plain facts on a row of signs as one formula, by how deep it is: a right formula is one, and what it holds is made of what its parts hold. No program is read here.
  Proved: what vennref1.Form returns, of any formula; what was in memory is as it was (a contract that the statements lean on).
  Proved: what the reference's is and True return, of a right formula and a right world; what was in memory is as it was (contracts that the statements lean on).
  Proved: what the reference's is and True return, of a right formula and a right world; what was in memory is as it was (contracts that the statements lean on).
-/
import Derived.Test.YtenmheenieifpabDoorFormMath
import Derived.Test.YtenmheenieifpabDoorFormCheck2
import Derived.Test.YtenmheenieifpabDoorAtomRef
import Derived.Test.YtenmheenieifpabDoorTermIn
import Derived.Test.YtenmheenieifpabDoorAtomRefHolds
import Derived.Deep.RegionWith
import Derived.Deep.Cut
import Derived.Deep.CutRange
namespace Go.Proofs.YtenmheenieifpabDoor
open Go.RowKit

/-- a row of signs that is one formula over m atoms, of depth at most n. -/
def isFm (m : Nat) : Nat → List Int → Prop
  | 0, _ => False
  | n + 1, q => (∃ s : Int, 0 ≤ s ∧ s < m ∧ q = [s]) ∨ (∃ t, isFm m n t ∧ q = t ++ [12]) ∨ (∃ (s : Int) (a b : List Int), (s = 10 ∨ s = 11 ∨ s = 13) ∧ isFm m n a ∧ isFm m n b ∧ q = a ++ (b ++ [s]))
theorem isFm_mono {m n : Nat} : ∀ {k : Nat} {q : List Int}, n ≤ k → isFm m n q → isFm m k q := by
  induction n with
  | zero => intro k q _ h; exact h.elim
  | succ n ih =>
    intro k q hk h
    obtain ⟨j, rfl⟩ : ∃ j, k = j + 1 := ⟨k - 1, by omega⟩
    rcases h with ⟨s, h0, h4, e⟩ | ⟨t, ht, e⟩ | ⟨s, a, b, h5, ha, hb, e⟩
    · exact Or.inl ⟨s, h0, h4, e⟩
    · exact Or.inr (Or.inl ⟨t, ih (by omega) ht, e⟩)
    · exact Or.inr (Or.inr ⟨s, a, b, h5, ih (by omega) ha, ih (by omega) hb, e⟩)
/-- a row of right signs is as many formulas as it makes. -/
theorem treesF (m : Nat) (t : List Int) (ht : ∀ s ∈ t, signF m s = true) (ts : List (List Int)) (hts : ∀ q ∈ ts, ∃ n, isFm m n q) {n : Int} (h : cntF t ts.length = some n) :
    ∃ ts' : List (List Int), (ts'.length : Int) = n ∧ (∀ q ∈ ts', ∃ n, isFm m n q) ∧ ts'.flatten = ts.flatten ++ t := by
  induction t generalizing ts with
  | nil => simp [cntF] at h; exact ⟨ts, h, hts, by simp⟩
  | cons s l ih =>
    have hs := signF_iff.1 (ht s (by simp))
    have hl : ∀ x ∈ l, signF m x = true := fun x hx => ht x (by simp [hx])
    unfold cntF at h
    split at h
    · cases h
    · rename_i hn
      by_cases h2 : s = 10 ∨ s = 11 ∨ s = 13
      · have e : takesF s = 2 := by unfold takesF; rw [if_pos h2]
        rw [e] at h hn
        obtain ⟨ts0, a, b, rfl⟩ : ∃ ts0 a b, ts = ts0 ++ [a, b] := by
          rcases List.eq_nil_or_concat ts with rfl | ⟨x, y, rfl⟩
          · simp at hn
          · rcases List.eq_nil_or_concat x with rfl | ⟨x', z, rfl⟩
            · simp at hn
            · exact ⟨x', z, y, by simp⟩
        obtain ⟨ts', h1, h2', h3⟩ := ih hl (ts0 ++ [a ++ (b ++ [s])]) (by
          intro q hq
          rcases List.mem_append.1 hq with hq | hq
          · exact hts q (by simp [hq])
          · rw [List.mem_singleton.1 hq]
            obtain ⟨k, hk⟩ := hts a (by simp)
            obtain ⟨j, hj⟩ := hts b (by simp)
            exact ⟨k + j + 1, Or.inr (Or.inr ⟨s, a, b, h2, isFm_mono (by omega) hk, isFm_mono (by omega) hj, rfl⟩)⟩) (by rw [← h]; simp; congr 1; omega)
        exact ⟨ts', h1, h2', by rw [h3]; simp⟩
      by_cases h8 : s = 12
      · subst h8
        have e : takesF 12 = 1 := by decide
        rw [e] at h hn
        obtain ⟨ts0, a, rfl⟩ : ∃ ts0 a, ts = ts0 ++ [a] := by
          rcases List.eq_nil_or_concat ts with rfl | ⟨x, y, rfl⟩
          · simp at hn
          · exact ⟨x, y, by simp⟩
        obtain ⟨ts', h1, h2', h3⟩ := ih hl (ts0 ++ [a ++ [12]]) (by
          intro q hq
          rcases List.mem_append.1 hq with hq | hq
          · exact hts q (by simp [hq])
          · rw [List.mem_singleton.1 hq]
            obtain ⟨k, hk⟩ := hts a (by simp)
            exact ⟨k + 1, Or.inr (Or.inl ⟨a, hk, rfl⟩)⟩) (by rw [← h]; simp)
        exact ⟨ts', h1, h2', by rw [h3]; simp⟩
      · have e : takesF s = 0 := by unfold takesF; rw [if_neg h2, if_neg h8]
        rw [e] at h
        have hs' : 0 ≤ s ∧ s < m := hs.resolve_left (by simp [e])
        obtain ⟨ts', h1, h2', h3⟩ := ih hl (ts ++ [[s]]) (by
          intro q hq
          rcases List.mem_append.1 hq with hq | hq
          · exact hts q hq
          · rw [List.mem_singleton.1 hq]; exact ⟨1, Or.inl ⟨s, hs'.1, hs'.2, rfl⟩⟩) (by rw [← h]; simp)
        exact ⟨ts', h1, h2', by rw [h3]; simp⟩
/-- a right formula is one. -/
theorem treeF {m : Nat} {t : List Int} (hs : t.all (signF m) = true) (h : cntF t 0 = some 1) : ∃ n, isFm m n t := by
  obtain ⟨ts, h1, h2, h3⟩ := treesF m t (List.all_eq_true.1 hs) [] (by intro q hq; cases hq) h
  match ts, h1 with
  | [q], _ =>
    have e : q = t := by simpa using h3
    rw [← e]; exact h2 q (by simp)
  | [], h1 => simp at h1
  | _ :: _ :: _, h1 => simp at h1; omega
/-- one formula counts one. -/
theorem cnt_fm {m : Nat} (hm : m ≤ 6) (n : Nat) : ∀ q, isFm m n q → cntF q 0 = some 1 := by
  induction n with
  | zero => intro q h; exact h.elim
  | succ n ih =>
    intro q h
    rcases h with ⟨s, h0, h4, rfl⟩ | ⟨t, ht, rfl⟩ | ⟨s, a, b, h5, ha, hb, rfl⟩
    · have e : takesF s = 0 := takesF_low (by omega)
      simp [cntF, e]
    · exact cnt_no (ih t ht)
    · have e : takesF s = 2 := by unfold takesF; rw [if_pos h5]
      rw [cntF_append, ih a ha]
      show cntF (b ++ [s]) 1 = _
      rw [cntF_append, show cntF b 1 = some 2 from cntF_more b 0 1 (ih b hb)]
      simp [cntF, e]
def boolF (s : Int) (x y : Bool) : Bool := if s = 10 then x && y else if s = 11 then x || y else !x || y
theorem valF_leaf (held : List Bool) {s : Int} (h : s < 10) : valF held [s] = held.getD s.toNat false := by
  have e := takesF_low h
  have : pileF held [s] [] = [held.getD s.toNat false] := by
    show stepF held [] s = _
    unfold stepF
    rw [madeF_leaf held e]
    simp [restF]
  rw [valF, this]; rfl
theorem valF_two (held : List Bool) {s : Int} (h : s = 10 ∨ s = 11 ∨ s = 13) {a b : List Int} (ha : cntF a 0 = some 1) (hb : cntF b 0 = some 1) : valF held (a ++ (b ++ [s])) = boolF s (valF held a) (valF held b) := by
  have : pileF held (a ++ (b ++ [s])) [] = [boolF s (valF held a) (valF held b)] := by
    rw [pileF_append, pileF_one held ha, pileF_append, pileF_one held hb]
    rcases h with rfl | rfl | rfl <;> rfl
  rw [valF, this]; rfl
end Go.Proofs.YtenmheenieifpabDoor

namespace Go.Proofs.YtenmheenieifpabDoor
open Go.ChangeShapes Go.WideShapes Go.ChangeAt Go.RowKit
set_option maxRecDepth 100000

theorem signF_ref {m : Nat} (hm : m ≤ 6) {s : Int} : signF m s = true ↔ ¬ (s < 0 ∨ 13 < s ∨ (s < 10 ∧ (m : Int) ≤ s)) := by
  rw [signF_iff]
  unfold takesF
  constructor
  · rintro (h | h)
    · split at h
      · omega
      · split at h <;> omega
    · omega
  · intro h
    by_cases h1 : s < 10
    · right; omega
    · left
      split
      · omega
      · rw [if_pos (by omega)]; omega
theorem takesF_high {s : Int} (h0 : ¬ s < 10) (h1 : ¬ 13 < s) : takesF s = if s = 12 then 1 else 2 := by
  unfold takesF
  by_cases h : s = 12
  · rw [if_neg (by omega), if_pos h, if_pos h]
  · rw [if_pos (by omega), if_neg h]
theorem all_step {m : Nat} {t : List Int} {k : Nat} (h : k < t.length) (ha : (t.take k).all (signF m) = true) (hs : signF m (t.getD k 0) = true) : (t.take (k + 1)).all (signF m) = true := by
  rw [takeF_succ t h, List.all_append, ha]
  simp only [List.all_cons, List.all_nil, Bool.and_true, Bool.true_and]
  exact hs
theorem all_stop {m : Nat} {t : List Int} {k : Nat} (h : k < t.length) (hs : ¬ signF m (t.getD k 0) = true) : ¬ t.all (signF m) = true := by
  intro ha
  apply hs
  have := List.all_eq_true.1 ha (t.getD k 0) (by simp [List.getElem?_eq_getElem h])
  exact this
theorem refForm_none (ao co : Option Addr) (m n acap ccap : Nat) (w : World) (h0 : m = 0 ∨ n = 0) :
    Calls Tryd.prog 11 #[.agg #[.slice ao m acap, .slice co n ccap]] w fun e w' => e = .returned (.int .i64 5) ∧ Below w.heap.size w w' := by
  by_cases hm : m = 0
  · subst hm
    go_enter Tryd.func11, Tryd.ntmps11
    go_wp2
    go_ret
    exact ⟨rfl, below_alloc1 _ _⟩
  · obtain rfl : n = 0 := by omega
    have hm' : ((m : Int) == 0) = false := by simp; omega
    go_enter Tryd.func11, Tryd.ntmps11
    go_wp2
    go_ret
    exact ⟨rfl, below_alloc1 _ _⟩
theorem refForm_full (ao co : Option Addr) (m n acap ccap : Nat) (w : World) (h0 : ¬ (m = 0 ∨ n = 0)) (h1 : 6 < m ∨ 20 < n) :
    Calls Tryd.prog 11 #[.agg #[.slice ao m acap, .slice co n ccap]] w fun e w' => e = .returned (.int .i64 4) ∧ Below w.heap.size w w' := by
  have hm' : ((m : Int) == 0) = false := by simp; omega
  have hn' : ((n : Int) == 0) = false := by simp; omega
  by_cases hm : 6 < m
  · have h : 6 < (m : Int) := by omega
    go_enter Tryd.func11, Tryd.ntmps11
    go_wp2
    go_ret
    exact ⟨rfl, below_alloc1 _ _⟩
  · have h : ¬ 6 < (m : Int) := by omega
    have h2 : 20 < (n : Int) := by omega
    go_enter Tryd.func11, Tryd.ntmps11
    go_wp2
    go_ret
    exact ⟨rfl, below_alloc1 _ _⟩
theorem refForm_rest (ao co : Option Addr) (acap ccap : Nat) (ats : List At) (c : List Int) (w : World) (hA : ReadsA w (.slice ao ats.length acap) ats) (hC : Reads w (.slice co c.length ccap) c) (h0 : ¬ (ats.length = 0 ∨ c.length = 0)) (h1 : ¬ (6 < ats.length ∨ 20 < c.length)) :
    Calls Tryd.prog 11 #[.agg #[.slice ao ats.length acap, .slice co c.length ccap]] w fun e w' => e = .returned (.int .i64 (formFault ats c)) ∧ Below w.heap.size w w' := by
  obtain ⟨w1, hw1⟩ : ∃ w1, w1 = w.alloc (.cells #[.slice ao ats.length acap, .slice co c.length ccap] 40) := ⟨_, rfl⟩
  have HB1 : Hid (Below w.heap.size w w1) := by unfold Hid; rw [hw1]; exact below_alloc1 w _
  have HS1 : Hid (w1.heap.size = w.heap.size + 1) := by unfold Hid; rw [hw1]; simp
  have HX : Hid (w1.cell? ⟨w.heap.size, 0, none⟩ = some (.slice ao ats.length acap) ∧ w1.cell? ⟨w.heap.size, 1, none⟩ = some (.slice co c.length ccap)) := by
    unfold Hid; rw [hw1]; simp
  have HA : Hid (ReadsA w1 (.slice ao ats.length acap) ats) := hA.below HB1.out
  have HC : Hid (Reads w1 (.slice co c.length ccap) c) := hC.below HB1.out
  clear hA hC
  have HF : Hid (formFault ats c = if firstFault ats = 0 then (if c.all (signF ats.length) = true then (if cntF c 0 = some 1 then 0 else 3) else 1) else firstFault ats) := by
    unfold Hid formFault; rw [if_neg h0, if_neg h1]
  obtain ⟨m, hm⟩ : ∃ m, m = ats.length := ⟨_, rfl⟩
  obtain ⟨n, hn⟩ : ∃ n, n = c.length := ⟨_, rfl⟩
  rw [← hm] at h0 h1 hw1 HX HA HF ⊢
  rw [← hn] at h0 h1 hw1 HX HC ⊢
  have HM : Hid (m = ats.length) := hm
  have HN : Hid (n = c.length) := hn
  clear hm hn
  have hm' : ((m : Int) == 0) = false := by simp; omega
  have hn' : ((n : Int) == 0) = false := by simp; omega
  have hm6 : m ≤ 6 := by omega
  have hn20 : n ≤ 20 := by omega
  have hm6' : ¬ 6 < (m : Int) := by omega
  have hn20' : ¬ 20 < (n : Int) := by omega
  clear h0 h1
  go_enter Tryd.func11, Tryd.ntmps11
  go_wp2
  rw [← hw1]
  clear hw1
  go_loopw [3] (fun i wr => ∃ k : Nat, k ≤ m ∧ i = .int .i64 k ∧ Below w1.heap.size w1 wr ∧ firstFault (ats.drop k) = firstFault ats) (fun i _ => m - (intOf i).toNat)
  case atStart => exact ⟨0, Nat.zero_le _, rfl, Below.refl _ _, rfl⟩
  case round =>
    obtain ⟨k, hk, rfl, hbel, hff⟩ := hrel
    have HF0 : Hid (firstFault (ats.drop k) = firstFault ats) := hff
    have HB : Hid (Below w1.heap.size w1 wr) := hbel
    clear hff hbel
    have hlt0 : w.heap.size < w1.heap.size := by have := HS1.out; omega
    have y0 : wr.cell? ⟨w.heap.size, 0, none⟩ = some (.slice ao m acap) := by rw [HB.out.cell hlt0]; exact HX.out.1
    have y1 : wr.cell? ⟨w.heap.size, 1, none⟩ = some (.slice co n ccap) := by rw [HB.out.cell hlt0]; exact HX.out.2
    clear hlt0
    by_cases hlt : k < m
    · obtain ⟨a, ha⟩ : ∃ a, ats[k]? = some a := ⟨_, List.getElem?_eq_getElem (by have := HM.out; omega)⟩
      have HFF : Hid (firstFault ats = if a.fault = 0 then firstFault (ats.drop (k + 1)) else a.fault) := by
        unfold Hid; rw [← HF0.out, firstFault_drop ats ha]
      rcases HA.out.below HB.out with ⟨_, _, hv, hn⟩ | ⟨b, off, cap, hv, hb, _, _, hall⟩
      · have := HM.out; rw [hn] at this; simp at this; omega
      obtain rfl : ao = some ⟨b, off, none⟩ := by cases hv; rfl
      obtain ⟨vs, vt, c0, c1, c2, c3, r1, r2⟩ := hall k a ha
      obtain ⟨sao, scap, rfl, _⟩ := r1.slice
      obtain ⟨tao, tcap, rfl, _⟩ := r2.slice
      clear hv hall
      have HCk : Hid (Calls Tryd.prog 31 #[.agg #[.int .i64 a.k, .slice sao a.s.length scap, .slice tao a.t.length tcap, .int .i64 a.n]] wr fun e w' => e = .returned (.int .i64 a.fault) ∧ Below wr.heap.size wr w') :=
        refAtom_any a.k a.n _ _ a.s a.t wr r1 r2
      clear r1 r2
      go_wp2_with fail
      go_at_call 31
      refine HCk.out.mono ?_
      rintro e w3 ⟨rfl, hb3⟩
      have HB3 : Hid (Below w1.heap.size w1 w3) := HB.out.trans (hb3.mono HB.out.size)
      clear hb3 HCk
      by_cases hf : a.fault = 0
      · have HD : Hid (firstFault (ats.drop (k + 1)) = firstFault ats) := by
          have := HFF.out
          rw [if_pos hf] at this
          exact this.symm
        rw [hf]
        go_wp2
        go_roundw
        case rel => exact ⟨k + 1, by omega, by go_num, HB3.out, HD.out⟩
        case measure => simp [intOf]; omega
      · have HE : Hid (formFault ats c = a.fault) := by
          have := HFF.out
          rw [if_neg hf] at this
          unfold Hid; rw [HF.out, this, if_neg hf]
        have hf' : (a.fault != 0) = true := by simpa using hf
        go_wp2
        go_ret
        exact ⟨back_v (by rw [HE.out]; rfl), HB1.out.trans (HB3.out.mono HB1.out.size)⟩
    · have HE : Hid (firstFault ats = 0) := by
        have := HF0.out
        rw [List.drop_eq_nil_of_le (by have := HM.out; omega)] at this
        exact this.symm
      have HF2 : Hid (formFault ats c = if c.all (signF m) = true then (if cntF c 0 = some 1 then 0 else 3) else 1) := by
        unfold Hid; rw [HF.out, HE.out]; simp only [if_true]
      have HEnd : Hid (Below w.heap.size w wr) := HB1.out.trans (HB.out.mono HB1.out.size)
      rcases HC.out.below HB.out with ⟨_, _, hv, hcn⟩ | ⟨b, off, cap, hv, hb, _, ⟨hl63, _⟩, hc⟩
      · have := HN.out; rw [hcn] at this; simp at this; subst this; simp at hn'
      obtain rfl : co = some ⟨b, off, none⟩ := by cases hv; rfl
      have HCe : Hid (∀ j, j < c.length → wr.cell? ⟨b, off + j, none⟩ = some (.int .i64 (c.getD j 0))) := hc
      clear hv hc hl63 hb
      go_wp2
      go_loop [5] (fun i => ∃ k : Nat, k ≤ n ∧ i = .int .i64 k ∧ (c.take k).all (signF m) = true) (fun i => n - (intOf i).toNat)
      case atStart => exact ⟨0, Nat.zero_le _, rfl, rfl⟩
      case round =>
        obtain ⟨j, hj, rfl, hall⟩ := hrel
        have HAl : Hid ((c.take j).all (signF m) = true) := hall
        clear hall
        by_cases hjn : j < n
        · obtain ⟨s, hs⟩ : ∃ s, s = c.getD j 0 := ⟨_, rfl⟩
          have hjc : j < c.length := by have := HN.out; omega
          have hc := HCe.out j hjc
          rw [← hs] at hc
          by_cases hg : signF m s = true
          · have HD : Hid ((c.take (j + 1)).all (signF m) = true) := all_step hjc HAl.out (by rw [← hs]; exact hg)
            have hb := (signF_ref hm6).1 hg
            have b1 : ¬ s < 0 := by omega
            have b2 : ¬ 13 < s := by omega
            clear hs hg
            by_cases b3 : s < 10
            · have b4 : ¬ (m : Int) ≤ s := by omega
              clear hb
              go_wp2
              go_round
              case rel => exact ⟨j + 1, by omega, by go_num, HD.out⟩
              case measure => simp [intOf]; omega
            · clear hb
              go_wp2
              go_round
              case rel => exact ⟨j + 1, by omega, by go_num, HD.out⟩
              case measure => simp [intOf]; omega
          · have HD : Hid (formFault ats c = 1) := by
              have := all_stop (m := m) hjc (by rw [← hs]; exact hg)
              unfold Hid; rw [HF2.out, if_neg this]
            have hb : s < 0 ∨ 13 < s ∨ (s < 10 ∧ (m : Int) ≤ s) := by
              by_cases h : s < 0 ∨ 13 < s ∨ (s < 10 ∧ (m : Int) ≤ s)
              · exact h
              · exact absurd ((signF_ref hm6).2 h) hg
            clear hs hg
            by_cases b1 : s < 0
            · clear hb
              go_wp2
              go_ret
              exact ⟨back_v (by rw [HD.out]; rfl), HEnd.out⟩
            · by_cases b2 : 13 < s
              · clear hb
                go_wp2
                go_ret
                exact ⟨back_v (by rw [HD.out]; rfl), HEnd.out⟩
              · have b3 : s < 10 := by omega
                have b4 : (m : Int) ≤ s := by omega
                clear hb
                go_wp2
                go_ret
                exact ⟨back_v (by rw [HD.out]; rfl), HEnd.out⟩
        · have HD : Hid (c.all (signF m) = true) := by
            have := HAl.out
            rw [List.take_of_length_le (by have := HN.out; omega)] at this
            exact this
          have HF3 : Hid (formFault ats c = if cntF c 0 = some 1 then 0 else 3) := by
            unfold Hid; rw [HF2.out, if_pos HD.out]
          go_wp2
          go_loop [7, 8] (fun q i => ∃ (k : Nat) (z : Int), k ≤ n ∧ i = .int .i64 k ∧ q = .int .i64 z ∧ cntF (c.take k) 0 = some z) (fun _ i => n - (intOf i).toNat)
          case atStart => exact ⟨0, 0, Nat.zero_le _, rfl, rfl, rfl⟩
          case round =>
            obtain ⟨i, z, hi, rfl, rfl, hz⟩ := hrel
            have HZ : Hid (cntF (c.take i) 0 = some z) := hz
            have hz0 : 0 ≤ z ∧ z ≤ 20 := by
              have := cntF_nonneg (Int.le_refl 0) hz
              simp at this
              omega
            clear hz
            by_cases hin : i < n
            · obtain ⟨s, hs⟩ : ∃ s, s = c.getD i 0 := ⟨_, rfl⟩
              have hic : i < c.length := by have := HN.out; omega
              have hc := HCe.out i hic
              rw [← hs] at hc
              have HZ1 : Hid (cntF (c.take (i + 1)) 0 = if z < takesF s then none else some (z + 1 - takesF s)) := by
                have := cntF_take_succ c hic HZ.out
                rw [← hs] at this; exact this
              have hg : signF m s = true := by
                have := List.all_eq_true.1 HD.out (c.getD i 0) (by simp [List.getElem?_eq_getElem hic])
                rw [← hs] at this; exact this
              have hb := (signF_ref hm6).1 hg
              clear hs hg
              by_cases b3 : s < 10
              · have HE1 : Hid (cntF (c.take (i + 1)) 0 = some (z + 1)) := by
                  have := HZ1.out
                  rw [takesF_low b3, if_neg (by omega)] at this
                  unfold Hid; rw [this]; simp
                clear hb
                go_wp2
                go_round
                case rel => exact ⟨i + 1, _, by omega, by go_num, by go_num, HE1.out⟩
                case measure => simp [intOf]; omega
              · have hk := takesF_high b3 (show ¬ 13 < s by omega)
                by_cases b12 : s = 12
                · rw [if_pos b12] at hk
                  have hq : (s != 12) = false := by simpa using b12
                  by_cases hlow : z < 1
                  · have HE1 : Hid (formFault ats c = 3) := by
                      have := HZ1.out
                      rw [hk, if_pos hlow] at this
                      unfold Hid; rw [HF3.out, cntF_take_none c _ this]; simp
                    clear hb hk b12
                    go_wp2
                    go_ret
                    exact ⟨back_v (by rw [HE1.out]; rfl), HEnd.out⟩
                  · have HE1 : Hid (cntF (c.take (i + 1)) 0 = some z) := by
                      have := HZ1.out
                      rw [hk, if_neg hlow] at this
                      unfold Hid; rw [this]; simp
                    clear hb hk b12
                    go_wp2
                    go_round
                    case rel => exact ⟨i + 1, _, by omega, by go_num, rfl, HE1.out⟩
                    case measure => simp [intOf]; omega
                · rw [if_neg b12] at hk
                  have hq : (s != 12) = true := by simpa using b12
                  by_cases hlow : z < 2
                  · have HE1 : Hid (formFault ats c = 3) := by
                      have := HZ1.out
                      rw [hk, if_pos hlow] at this
                      unfold Hid; rw [HF3.out, cntF_take_none c _ this]; simp
                    clear hb hk b12
                    by_cases h1 : z < 1
                    · go_wp2
                      go_ret
                      exact ⟨back_v (by rw [HE1.out]; rfl), HEnd.out⟩
                    · go_wp2
                      go_ret
                      exact ⟨back_v (by rw [HE1.out]; rfl), HEnd.out⟩
                  · have HE1 : Hid (cntF (c.take (i + 1)) 0 = some (z - 1)) := by
                      have := HZ1.out
                      rw [hk, if_neg hlow] at this
                      unfold Hid; rw [this]; congr 1; omega
                    have h1 : ¬ z < 1 := by omega
                    clear hb hk b12
                    go_wp2
                    go_round
                    case rel => exact ⟨i + 1, _, by omega, by go_num, by go_num, HE1.out⟩
                    case measure => simp [intOf]; omega
            · have HZ2 : Hid (cntF c 0 = some z) := by
                have := HZ.out
                rw [List.take_of_length_le (by have := HN.out; omega)] at this
                exact this
              by_cases h1 : z = 1
              · have HE1 : Hid (formFault ats c = 0) := by unfold Hid; rw [HF3.out, HZ2.out, h1]; rfl
                subst h1
                go_wp2
                go_ret
                exact ⟨back_v (by rw [HE1.out]; rfl), HEnd.out⟩
              · have HE1 : Hid (formFault ats c = 3) := by
                  unfold Hid; rw [HF3.out, HZ2.out, if_neg (by simpa using h1)]
                have h1' : (z != 1) = true := by simpa using h1
                go_wp2
                go_ret
                exact ⟨back_v (by rw [HE1.out]; rfl), HEnd.out⟩
/-- vennref1.Form, of any formula. -/
theorem refForm_any (va vc : Value) (ats : List At) (c : List Int) (w : World) (hA : ReadsA w va ats) (hC : Reads w vc c) :
    Calls Tryd.prog 11 #[.agg #[va, vc]] w fun e w' => e = .returned (.int .i64 (formFault ats c)) ∧ Below w.heap.size w w' := by
  obtain ⟨ao, acap, rfl, _⟩ := hA.slice
  obtain ⟨co, ccap, rfl, _⟩ := hC.slice
  by_cases h0 : ats.length = 0 ∨ c.length = 0
  · have e : formFault ats c = 5 := by unfold formFault; rw [if_pos h0]
    rw [e]
    exact refForm_none ao co _ _ acap ccap w h0
  by_cases h1 : 6 < ats.length ∨ 20 < c.length
  · have e : formFault ats c = 4 := by unfold formFault; rw [if_neg h0, if_pos h1]
    rw [e]
    exact refForm_full ao co _ _ acap ccap w h0 h1
  exact refForm_rest ao co acap ccap ats c w hA hC h0 h1
end Go.Proofs.YtenmheenieifpabDoor

namespace Go.Proofs.YtenmheenieifpabDoor
open Go.ChangeShapes Go.WideShapes Go.ChangeAt Go.RowKit
set_option maxRecDepth 100000

set_option maxHeartbeats 4000000 in
theorem is_leaf (s : Int) (h0 : 0 ≤ s) (x : Bool) (at0 : At) (ats : List At) (ao co : Option Addr) (m n acap ccap : Nat) (hm : m = ats.length) (hsm : s < m) (hm6 : m ≤ 6) (hat : ats[s.toNat]? = some at0) (k B off cap : Nat) (u a b c : Int) (w : World) (hcap : k + 1 ≤ cap) (hk : k ≤ 20) (hB : B < w.heap.size) (hc : w.cell? ⟨B, off + k, none⟩ = some (.int .i64 s)) (hA : ReadsA w (.slice ao m acap) ats)
    (hH : ∀ W vs vt, Reads W vs at0.s → Reads W vt at0.t → Calls Tryd.prog 60 #[.agg #[.int .i64 at0.k, vs, vt, .int .i64 at0.n], .agg #[.int .i64 u, .int .i64 a, .int .i64 b, .int .i64 c]] W fun e w' => e = .returned (.bool x) ∧ Below W.heap.size W w') :
    Calls Tryd.prog 38 #[.agg #[.slice ao m acap, .slice co n ccap], .slice (some ⟨B, off, none⟩) (k + 1) cap, .agg #[.int .i64 u, .int .i64 a, .int .i64 b, .int .i64 c]] w fun e w' => e = .returned (.tuple #[.bool x, .slice (some ⟨B, off, none⟩) k cap]) ∧ Below w.heap.size w w' := by
  obtain ⟨w1, hw1⟩ : ∃ w1, w1 = (w.alloc (.cells #[.slice ao m acap, .slice co n ccap] 40)).alloc (.cells #[.int .i64 u, .int .i64 a, .int .i64 b, .int .i64 c] 25) := ⟨_, rfl⟩
  have HB1 : Hid (Below w.heap.size w w1) := by unfold Hid; rw [hw1]; exact (below_alloc1 _ _).trans ((below_alloc1 _ _).mono (by simp))
  have d0 : w1.cell? ⟨B, off + k, none⟩ = some (.int .i64 s) := (HB1.out.cell hB).trans hc
  obtain ⟨sn, rfl⟩ := Int.eq_ofNat_of_zero_le h0
  have hsn : sn < m := by omega
  rcases hA.below HB1.out with ⟨_, _, hv, hn⟩ | ⟨b1, off1, cap1, hv, hb, _, _, hall⟩
  · rw [hn] at hm; simp at hm; omega
  obtain rfl : ao = some ⟨b1, off1, none⟩ := by cases hv; rfl
  obtain ⟨vs, vt, c0, c1, c2, c3, r1, r2⟩ := hall sn at0 (by simpa using hat)
  have HH : Hid (∀ W, Below w1.heap.size w1 W → Calls Tryd.prog 60 #[.agg #[.int .i64 at0.k, vs, vt, .int .i64 at0.n], .agg #[.int .i64 u, .int .i64 a, .int .i64 b, .int .i64 c]] W fun e w' => e = .returned (.bool x) ∧ Below W.heap.size W w') := fun W h => hH W vs vt (r1.below h) (r2.below h)
  obtain ⟨sao, scap, rfl, _⟩ := r1.slice
  obtain ⟨tao, tcap, rfl, _⟩ := r2.slice
  clear hv hall hA hH r1 r2 hc hat hb hm
  have hlt10 : (sn : Int) < 10 := by omega
  have hle : (k : Int) ≤ (cap : Int) := by omega
  have hsi : (sn : Int) < (m : Int) := by omega
  have e0 : w1.cell? ⟨w.heap.size, 0, none⟩ = some (.slice (some ⟨b1, off1, none⟩) m acap) := by
    rw [hw1, World.cell?_alloc_lt _ _ ⟨w.heap.size, 0, none⟩ (by simp)]; simp
  obtain ⟨e1, e2, e3, e4⟩ : w1.cell? ⟨w.heap.size + 1, 0, none⟩ = some (.int .i64 u) ∧ w1.cell? ⟨w.heap.size + 1, 1, none⟩ = some (.int .i64 a) ∧ w1.cell? ⟨w.heap.size + 1, 2, none⟩ = some (.int .i64 b) ∧ w1.cell? ⟨w.heap.size + 1, 3, none⟩ = some (.int .i64 c) := by
    rw [hw1]
    have q : w.heap.size + 1 = (w.alloc (.cells #[.slice (some ⟨b1, off1, none⟩) m acap, .slice co n ccap] 40)).heap.size := by simp
    rw [q]
    simp
  have d1 := d0
  rw [hw1] at d1
  go_enter Tryd.func38, Tryd.ntmps38
  go_wp2_with fail
  rw [← hw1]
  clear hw1 d1
  go_region_with (go_at_call 60; refine (HH.out _ (by first | exact Below.refl _ _ | exact below_drewNs _ _)).mono ?_; rintro e w2 ⟨rfl, hb⟩)
  all_goals
    go_wp2
    go_ret2
    exact ⟨rfl, HB1.out.trans (Below.mono (Below.trans (by first | exact Below.refl _ _ | exact below_drewNs _ _) (Below.mono hb (by first | exact Nat.le_refl _ | (have := (below_drewNs w1 _).size; assumption)))) HB1.out.size)⟩

set_option maxHeartbeats 4000000 in
/-- behind one call of itself. -/
theorem is_no (x : Bool) (ao co : Option Addr) (m n acap ccap : Nat) (k p B off cap : Nat) (u a b c : Int) (w : World) (hcap : k + 1 ≤ cap) (hk : k ≤ 20) (hB : B < w.heap.size) (hc : w.cell? ⟨B, off + k, none⟩ = some (.int .i64 12))
    (ih : ∀ W, Below w.heap.size w W → Calls Tryd.prog 38 #[.agg #[.slice ao m acap, .slice co n ccap], .slice (some ⟨B, off, none⟩) k cap, .agg #[.int .i64 u, .int .i64 a, .int .i64 b, .int .i64 c]] W fun e w' => e = .returned (.tuple #[.bool x, .slice (some ⟨B, off, none⟩) p cap]) ∧ Below W.heap.size W w') :
    Calls Tryd.prog 38 #[.agg #[.slice ao m acap, .slice co n ccap], .slice (some ⟨B, off, none⟩) (k + 1) cap, .agg #[.int .i64 u, .int .i64 a, .int .i64 b, .int .i64 c]] w fun e w' => e = .returned (.tuple #[.bool (!x), .slice (some ⟨B, off, none⟩) p cap]) ∧ Below w.heap.size w w' := by
  obtain ⟨w1, hw1⟩ : ∃ w1, w1 = (w.alloc (.cells #[.slice ao m acap, .slice co n ccap] 40)).alloc (.cells #[.int .i64 u, .int .i64 a, .int .i64 b, .int .i64 c] 25) := ⟨_, rfl⟩
  have HB1 : Hid (Below w.heap.size w w1) := by unfold Hid; rw [hw1]; exact (below_alloc1 _ _).trans ((below_alloc1 _ _).mono (by simp))
  have HS1 : Hid (w1.heap.size = w.heap.size + 2) := by unfold Hid; rw [hw1]; simp
  have HX : Hid (∀ W, Below w1.heap.size w1 W → (W.cell? ⟨w.heap.size, 0, none⟩ = some (.slice ao m acap) ∧ W.cell? ⟨w.heap.size, 1, none⟩ = some (.slice co n ccap)) ∧ (W.cell? ⟨w.heap.size + 1, 0, none⟩ = some (.int .i64 u) ∧ W.cell? ⟨w.heap.size + 1, 1, none⟩ = some (.int .i64 a) ∧ W.cell? ⟨w.heap.size + 1, 2, none⟩ = some (.int .i64 b) ∧ W.cell? ⟨w.heap.size + 1, 3, none⟩ = some (.int .i64 c))) := fun W hW => by
    have l0 : w.heap.size < w1.heap.size := by have := HS1.out; omega
    have l1 : w.heap.size + 1 < w1.heap.size := by have := HS1.out; omega
    have e0 : ∀ j, W.cell? ⟨w.heap.size, j, none⟩ = w1.cell? ⟨w.heap.size, j, none⟩ := fun j => hW.cell (show (⟨w.heap.size, j, none⟩ : Addr).block < _ from l0)
    have e1 : ∀ j, W.cell? ⟨w.heap.size + 1, j, none⟩ = w1.cell? ⟨w.heap.size + 1, j, none⟩ := fun j => hW.cell (show (⟨w.heap.size + 1, j, none⟩ : Addr).block < _ from l1)
    simp only [e0, e1]
    rw [hw1]
    have q : w.heap.size + 1 = (w.alloc (.cells #[.slice ao m acap, .slice co n ccap] 40)).heap.size := by simp
    have r : ∀ o j, ((w.alloc (.cells #[.slice ao m acap, .slice co n ccap] 40)).alloc o).cell? ⟨w.heap.size, j, none⟩ = (w.alloc (.cells #[.slice ao m acap, .slice co n ccap] 40)).cell? ⟨w.heap.size, j, none⟩ := fun o j => World.cell?_alloc_lt _ _ ⟨w.heap.size, j, none⟩ (by simp)
    simp only [r]
    rw [q]
    simp
  have d0 : w1.cell? ⟨B, off + k, none⟩ = some (.int .i64 12) := (HB1.out.cell hB).trans hc
  have HI : Hid (Calls Tryd.prog 38 #[.agg #[.slice ao m acap, .slice co n ccap], .slice (some ⟨B, off, none⟩) k cap, .agg #[.int .i64 u, .int .i64 a, .int .i64 b, .int .i64 c]] w1 fun e w' => e = .returned (.tuple #[.bool x, .slice (some ⟨B, off, none⟩) p cap]) ∧ Below w1.heap.size w1 w') := ih w1 HB1.out
  have hle : (k : Int) ≤ (cap : Int) := by omega
  obtain ⟨⟨x0, x1⟩, ⟨y0, y1, y2, y3⟩⟩ := HX.out w1 (Below.refl _ _)
  clear hc hB ih
  rw [hw1] at d0 x0 x1 y0 y1 y2 y3
  go_enter Tryd.func38, Tryd.ntmps38
  go_wp2_with fail
  rw [← hw1]
  clear hw1
  go_at_call 38
  refine HI.out.mono ?_
  rintro e w2 ⟨rfl, hb⟩
  have HB2 : Hid (Below w.heap.size w w2) := HB1.out.trans (hb.mono HB1.out.size)
  clear hb d0 x0 x1 y0 y1 y2 y3
  go_wp2
  go_ret2
  exact ⟨rfl, HB2.out⟩

set_option maxHeartbeats 4000000 in
/-- behind two calls of itself. -/
theorem is_two (s : Int) (hs : s = 10 ∨ s = 11 ∨ s = 13) (x y : Bool) (ao co : Option Addr) (m n acap ccap : Nat) (k p q B off cap : Nat) (u a b c : Int) (w : World) (hcap : k + 1 ≤ cap) (hk : k ≤ 20) (hB : B < w.heap.size) (hc : w.cell? ⟨B, off + k, none⟩ = some (.int .i64 s))
    (ihy : ∀ W, Below w.heap.size w W → Calls Tryd.prog 38 #[.agg #[.slice ao m acap, .slice co n ccap], .slice (some ⟨B, off, none⟩) k cap, .agg #[.int .i64 u, .int .i64 a, .int .i64 b, .int .i64 c]] W fun e w' => e = .returned (.tuple #[.bool y, .slice (some ⟨B, off, none⟩) q cap]) ∧ Below W.heap.size W w')
    (ihx : ∀ W, Below w.heap.size w W → Calls Tryd.prog 38 #[.agg #[.slice ao m acap, .slice co n ccap], .slice (some ⟨B, off, none⟩) q cap, .agg #[.int .i64 u, .int .i64 a, .int .i64 b, .int .i64 c]] W fun e w' => e = .returned (.tuple #[.bool x, .slice (some ⟨B, off, none⟩) p cap]) ∧ Below W.heap.size W w') :
    Calls Tryd.prog 38 #[.agg #[.slice ao m acap, .slice co n ccap], .slice (some ⟨B, off, none⟩) (k + 1) cap, .agg #[.int .i64 u, .int .i64 a, .int .i64 b, .int .i64 c]] w fun e w' => e = .returned (.tuple #[.bool (boolF s x y), .slice (some ⟨B, off, none⟩) p cap]) ∧ Below w.heap.size w w' := by
  obtain ⟨w1, hw1⟩ : ∃ w1, w1 = (w.alloc (.cells #[.slice ao m acap, .slice co n ccap] 40)).alloc (.cells #[.int .i64 u, .int .i64 a, .int .i64 b, .int .i64 c] 25) := ⟨_, rfl⟩
  have HB1 : Hid (Below w.heap.size w w1) := by unfold Hid; rw [hw1]; exact (below_alloc1 _ _).trans ((below_alloc1 _ _).mono (by simp))
  have HS1 : Hid (w1.heap.size = w.heap.size + 2) := by unfold Hid; rw [hw1]; simp
  have HX : Hid (∀ W, Below w1.heap.size w1 W → (W.cell? ⟨w.heap.size, 0, none⟩ = some (.slice ao m acap) ∧ W.cell? ⟨w.heap.size, 1, none⟩ = some (.slice co n ccap)) ∧ (W.cell? ⟨w.heap.size + 1, 0, none⟩ = some (.int .i64 u) ∧ W.cell? ⟨w.heap.size + 1, 1, none⟩ = some (.int .i64 a) ∧ W.cell? ⟨w.heap.size + 1, 2, none⟩ = some (.int .i64 b) ∧ W.cell? ⟨w.heap.size + 1, 3, none⟩ = some (.int .i64 c))) := fun W hW => by
    have l0 : w.heap.size < w1.heap.size := by have := HS1.out; omega
    have l1 : w.heap.size + 1 < w1.heap.size := by have := HS1.out; omega
    have e0 : ∀ j, W.cell? ⟨w.heap.size, j, none⟩ = w1.cell? ⟨w.heap.size, j, none⟩ := fun j => hW.cell (show (⟨w.heap.size, j, none⟩ : Addr).block < _ from l0)
    have e1 : ∀ j, W.cell? ⟨w.heap.size + 1, j, none⟩ = w1.cell? ⟨w.heap.size + 1, j, none⟩ := fun j => hW.cell (show (⟨w.heap.size + 1, j, none⟩ : Addr).block < _ from l1)
    simp only [e0, e1]
    rw [hw1]
    have q : w.heap.size + 1 = (w.alloc (.cells #[.slice ao m acap, .slice co n ccap] 40)).heap.size := by simp
    have r : ∀ o j, ((w.alloc (.cells #[.slice ao m acap, .slice co n ccap] 40)).alloc o).cell? ⟨w.heap.size, j, none⟩ = (w.alloc (.cells #[.slice ao m acap, .slice co n ccap] 40)).cell? ⟨w.heap.size, j, none⟩ := fun o j => World.cell?_alloc_lt _ _ ⟨w.heap.size, j, none⟩ (by simp)
    simp only [r]
    rw [q]
    simp
  have d0 : w1.cell? ⟨B, off + k, none⟩ = some (.int .i64 s) := (HB1.out.cell hB).trans hc
  have HI : Hid (Calls Tryd.prog 38 #[.agg #[.slice ao m acap, .slice co n ccap], .slice (some ⟨B, off, none⟩) k cap, .agg #[.int .i64 u, .int .i64 a, .int .i64 b, .int .i64 c]] w1 fun e w' => e = .returned (.tuple #[.bool y, .slice (some ⟨B, off, none⟩) q cap]) ∧ Below w1.heap.size w1 w') := ihy w1 HB1.out
  have HJ : Hid (∀ W, Below w.heap.size w W → Calls Tryd.prog 38 #[.agg #[.slice ao m acap, .slice co n ccap], .slice (some ⟨B, off, none⟩) q cap, .agg #[.int .i64 u, .int .i64 a, .int .i64 b, .int .i64 c]] W fun e w' => e = .returned (.tuple #[.bool x, .slice (some ⟨B, off, none⟩) p cap]) ∧ Below W.heap.size W w') := ihx
  have hle : (k : Int) ≤ (cap : Int) := by omega
  obtain ⟨⟨x0, x1⟩, ⟨y0, y1, y2, y3⟩⟩ := HX.out w1 (Below.refl _ _)
  clear hc hB ihx ihy
  rw [hw1] at d0 x0 x1 y0 y1 y2 y3
  rcases hs with rfl | rfl | rfl
  all_goals
    go_enter Tryd.func38, Tryd.ntmps38
    go_wp2_with fail
    rw [← hw1]
    clear hw1
    go_at_call 38
    refine HI.out.mono ?_
    rintro e w2 ⟨rfl, hb⟩
    have HB2 : Hid (Below w.heap.size w w2) := HB1.out.trans (hb.mono HB1.out.size)
    clear d0 x0 x1 y0 y1 y2 y3
    obtain ⟨⟨x0, x1⟩, ⟨y0, y1, y2, y3⟩⟩ := HX.out w2 hb
    clear hb
    go_wp2_with fail
    go_at_call 38
    refine (HJ.out _ HB2.out).mono ?_
    rintro e w3 ⟨rfl, hb3⟩
    have HB3 : Hid (Below w.heap.size w w3) := HB2.out.trans (hb3.mono HB2.out.size)
    clear hb3 x0 x1 y0 y1 y2 y3
    cases x <;> cases y
    all_goals
      go_wp2
      go_ret2
      exact ⟨rfl, HB3.out⟩
end Go.Proofs.YtenmheenieifpabDoor

namespace Go.Proofs.YtenmheenieifpabDoor
open Go.ChangeShapes Go.WideShapes Go.ChangeAt Go.RowKit
set_option maxRecDepth 100000

theorem is_any (ats : List At) (u a b c : Int) (hok : (Wd.mk u a b c).ok = true) (hgood : ∀ x ∈ ats, x.fault = 0) (hm6 : ats.length ≤ 6) (ao co : Option Addr) (n acap ccap B off cap : Nat) (N : Nat) :
    ∀ (q : List Int), isFm ats.length N q → ∀ (pre : List Int) (w : World), (pre ++ q).length ≤ 20 → (pre ++ q).length ≤ cap → Lies w B off (pre ++ q) → ReadsA w (.slice ao ats.length acap) ats →
    Calls Tryd.prog 38 #[.agg #[.slice ao ats.length acap, .slice co n ccap], .slice (some ⟨B, off, none⟩) (pre ++ q).length cap, .agg #[.int .i64 u, .int .i64 a, .int .i64 b, .int .i64 c]] w fun e w' => e = .returned (.tuple #[.bool (valF ((Wd.mk u a b c).heldL ats) q), .slice (some ⟨B, off, none⟩) pre.length cap]) ∧ Below w.heap.size w w' := by
  induction N with
  | zero => intro q h; exact h.elim
  | succ N ih =>
    intro q h pre w h20 hcap hL hA
    rcases h with ⟨s, h0, h4, rfl⟩ | ⟨t, ht, rfl⟩ | ⟨s, x, y, h5, hx, hy, rfl⟩
    · have e : (pre ++ [s]).length = pre.length + 1 := by simp
      rw [e] at h20 hcap ⊢
      have hlt : s.toNat < ats.length := by omega
      have hat : ats[s.toNat]? = some (ats[s.toNat]'hlt) := List.getElem?_eq_getElem hlt
      have hf : (ats[s.toNat]'hlt).fault = 0 := hgood _ (List.getElem_mem hlt)
      have hv : valF ((Wd.mk u a b c).heldL ats) [s] = (Wd.mk u a b c).holds (ats[s.toNat]'hlt).k (ats[s.toNat]'hlt).s (ats[s.toNat]'hlt).t (ats[s.toNat]'hlt).n := by
        rw [valF_leaf _ (by omega)]
        unfold Wd.heldL
        rw [List.getD_eq_getElem?_getD, List.getElem?_map, hat]
        rfl
      rw [hv]
      exact is_leaf s h0 _ _ ats ao co _ n acap ccap rfl h4 hm6 hat pre.length B off cap u a b c w hcap (by omega) hL.1 hL.last hA
        (fun W vs vt h1 h2 => refHolds_any _ _ vs vt _ _ u a b c hf hok W h1 h2)
    · have e0 : pre ++ (t ++ [12]) = (pre ++ t) ++ [12] := by simp
      rw [e0] at h20 hcap hL ⊢
      have e : ((pre ++ t) ++ [12]).length = (pre ++ t).length + 1 := by simp; omega
      rw [e] at h20 hcap ⊢
      rw [val_no _ (cnt_fm hm6 N t ht)]
      exact is_no _ ao co _ n acap ccap (pre ++ t).length pre.length B off cap u a b c w hcap (by omega) hL.1 hL.last
        (fun W hW => ih t ht pre W (by omega) (by omega) (hL.front.below hW) (hA.below hW))
    · have e0 : pre ++ (x ++ (y ++ [s])) = ((pre ++ x) ++ y) ++ [s] := by simp
      rw [e0] at h20 hcap hL ⊢
      have e : (((pre ++ x) ++ y) ++ [s]).length = ((pre ++ x) ++ y).length + 1 := by simp; omega
      rw [e] at h20 hcap ⊢
      have hle : (pre ++ x).length ≤ ((pre ++ x) ++ y).length := by simp
      rw [valF_two _ h5 (cnt_fm hm6 N x hx) (cnt_fm hm6 N y hy)]
      exact is_two s h5 _ _ ao co _ n acap ccap ((pre ++ x) ++ y).length pre.length (pre ++ x).length B off cap u a b c w hcap (by omega) hL.1 hL.last
        (fun W hW => ih y hy (pre ++ x) W (by omega) (by omega) (hL.front.below hW) (hA.below hW))
        (fun W hW => ih x hx pre W (by omega) (by omega) (hL.front.front.below hW) (hA.below hW))

set_option maxHeartbeats 2000000 in
/-- True, of a right formula in a right world. -/
theorem refTrue_any (va vc : Value) (ats : List At) (d : List Int) (u a b c : Int) (hf : formFault ats d = 0) (hok : (Wd.mk u a b c).ok = true) (w : World) (hA : ReadsA w va ats) (hC : Reads w vc d) :
    Calls Tryd.prog 14 #[.agg #[va, vc], .agg #[.int .i64 u, .int .i64 a, .int .i64 b, .int .i64 c]] w fun e w' => e = .returned (.bool (valF ((Wd.mk u a b c).heldL ats) d)) ∧ Below w.heap.size w w' := by
  obtain ⟨⟨m1, m6⟩, ⟨n1, n20⟩, hgood, hsig, hcnt⟩ := formFault_zero.1 hf
  obtain ⟨N, hN⟩ := treeF hsig hcnt
  obtain ⟨ao, acap, rfl, _⟩ := hA.slice
  rcases hC with ⟨_, _, _, h0⟩ | ⟨B, off, cap, rfl, hB, _, ⟨_, hcap⟩, hcell⟩
  · rw [h0] at n1; simp at n1
  obtain ⟨w1, hw1⟩ : ∃ w1, w1 = (w.alloc (.cells #[.slice ao ats.length acap, .slice (some ⟨B, off, none⟩) d.length cap] 40)).alloc (.cells #[.int .i64 u, .int .i64 a, .int .i64 b, .int .i64 c] 25) := ⟨_, rfl⟩
  have HB1 : Hid (Below w.heap.size w w1) := by unfold Hid; rw [hw1]; exact (below_alloc1 _ _).trans ((below_alloc1 _ _).mono (by simp))
  have HI : Hid (∀ W, Below w.heap.size w W → Calls Tryd.prog 38 #[.agg #[.slice ao ats.length acap, .slice (some ⟨B, off, none⟩) d.length cap], .slice (some ⟨B, off, none⟩) d.length cap, .agg #[.int .i64 u, .int .i64 a, .int .i64 b, .int .i64 c]] W fun e w' => e = .returned (.tuple #[.bool (valF ((Wd.mk u a b c).heldL ats) d), .slice (some ⟨B, off, none⟩) 0 cap]) ∧ Below W.heap.size W w') := fun W hW =>
    is_any ats u a b c hok hgood m6 ao (some ⟨B, off, none⟩) d.length acap cap B off cap N d hN [] W n20 hcap ((show Lies w B off d from ⟨hB, hcell⟩).below hW) (hA.below hW)
  obtain ⟨V, hV⟩ : ∃ V, V = valF ((Wd.mk u a b c).heldL ats) d := ⟨_, rfl⟩
  rw [← hV] at HI ⊢
  obtain ⟨m, hm⟩ : ∃ m, m = ats.length := ⟨_, rfl⟩
  obtain ⟨n, hn⟩ : ∃ n, n = d.length := ⟨_, rfl⟩
  rw [← hm, ← hn] at HI hw1 ⊢
  clear hV hm hn hA hcell hf hok m1 m6 n1 n20 hgood hsig hcnt hN hcap hB
  go_enter Tryd.func14, Tryd.ntmps14
  go_wp2_with fail
  rw [← hw1]
  clear hw1
  go_at_call 38
  refine (HI.out _ HB1.out).mono ?_
  rintro e w2 ⟨rfl, hb⟩
  have HB2 : Hid (Below w.heap.size w w2) := HB1.out.trans (hb.mono HB1.out.size)
  clear hb
  go_wp2
  go_ret
  exact ⟨rfl, HB2.out⟩
end Go.Proofs.YtenmheenieifpabDoor
