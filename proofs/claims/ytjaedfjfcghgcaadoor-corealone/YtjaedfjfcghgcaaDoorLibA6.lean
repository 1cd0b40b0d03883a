/-
  Proved: what takes, tooMany and isOne of package form return, and slices.ContainsFunc at the function of its Check; what was in memory is as it was (contracts that the statements lean on).
  A slice of formulas, as it lies in memory (what the contracts of chapters 13 to 20 lean on).
  Proved: what errors.As does at a target of type *api.Errno, what plain.Told returns, and what vennsame.Error answers, of a nil error and of any api.Errno; what was in memory is as it was. (Contracts that the statements lean on; after the manner of the guide's worked example Toyas.)
  Proved: what vennsame.Error returns of an error and its number (what the statements of chapter 9 lean on).
  Plain facts on a block of memory, whole: what lies in it, behind a call, behind a store; eight numbers and a world as blocks. (What the contracts of package fields lean on.)
-/
import Derived.Test.YtjaedfjfcghgcaaDoorLibA2
import Derived.Test.YtjaedfjfcghgcaaDoorLibA5
import Derived.Test.YtjaedfjfcghgcaaDoorRows
import Derived.WalkKit
import Derived.LaidEql
import Derived.Stop.Asserts
import Derived.RowKitTokens
import Derived.Handy
namespace Go.Proofs.YtjaedfjfcghgcaaDoor
open Go.ChangeShapes Go.WideShapes Go.ChangeAt Go.RowKit
set_option maxRecDepth 100000

/-- an atom lies at a place. -/
def AtomAt (w : World) (b off : Nat) (a : At) : Prop :=
  ∃ vs vt, w.cell? ⟨b, off, none⟩ = some (.int .i64 a.k) ∧ w.cell? ⟨b, off + 1, none⟩ = some vs ∧ w.cell? ⟨b, off + 2, none⟩ = some vt ∧ w.cell? ⟨b, off + 3, none⟩ = some (.int .i64 a.n) ∧ Reads w vs a.s ∧ Reads w vt a.t
/-- the slice v reads, in the world w, ats these atoms. -/
def ReadsA (w : World) (v : Value) (ats : List At) : Prop :=
  (∃ ao cap, v = .slice ao 0 cap ∧ ats = []) ∨ (∃ b off cap, v = .slice (some ⟨b, off, none⟩) ats.length cap ∧ b < w.heap.size ∧ 0 < ats.length ∧ (ats.length ≤ 9223372036854775807 ∧ ats.length ≤ cap) ∧ ∀ i a, ats[i]? = some a → AtomAt w b (off + i * 4) a)
theorem AtomAt.below {w w' : World} {b off : Nat} {a : At} (h : AtomAt w b off a) (hB : b < w.heap.size) (hb : Below w.heap.size w w') : AtomAt w' b off a := by
  obtain ⟨vs, vt, h1, h2, h3, h4, h5, h6⟩ := h
  exact ⟨vs, vt, by rw [hb.cell hB]; exact h1, by rw [hb.cell hB]; exact h2, by rw [hb.cell hB]; exact h3, by rw [hb.cell hB]; exact h4, h5.below hb, h6.below hb⟩
theorem ReadsA.below {w w' : World} {v : Value} {ats : List At} (h : ReadsA w v ats) (hb : Below w.heap.size w w') : ReadsA w' v ats := by
  rcases h with h | ⟨b, off, cap, h1, h2, h3, h4, h5⟩
  · exact Or.inl h
  · exact Or.inr ⟨b, off, cap, h1, Nat.lt_of_lt_of_le h2 hb.size, h3, h4, fun i a ha => (h5 i a ha).below h2 hb⟩
theorem ReadsA.slice {w : World} {v : Value} {ats : List At} (h : ReadsA w v ats) : ∃ ao cap, v = .slice ao ats.length cap ∧ ats.length ≤ 9223372036854775807 := by
  rcases h with ⟨ao, cap, rfl, rfl⟩ | ⟨b, off, cap, rfl, _, _, h, _⟩
  · exact ⟨ao, cap, rfl, by decide⟩
  · exact ⟨_, cap, rfl, h.1⟩

theorem ftakes_any (s : Int) (w : World) :
    Calls Tryd.prog 57 #[.int .i64 s] w fun e w' => e = .returned (.int .i64 (takesF s)) ∧ w = w' := by
  by_cases h5 : s = 10
  · subst h5
    go_enter Tryd.func57, Tryd.ntmps57
    go_wp2
    go_ret
    exact ⟨rfl, rfl⟩
  by_cases h6 : s = 11
  · subst h6
    go_enter Tryd.func57, Tryd.ntmps57
    go_wp2
    go_ret
    exact ⟨rfl, rfl⟩
  by_cases h7 : s = 13
  · subst h7
    go_enter Tryd.func57, Tryd.ntmps57
    go_wp2
    go_ret
    exact ⟨rfl, rfl⟩
  by_cases h8 : s = 12
  · subst h8
    go_enter Tryd.func57, Tryd.ntmps57
    go_wp2
    go_ret
    exact ⟨rfl, rfl⟩
  have e : takesF s = 0 := by unfold takesF; rw [if_neg (by omega), if_neg h8]
  rw [e]
  clear e
  have h5' : (s == 10) = false := by simpa using h5
  have h6' : (s == 11) = false := by simpa using h6
  have h7' : (s == 13) = false := by simpa using h7
  have h8' : (s == 12) = false := by simpa using h8
  clear h5 h6 h7 h8
  go_enter Tryd.func57, Tryd.ntmps57
  go_wp2
  go_ret
  exact ⟨rfl, rfl⟩

theorem tooMany_any (a s : Int) (w : World) :
    Calls Tryd.prog 44 #[.int .i64 a, .int .i64 s] w fun e w' => e = .returned (.bool (decide (6 < a) || decide (20 < s))) ∧ w = w' := by
  by_cases h1 : 6 < a
  · go_enter Tryd.func44, Tryd.ntmps44
    go_wp2
    go_ret
    exact ⟨by simp [h1], rfl⟩
  · by_cases h2 : 20 < s
    · go_enter Tryd.func44, Tryd.ntmps44
      go_wp2
      go_ret
      exact ⟨by simp, rfl⟩
    · go_enter Tryd.func44, Tryd.ntmps44
      go_wp2
      go_ret
      exact ⟨by simp [h1, h2], rfl⟩

theorem fnoSign_any (m cap P : Nat) (ao : Option Addr) (s : Int) (w : World) (hP : w.cell? ⟨P, 0, none⟩ = some (.slice ao m cap)) :
    Calls Tryd.prog 56 #[.int .i64 s, .pointer (some ⟨P, 0, none⟩)] w fun e w' => e = .returned (.bool (!signF m s)) ∧ w = w' := by
  have HT : Hid (∀ W, Calls Tryd.prog 57 #[.int .i64 s] W fun e w' => e = .returned (.int .i64 (takesF s)) ∧ W = w') := fun W => ftakes_any s W
  by_cases h0 : takesF s = 0
  · rw [h0] at HT
    by_cases h1 : s < 0
    · have e : signF m s = false := by simp [signF, h0, h1]
      rw [e]
      clear e h0
      go_enter Tryd.func56, Tryd.ntmps56
      go_wp2_with (go_at_call 57; refine (HT.out _).mono ?_; rintro e w' ⟨rfl, rfl⟩)
      go_ret
      exact ⟨rfl, rfl⟩
    · by_cases h2 : (m : Int) ≤ s
      · have e : signF m s = false := by simp [signF, h0, h2]
        rw [e]
        clear e h0
        go_enter Tryd.func56, Tryd.ntmps56
        go_wp2_with (go_at_call 57; refine (HT.out _).mono ?_; rintro e w' ⟨rfl, rfl⟩)
        go_ret
        exact ⟨rfl, rfl⟩
      · have e : signF m s = true := by simp [signF, h1, h2]
        rw [e]
        clear e h0
        go_enter Tryd.func56, Tryd.ntmps56
        go_wp2_with (go_at_call 57; refine (HT.out _).mono ?_; rintro e w' ⟨rfl, rfl⟩)
        go_ret
        exact ⟨back_b (by simp; omega), rfl⟩
  · have e : signF m s = true := by simp [signF, h0]
    rw [e]
    clear e
    have h0' : (takesF s == 0) = false := by simpa using h0
    clear h0
    go_enter Tryd.func56, Tryd.ntmps56
    go_wp2_with (go_at_call 57; refine (HT.out _).mono ?_; rintro e w' ⟨rfl, rfl⟩)
    go_ret
    exact ⟨rfl, rfl⟩

/-- the first sign that is none, or -1. -/
def firstBadF (m : Nat) : List Int → Nat → Int
  | [], _ => -1
  | s :: l, k => if signF m s = true then firstBadF m l (k + 1) else k
theorem firstBadF_lt (m : Nat) (t : List Int) (k : Nat) : (firstBadF m t k < 0 ↔ t.all (signF m) = true) ∧ -1 ≤ firstBadF m t k := by
  induction t generalizing k with
  | nil => exact ⟨⟨fun _ => rfl, fun _ => show (-1 : Int) < 0 by decide⟩, Int.le_refl _⟩
  | cons s l ih =>
    unfold firstBadF
    by_cases h : signF m s = true
    · rw [if_pos h]; simpa [h] using ih (k + 1)
    · rw [if_neg h]; simp only [List.all_cons, h]; simp
theorem firstBadF_drop (m : Nat) (t : List Int) {k : Nat} (hk : k < t.length) : firstBadF m (t.drop k) k = if signF m (t.getD k 0) = true then firstBadF m (t.drop (k + 1)) (k + 1) else k := by
  rw [List.drop_eq_getElem_cons hk]
  simp [firstBadF, List.getElem?_eq_getElem hk]

theorem findexFunc_any (m mcap P : Nat) (ao : Option Addr) (b off cap : Nat) (t : List Int) (w : World) (hl : t.length ≤ 9223372036854775807) (hP : w.cell? ⟨P, 0, none⟩ = some (.slice ao m mcap)) (hc : ∀ k, k < t.length → w.cell? ⟨b, off + k, none⟩ = some (.int .i64 (t.getD k 0))) :
    Calls Tryd.prog 62 #[.slice (some ⟨b, off, none⟩) t.length cap, .func (.func 56) #[] #[.pointer (some ⟨P, 0, none⟩)]] w fun e w' => e = .returned (.int .i64 (firstBadF m t 0)) ∧ w = w' := by
  have HF : Hid (∀ {k : Nat}, k < t.length → firstBadF m (t.drop k) k = if signF m (t.getD k 0) = true then firstBadF m (t.drop (k + 1)) (k + 1) else k) := fun {_} h => firstBadF_drop m t h
  have HC : Hid (∀ k, k < t.length → w.cell? ⟨b, off + k, none⟩ = some (.int .i64 (t.getD k 0))) := hc
  clear hc
  have HP : Hid (w.cell? ⟨P, 0, none⟩ = some (.slice ao m mcap)) := hP
  clear hP
  obtain ⟨n, hn⟩ : ∃ n, n = t.length := ⟨_, rfl⟩
  rw [← hn] at hl ⊢
  have HN : Hid (n = t.length) := hn
  clear hn
  go_enter Tryd.func62, Tryd.ntmps62
  go_wp2
  go_loop [8] (fun i => ∃ k : Nat, k ≤ n ∧ i = .int .i64 k ∧ firstBadF m (t.drop k) k = firstBadF m t 0) (fun i => n - (intOf i).toNat)
  case atStart => exact ⟨0, Nat.zero_le _, rfl, rfl⟩
  case round =>
    obtain ⟨k, hk, rfl, hF⟩ := hrel
    have HK : Hid (firstBadF m (t.drop k) k = firstBadF m t 0) := hF
    clear hF
    by_cases hlt : k < n
    · obtain ⟨s, hs⟩ : ∃ s, s = t.getD k 0 := ⟨_, rfl⟩
      have hc := HC.out k (by rw [← HN.out]; exact hlt)
      rw [← hs] at hc
      have HS : Hid (s = t.getD k 0) := hs
      clear hs
      have HD : Hid (firstBadF m (t.drop k) k = if signF m s = true then firstBadF m (t.drop (k + 1)) (k + 1) else k) := by
        have := HF.out (k := k) (by rw [← HN.out]; exact hlt)
        rw [← HS.out] at this; exact this
      by_cases hb : signF m s = true
      · have HD' : Hid (firstBadF m (t.drop (k + 1)) (k + 1) = firstBadF m t 0) := by
          have h1 := HD.out
          rw [if_pos hb] at h1
          exact h1.symm.trans HK.out
        go_wp2_with (go_at_call 56; refine (fnoSign_any m mcap P ao _ _ HP.out).mono ?_; rintro e w' ⟨rfl, rfl⟩)
        go_round
        case rel => exact ⟨k + 1, by omega, by go_num, HD'.out⟩
        case measure => simp [intOf]; omega
      · have HD' : Hid ((k : Int) = firstBadF m t 0) := by
          have h1 := HD.out
          rw [if_neg hb] at h1
          exact h1.symm.trans HK.out
        have hb' : signF m s = false := by simpa using hb
        clear hb
        go_wp2_with (go_at_call 56; refine (fnoSign_any m mcap P ao _ _ HP.out).mono ?_; rintro e w' ⟨rfl, rfl⟩)
        go_ret
        exact ⟨back_i HD'.out, rfl⟩
    · have HE : Hid (firstBadF m t 0 = -1) := by
        have h1 := HK.out
        rw [List.drop_eq_nil_of_le (by have := HN.out; omega)] at h1
        exact h1.symm
      go_wp2
      go_ret
      exact ⟨back_i HE.out.symm, rfl⟩

theorem fcontainsFunc_any (m mcap P : Nat) (ao : Option Addr) (b off cap : Nat) (t : List Int) (w : World) (hl : t.length ≤ 9223372036854775807) (hP : w.cell? ⟨P, 0, none⟩ = some (.slice ao m mcap)) (hc : ∀ k, k < t.length → w.cell? ⟨b, off + k, none⟩ = some (.int .i64 (t.getD k 0))) :
    Calls Tryd.prog 37 #[.slice (some ⟨b, off, none⟩) t.length cap, .func (.func 56) #[] #[.pointer (some ⟨P, 0, none⟩)]] w fun e w' => e = .returned (.bool (!t.all (signF m))) ∧ w = w' := by
  have c := findexFunc_any m mcap P ao b off cap t w hl hP hc
  clear hc hP
  obtain ⟨h1, h2⟩ := firstBadF_lt m t 0
  obtain ⟨n, hn⟩ : ∃ n, n = firstBadF m t 0 := ⟨_, rfl⟩
  rw [← hn] at c h1 h2
  clear hn
  by_cases h : t.all (signF m) = true
  · obtain rfl : n = -1 := by have := h1.2 h; omega
    rw [h]
    clear h1 h2 h
    go_enter Tryd.func37, Tryd.ntmps37
    go_wp2_with (go_at_call 62; refine c.mono ?_; rintro e w' ⟨rfl, rfl⟩)
    go_ret
    exact ⟨rfl, rfl⟩
  · have h0 : 0 ≤ n := by
      rcases Int.lt_or_le n 0 with h' | h'
      · exact absurd (h1.1 h') h
      · exact h'
    have h' : t.all (signF m) = false := by simpa using h
    rw [h']
    clear h1 h2 h h'
    go_enter Tryd.func37, Tryd.ntmps37
    go_wp2_with (go_at_call 62; refine c.mono ?_; rintro e w' ⟨rfl, rfl⟩)
    go_ret
    exact ⟨rfl, rfl⟩

theorem fisOne_any (b off cap : Nat) (t : List Int) (w : World) (hl : t.length ≤ 20) (hc : ∀ k, k < t.length → w.cell? ⟨b, off + k, none⟩ = some (.int .i64 (t.getD k 0))) :
    Calls Tryd.prog 58 #[.slice (some ⟨b, off, none⟩) t.length cap] w fun e w' => e = .returned (.bool (decide (cntF t 0 = some 1))) ∧ w = w' := by
  have HC : Hid (∀ k, k < t.length → w.cell? ⟨b, off + k, none⟩ = some (.int .i64 (t.getD k 0))) := hc
  clear hc
  obtain ⟨n, hn⟩ : ∃ n, n = t.length := ⟨_, rfl⟩
  rw [← hn] at hl ⊢
  have HN : Hid (n = t.length) := hn
  clear hn
  obtain ⟨R, hR⟩ : ∃ R, R = decide (cntF t 0 = some 1) := ⟨_, rfl⟩
  rw [← hR]
  have HR : Hid (R = decide (cntF t 0 = some 1)) := hR
  clear hR
  go_enter Tryd.func58, Tryd.ntmps58
  go_wp2
  go_loop [3, 8] (fun c i => ∃ (k : Nat) (m : Int), k ≤ n ∧ i = .int .i64 k ∧ c = .int .i64 m ∧ cntF (t.take k) 0 = some m) (fun _ i => n - (intOf i).toNat)
  case atStart => exact ⟨0, 0, Nat.zero_le _, rfl, rfl, rfl⟩
  case round =>
    obtain ⟨k, m, hk, rfl, rfl, hm⟩ := hrel
    have HM : Hid (cntF (t.take k) 0 = some m) := hm
    have hm0 : 0 ≤ m ∧ m ≤ 20 := by
      have := cntF_nonneg (Int.le_refl 0) hm
      simp at this
      omega
    clear hm
    by_cases hlt : k < n
    · obtain ⟨s, hs⟩ : ∃ s, s = t.getD k 0 := ⟨_, rfl⟩
      have hc := HC.out k (by rw [← HN.out]; exact hlt)
      rw [← hs] at hc
      have HD : Hid (cntF (t.take (k + 1)) 0 = if m < takesF s then none else some (m + 1 - takesF s)) := by
        have := cntF_take_succ t (k := k) (by rw [← HN.out]; exact hlt) HM.out
        rw [← hs] at this; exact this
      clear hs
      have ht := takesF_range s
      by_cases hb : m < takesF s
      · have HE : Hid (R = false) := by
          have h1 := HD.out
          rw [if_pos hb] at h1
          have h2 := cntF_take_none t (k + 1) h1
          have h3 := HR.out
          rw [h2] at h3
          exact h3.trans (by decide)
        go_wp2_with (go_at_call 57; refine (ftakes_any _ _).mono ?_; rintro e w' ⟨rfl, rfl⟩)
        go_ret
        exact ⟨back_b HE.out.symm, rfl⟩
      · have HE : Hid (cntF (t.take (k + 1)) 0 = some (m + (1 - takesF s))) := by
          have h1 := HD.out
          rw [if_neg hb] at h1
          rw [show m + (1 - takesF s) = m + 1 - takesF s by omega]
          exact h1
        go_wp2_with (go_at_call 57; refine (ftakes_any _ _).mono ?_; rintro e w' ⟨rfl, rfl⟩)
        go_round
        case rel => exact ⟨k + 1, _, by omega, by go_num, rfl, HE.out⟩
        case measure => simp [intOf]; omega
    · have HE : Hid (R = (m == 1)) := by
        have h1 := HM.out
        rw [List.take_of_length_le (by have := HN.out; omega)] at h1
        have h3 := HR.out
        rw [h1] at h3
        rw [h3]
        by_cases h : m = 1
        · subst h; rfl
        · rw [decide_eq_false (by simpa using h)]; exact (beq_eq_false_iff_ne.2 h).symm
      go_wp2
      go_ret
      exact ⟨back_b HE.out.symm, rfl⟩
end Go.Proofs.YtjaedfjfcghgcaaDoor

namespace Go.Proofs.YtjaedfjfcghgcaaDoor
open Go.ChangeShapes Go.WideShapes Go.ChangeAt Go.RowKit

/-- at this place in memory lies a formula. -/
def FormAt (w : World) (b off : Nat) (f : Fm) : Prop :=
  ∃ va vc, w.cell? ⟨b, off, none⟩ = some va ∧ w.cell? ⟨b, off + 1, none⟩ = some vc ∧ ReadsA w va f.ats ∧ Reads w vc f.c
/-- the slice v reads, in the world w, as these formulas. -/
def ReadsF (w : World) (v : Value) (fs : List Fm) : Prop :=
  (∃ ao cap, v = .slice ao 0 cap ∧ fs = []) ∨ (∃ b off cap, v = .slice (some ⟨b, off, none⟩) fs.length cap ∧ b < w.heap.size ∧ 0 < fs.length ∧ (fs.length ≤ 9223372036854775807 ∧ fs.length ≤ cap) ∧ ∀ i f, fs[i]? = some f → FormAt w b (off + i * 2) f)
theorem FormAt.below {w w' : World} {b off : Nat} {f : Fm} (h : FormAt w b off f) (hB : b < w.heap.size) (hb : Below w.heap.size w w') : FormAt w' b off f := by
  obtain ⟨va, vc, h0, h1, h2, h3⟩ := h
  exact ⟨va, vc, (hb.cell hB).trans h0, (hb.cell hB).trans h1, h2.below hb, h3.below hb⟩
theorem ReadsF.below {w w' : World} {v : Value} {fs : List Fm} (h : ReadsF w v fs) (hb : Below w.heap.size w w') : ReadsF w' v fs := by
  rcases h with h | ⟨b, off, cap, h1, h2, h3, h4, h5⟩
  · exact Or.inl h
  · exact Or.inr ⟨b, off, cap, h1, Nat.lt_of_lt_of_le h2 hb.size, h3, h4, fun i f hf => (h5 i f hf).below h2 hb⟩
theorem ReadsF.slice {w : World} {v : Value} {fs : List Fm} (h : ReadsF w v fs) : ∃ ao cap, v = .slice ao fs.length cap ∧ fs.length ≤ 9223372036854775807 := by
  rcases h with ⟨ao, cap, rfl, rfl⟩ | ⟨b, off, cap, rfl, _, _, h, _⟩
  · exact ⟨ao, cap, rfl, by decide⟩
  · exact ⟨_, cap, rfl, h.1⟩
/-- the i-th of them. -/
theorem ReadsF.at {w : World} {b off n cap : Nat} {fs : List Fm} (h : ReadsF w (.slice (some ⟨b, off, none⟩) n cap) fs) {i : Nat} {f : Fm} (hf : fs[i]? = some f) : b < w.heap.size ∧ FormAt w b (off + i * 2) f := by
  rcases h with ⟨ao, cap', hv, h0⟩ | ⟨b', off', cap', hv, h2, _, _, h5⟩
  · rw [h0] at hf; simp at hf
  · obtain ⟨h1, _, _⟩ := Value.slice.inj hv
    obtain ⟨rfl, rfl, _⟩ := Addr.mk.inj (Option.some.inj h1)
    exact ⟨h2, h5 i f hf⟩
theorem ReadsF.place {w : World} {v : Value} {fs : List Fm} (h : ReadsF w v fs) (h0 : 0 < fs.length) : ∃ b off cap, v = .slice (some ⟨b, off, none⟩) fs.length cap := by
  rcases h with ⟨ao, cap', _, hz⟩ | ⟨b', off', cap', hv, _⟩
  · rw [hz] at h0; simp at h0
  · exact ⟨b', off', cap', hv⟩
end Go.Proofs.YtjaedfjfcghgcaaDoor

namespace Go.Proofs.YtjaedfjfcghgcaaDoor
open Go.RowKit Go.Extern.Stop Go.Stop Go.Extern
set_option maxRecDepth 100000

/-! ### closed facts on the model's entries for internal/reflectlite, at this program's numbers -/
theorem rlValueOfP (t : Addr) (w : World) : (ReflectliteValue.unpack (.iface 98 (.pointer (some t)))).run Tryd.prog w
    = .ok (.agg #[.pointer (some ⟨2, 98, none⟩), .pointer (some ⟨w.heap.size, 0, none⟩), .int .u64 150]) (w.alloc (.cells #[.pointer (some t)] 98)) := by kernel_rfl
theorem rlTypeP (a : Addr) (w : World) : (ReflectliteValue.methodAny (ReflectliteValue.valueError "reflectlite.Value.Type" 0) (fun t _ _ _ => ReflectliteType.toType t) #[.agg #[.pointer (some ⟨2, 98, none⟩), .pointer (some a), .int .u64 150]]).run Tryd.prog w
    = .ok (.iface 141 (.agg #[.pointer (some ⟨2, 98, none⟩)])) w := by kernel_rfl
theorem rlMethodKind (h : Value) (w : World) : (Go.method 293 141 (.agg #[h]) "Kind").run Tryd.prog w = .ok (114, h) w := by kernel_rfl
theorem rlKindP (w : World) : ((ReflectliteType.abiMethod fun t => (fun a : Nat => Value.int IntKind.u8 (a : Int)) <$> Rtype.kind t) #[.pointer (some ⟨2, 98, none⟩)]).run Tryd.prog w = .ok (.int .u8 22) w := by kernel_rfl
theorem rlKindE (w : World) : ((ReflectliteType.abiMethod fun t => (fun a : Nat => Value.int IntKind.u8 (a : Int)) <$> Rtype.kind t) #[.pointer (some ⟨2, 64, none⟩)]).run Tryd.prog w = .ok (.int .u8 2) w := by kernel_rfl

/-! ### the entries that read or write memory -/
theorem rlPartsP (a : Addr) (w : World) : (ReflectliteValue.parts (.agg #[.pointer (some ⟨2, 98, none⟩), .pointer (some a), .int .u64 150])).run Tryd.prog w = .ok (some (98, a, 150)) w := by kernel_rfl
theorem rlIsNilP (a p : Addr) (W : World) (ha : W.cell? a = some (.pointer (some p))) :
    (ReflectliteValue.method (ReflectliteValue.valueError "reflectlite.Value.IsNil" 0) ReflectliteValue.isNil #[.agg #[.pointer (some ⟨2, 98, none⟩), .pointer (some a), .int .u64 150]]).run Tryd.prog W = .ok (.bool false) W := by
  change (ReflectliteValue.parts (.agg #[.pointer (some ⟨2, 98, none⟩), .pointer (some a), .int .u64 150]) >>= _).run _ _ = _
  simp only [Sem.run_bind, rlPartsP, Result.andThen]
  simp [ReflectliteValue.isNil, loadVar, isAgg, underlying, Tryd.underlying98, ha, Result.andThen]

theorem rlMethodElem (h : Value) (w : World) : (Go.method 293 141 (.agg #[h]) "Elem").run Tryd.prog w = .ok (125, .agg #[h]) w := by kernel_rfl
theorem rlMethodImplements (h : Value) (w : World) : (Go.method 293 141 (.agg #[h]) "Implements").run Tryd.prog w = .ok (126, .agg #[h]) w := by kernel_rfl
theorem rlMethodAssignableTo (h : Value) (w : World) : (Go.method 293 141 (.agg #[h]) "AssignableTo").run Tryd.prog w = .ok (123, .agg #[h]) w := by kernel_rfl
theorem rlElemP (w : World) : (ReflectliteType.method ReflectliteType.elem #[.agg #[.pointer (some ⟨2, 98, none⟩)]]).run Tryd.prog w = .ok (.iface 141 (.agg #[.pointer (some ⟨2, 64, none⟩)])) w := by kernel_rfl
theorem rlImplementsE (w : World) : (ReflectliteType.relation "Implements" ReflectliteType.implements_ #[.agg #[.pointer (some ⟨2, 64, none⟩)], .iface 141 (.agg #[.pointer (some ⟨2, 26, none⟩)])]).run Tryd.prog w = .ok (.bool true) w := by kernel_rfl
theorem rlTypeOfE (v : Value) (w : World) : (ReflectliteType.typeOf #[.iface 64 v]).run Tryd.prog w = .ok (.iface 141 (.agg #[.pointer (some ⟨2, 64, none⟩)])) w := by kernel_rfl
theorem rlAssignableE (w : World) : (ReflectliteType.relation "AssignableTo" ReflectliteType.assignableTo #[.agg #[.pointer (some ⟨2, 64, none⟩)], .iface 141 (.agg #[.pointer (some ⟨2, 64, none⟩)])]).run Tryd.prog w = .ok (.bool true) w := by kernel_rfl
theorem rlValueOfE (n : Int) (w : World) : (ReflectliteValue.unpack (.iface 64 (.int .i64 n))).run Tryd.prog w
    = .ok (.agg #[.pointer (some ⟨2, 64, none⟩), .pointer (some ⟨w.heap.size, 0, none⟩), .int .u64 130]) (w.alloc (.cells #[.int .i64 n] 64)) := by kernel_rfl

theorem rlElemOfP (w : World) : (Rtype.elem? 98).run Tryd.prog w = .ok (some 64) w := by kernel_rfl
theorem rlMkE (p : Addr) (w : World) : (ReflectliteValue.mk 64 p ReflectliteValue.flagAddr).run Tryd.prog w = .ok (.agg #[.pointer (some ⟨2, 64, none⟩), .pointer (some p), .int .u64 386]) w := by kernel_rfl
theorem rlElemV (a p : Addr) (W : World) (ha : W.cell? a = some (.pointer (some p))) :
    (ReflectliteValue.method (ReflectliteValue.valueError "reflectlite.Value.Elem" 0) ReflectliteValue.elem #[.agg #[.pointer (some ⟨2, 98, none⟩), .pointer (some a), .int .u64 150]]).run Tryd.prog W
      = .ok (.agg #[.pointer (some ⟨2, 64, none⟩), .pointer (some p), .int .u64 386]) W := by
  change (ReflectliteValue.parts (.agg #[.pointer (some ⟨2, 98, none⟩), .pointer (some a), .int .u64 150]) >>= _).run _ _ = _
  simp only [Sem.run_bind, rlPartsP, Result.andThen]
  simp [ReflectliteValue.elem, loadVar, isAgg, underlying, Tryd.underlying98, ha, Result.andThen, rlElemOfP, rlMkE]
theorem rlPartsEa (a : Addr) (w : World) : (ReflectliteValue.parts (.agg #[.pointer (some ⟨2, 64, none⟩), .pointer (some a), .int .u64 386])).run Tryd.prog w = .ok (some (64, a, 386)) w := by kernel_rfl
theorem rlPartsE (a : Addr) (w : World) : (ReflectliteValue.parts (.agg #[.pointer (some ⟨2, 64, none⟩), .pointer (some a), .int .u64 130])).run Tryd.prog w = .ok (some (64, a, 130)) w := by kernel_rfl
theorem rlDirectE (w : World) : (Rtype.directlyAssignable 64 64).run Tryd.prog w = .ok true w := by kernel_rfl
theorem rlSetE (ta b : Addr) (n : Int) (old : Value) (W : World) (hb : W.cell? b = some (.int .i64 n)) (ht : W.cell? ta = some old) (hf : W.frozen? ta = false) :
    (ReflectliteValue.set #[.agg #[.pointer (some ⟨2, 64, none⟩), .pointer (some ta), .int .u64 386], .agg #[.pointer (some ⟨2, 64, none⟩), .pointer (some b), .int .u64 130]]).run Tryd.prog W
      = .ok (.tuple #[]) (W.setCell ta (.int .i64 n)) := by
  change (ReflectliteValue.parts (.agg #[.pointer (some ⟨2, 64, none⟩), .pointer (some ta), .int .u64 386]) >>= fun _ => ReflectliteValue.parts (.agg #[.pointer (some ⟨2, 64, none⟩), .pointer (some b), .int .u64 130]) >>= _).run _ _ = _
  simp only [Sem.run_bind, rlPartsEa, rlPartsE, Result.andThen]
  simp [ReflectliteValue.flagAddr, loadVar, isAgg, underlying, Tryd.underlying64, hb, Result.andThen, rlDirectE, storeVar, Value.cells, storeCells, Addr.add]
  rw [run_store Tryd.prog W ta _ _ (by rfl)]
  simp [ht, hf]

/-- what errors.errorType holds: the handle of the type error. -/
def Laid (w : World) : Prop := w.cell? ⟨1, 0, none⟩ = some (.iface 141 (.agg #[.pointer (some ⟨2, 26, none⟩)]))
theorem Laid.lt {w : World} (h : Laid w) : 1 < w.heap.size := by
  rcases Nat.lt_or_ge 1 w.heap.size with h' | h'
  · exact h'
  · simp [Laid, World.cell?, Array.getElem?_eq_none h'] at h
theorem Laid.below {w w' : World} (h : Laid w) (hb : Below w.heap.size w w') : Laid w' := by
  unfold Laid
  rw [hb.cell h.lt]
  exact h

/-- what a walk carries from world to world: the variable is laid, and what was there at the start is as it was. -/
def Acc (w0 w : World) : Prop := Laid w ∧ Below w0.heap.size w0 w
theorem Acc.start {w : World} (h : Laid w) : Acc w w := ⟨h, Below.refl _ _⟩
theorem Acc.step {w0 w w' : World} (h : Acc w0 w) (hb : Below w.heap.size w w') : Acc w0 w' := ⟨h.1.below hb, h.2.trans (hb.mono h.2.size)⟩

set_option maxRecDepth 100000 in
set_option maxHeartbeats 4000000 in
theorem as_hit (n : Int) (t : Addr) (old : Value) (w : World) (hg : w.cell? ⟨1, 0, none⟩ = some (.iface 141 (.agg #[.pointer (some ⟨2, 26, none⟩)]))) (ht0 : w.cell? t = some old) (hf0 : w.frozen? t = false) :
    Calls Tryd.prog 54 #[.iface 64 (.int .i64 n), .iface 98 (.pointer (some t))] w fun ev w' => ev = .returned (.bool true) ∧ ((((w.alloc (.cells #[.pointer (some t)] 98)).alloc (.cells #[.pointer (some ⟨2, 98, none⟩), .pointer (some ⟨w.heap.size, 0, none⟩), .int .u64 150] 126)).alloc (.cells #[.pointer (some ⟨2, 98, none⟩), .pointer (some ⟨w.heap.size, 0, none⟩), .int .u64 150] 126)).alloc (.cells #[.int .i64 n] 64)).setCell t (.int .i64 n) = w' := by
  have h6 := @run_callFunc_extern Tryd.prog 78 _ (fun args => ReflectliteValue.unpack (args.getD 0 (.tuple #[]))) Tryd.func78 (by kernel_rfl) (by kernel_rfl) (by kernel_rfl) (by kernel_rfl)
  have h7 := @run_callFunc_extern Tryd.prog 79 _ (ReflectliteValue.methodAny (ReflectliteValue.valueError "reflectlite.Value.Type" 0) (fun t _ _ _ => ReflectliteType.toType t)) Tryd.func79 (by kernel_rfl) (by kernel_rfl) (by kernel_rfl) (by kernel_rfl)
  have h8 := @run_callFunc_extern Tryd.prog 80 _ (ReflectliteValue.method (ReflectliteValue.valueError "reflectlite.Value.IsNil" 0) ReflectliteValue.isNil) Tryd.func80 (by kernel_rfl) (by kernel_rfl) (by kernel_rfl) (by kernel_rfl)
  have h27 := @run_callFunc_extern Tryd.prog 114 _ (ReflectliteType.abiMethod fun t => do pure (.int .u8 (← Rtype.kind t))) Tryd.func114 (by kernel_rfl) (by kernel_rfl) (by kernel_rfl) (by kernel_rfl)
  have h37 := @run_callFunc_extern Tryd.prog 125 _ (ReflectliteType.method ReflectliteType.elem) Tryd.func125 (by kernel_rfl) (by kernel_rfl) (by kernel_rfl) (by kernel_rfl)
  have h38 := @run_callFunc_extern Tryd.prog 126 _ (ReflectliteType.relation "Implements" ReflectliteType.implements_) Tryd.func126 (by kernel_rfl) (by kernel_rfl) (by kernel_rfl) (by kernel_rfl)
  have h10 := @run_callFunc_extern Tryd.prog 88 _ ReflectliteType.typeOf Tryd.func88 (by kernel_rfl) (by kernel_rfl) (by kernel_rfl) (by kernel_rfl)
  have h35 := @run_callFunc_extern Tryd.prog 123 _ (ReflectliteType.relation "AssignableTo" ReflectliteType.assignableTo) Tryd.func123 (by kernel_rfl) (by kernel_rfl) (by kernel_rfl) (by kernel_rfl)
  have h11 := @run_callFunc_extern Tryd.prog 89 _ (ReflectliteValue.method (ReflectliteValue.valueError "reflectlite.Value.Elem" 0) ReflectliteValue.elem) Tryd.func89 (by kernel_rfl) (by kernel_rfl) (by kernel_rfl) (by kernel_rfl)
  have h12 := @run_callFunc_extern Tryd.prog 90 _ ReflectliteValue.set Tryd.func90 (by kernel_rfl) (by kernel_rfl) (by kernel_rfl) (by kernel_rfl)
  have tO := rlTypeOfE
  have mA := rlMethodAssignableTo
  have a25 := rlAssignableE
  have v25 := rlValueOfE
  have f6 := rlValueOfP
  have f7 := rlTypeP
  have mK := rlMethodKind
  have mE := rlMethodElem
  have mI := rlMethodImplements
  have k27 := rlKindP
  have k25 := rlKindE
  have e27 := rlElemP
  have i25 := rlImplementsE
  have n8 := rlIsNilP ⟨w.heap.size, 0, none⟩ t ((w.alloc (.cells #[.pointer (some t)] 98)).alloc (.cells #[.pointer (some ⟨2, 98, none⟩), .pointer (some ⟨w.heap.size, 0, none⟩), .int .u64 150] 126)) (by simp)
  have hlt : 1 < w.heap.size := Laid.lt hg
  have hg2 : ((w.alloc (.cells #[.pointer (some t)] 98)).alloc (.cells #[.pointer (some ⟨2, 98, none⟩), .pointer (some ⟨w.heap.size, 0, none⟩), .int .u64 150] 126)).cell? ⟨1, 0, none⟩ = some (.iface 141 (.agg #[.pointer (some ⟨2, 26, none⟩)])) := by
    rw [World.cell?_alloc_lt _ _ ⟨1, 0, none⟩ (Nat.lt_of_lt_of_le hlt (by simp)), World.cell?_alloc_lt _ _ ⟨1, 0, none⟩ hlt]; exact hg
  have htl : t.block < w.heap.size := by
    rcases Nat.lt_or_ge t.block w.heap.size with h | h
    · exact h
    · simp [World.cell?, Array.getElem?_eq_none h] at ht0
  have el := rlElemV ⟨w.heap.size, 0, none⟩ t (((w.alloc (.cells #[.pointer (some t)] 98)).alloc (.cells #[.pointer (some ⟨2, 98, none⟩), .pointer (some ⟨w.heap.size, 0, none⟩), .int .u64 150] 126)).alloc (.cells #[.pointer (some ⟨2, 98, none⟩), .pointer (some ⟨w.heap.size, 0, none⟩), .int .u64 150] 126)) (by rw [World.cell?_alloc_lt _ _ ⟨w.heap.size, 0, none⟩ (by simp; omega)]; simp)
  have st := rlSetE t ⟨w.heap.size + 1 + 1 + 1, 0, none⟩ n old ((((w.alloc (.cells #[.pointer (some t)] 98)).alloc (.cells #[.pointer (some ⟨2, 98, none⟩), .pointer (some ⟨w.heap.size, 0, none⟩), .int .u64 150] 126)).alloc (.cells #[.pointer (some ⟨2, 98, none⟩), .pointer (some ⟨w.heap.size, 0, none⟩), .int .u64 150] 126)).alloc (.cells #[.int .i64 n] 64))
    (by rw [World.cell?_alloc_at _ _ _ _ (by simp)]; rfl)
    (by rw [World.cell?_alloc_lt _ _ t (by simp; omega), World.cell?_alloc_lt _ _ t (by simp; omega), World.cell?_alloc_lt _ _ t (by simp; omega), World.cell?_alloc_lt _ _ t htl]; exact ht0)
    (by rw [World.frozen?_alloc_old _ _ t (by simp; omega), World.frozen?_alloc_old _ _ t (by simp; omega), World.frozen?_alloc_old _ _ t (by simp; omega), World.frozen?_alloc_old _ _ t (Nat.ne_of_lt htl)]; exact hf0)
  go_enter Tryd.func54, Tryd.ntmps54
  go_wp2
  refine wp_loop_rounds 1 ?_
  rw [rounds_succ]
  go_wp2
  go_ret
  exact ⟨rfl, rfl⟩

theorem told_nil (w : World) : Calls Tryd.prog 30 #[.nilIface] w fun e w' => e = .returned (.int .i64 0) ∧ w = w' := by
  go_enter Tryd.func30, Tryd.ntmps30
  go_wp2
  go_ret
  exact ⟨rfl, rfl⟩

set_option maxHeartbeats 1000000 in
theorem told_err (n : Int) (w : World) (hg : Laid w) : Calls Tryd.prog 30 #[.iface 64 (.int .i64 n)] w fun e w' => e = .returned (.int .i64 n) ∧ Below w.heap.size w w' := by
  have hgA : (w.alloc (.cells #[.int .i64 0] 64)).cell? ⟨1, 0, none⟩ = some (.iface 141 (.agg #[.pointer (some ⟨2, 26, none⟩)])) := by
    rw [World.cell?_alloc_lt _ _ ⟨1, 0, none⟩ hg.lt]; exact hg
  have htA : (w.alloc (.cells #[.int .i64 0] 64)).cell? ⟨w.heap.size, 0, none⟩ = some (.int .i64 0) := by simp
  have hfA : (w.alloc (.cells #[.int .i64 0] 64)).frozen? ⟨w.heap.size, 0, none⟩ = false := by simp
  clear hg
  go_enter Tryd.func30, Tryd.ntmps30
  go_wp2_with (go_at_call 54; refine (as_hit _ _ _ _ hgA htA hfA).mono ?_; rintro e w' ⟨rfl, rfl⟩)
  go_ret
  refine ⟨rfl, ?_⟩
  exact ((((((Below.refl _ _).alloc (Nat.le_refl _) _).alloc (by simp) _).alloc (by simp; omega) _).alloc (by simp; omega) _).alloc (by simp; omega) _)

/-- vennsame.Error of nil. -/
theorem same_nil (n : Int) (w : World) : Calls Tryd.prog 12 #[.nilIface, .int .i64 n] w fun e w' => e = .returned (.bool (0 == n)) ∧ w = w' := by
  go_enter Tryd.func12, Tryd.ntmps12
  go_wp2_with (go_at_call 30; refine (told_nil _).mono ?_; rintro e w' ⟨rfl, rfl⟩)
  go_ret
  exact ⟨rfl, rfl⟩
/-- vennsame.Error of an Errno. -/
theorem same_err (m n : Int) (w : World) (hg : Laid w) : Calls Tryd.prog 12 #[.iface 64 (.int .i64 m), .int .i64 n] w fun e w' => e = .returned (.bool (m == n)) ∧ Below w.heap.size w w' := by
  have HG : Hid (Laid w) := hg
  clear hg
  go_enter Tryd.func12, Tryd.ntmps12
  go_wp2_with (go_at_call 30; refine (told_err _ _ HG.out).mono ?_; rintro e w' ⟨rfl, hb⟩)
  go_ret
  exact ⟨rfl, hb⟩
end Go.Proofs.YtjaedfjfcghgcaaDoor

namespace Go.Proofs.YtjaedfjfcghgcaaDoor
open Go.ChangeShapes Go.WideShapes Go.ChangeAt Go.RowKit

theorem merr_any (n : Int) (w : World) (hg : Laid w) : Calls Tryd.prog 12 #[errV n, .int .i64 n] w fun e w' => e = .returned (.bool true) ∧ Below w.heap.size w w' := by
  by_cases h : n = 0
  · subst h
    exact (same_nil 0 w).mono fun _ _ h => ⟨h.1, by rw [← h.2]; exact Below.refl _ _⟩
  · rw [errV_no h]
    have := same_err n n w hg
    rw [beq_self_eq_true] at this; exact this
end Go.Proofs.YtjaedfjfcghgcaaDoor

namespace Go.Proofs.YtjaedfjfcghgcaaDoor
open Go.ChangeShapes Go.WideShapes Go.ChangeAt Go.RowKit

/-- block G holds the cells cs, and all of them may be written. -/
def Blk (w : World) (G : Nat) (T : TypeId) (cs : Array Value) : Prop := w.heap[G]? = some (.cells cs T (0, 0))
theorem Blk.lt {w : World} {G : Nat} {T : TypeId} {cs : Array Value} (h : Blk w G T cs) : G < w.heap.size := (Array.getElem?_eq_some_iff.1 h).1
theorem Blk.below {w w' : World} {G : Nat} {T : TypeId} {cs : Array Value} (h : Blk w G T cs) (hb : Below w.heap.size w w') : Blk w' G T cs := by
  unfold Blk; rw [hb.block G h.lt]; exact h
theorem Blk.cell {w : World} {G : Nat} {T : TypeId} {cs : Array Value} (h : Blk w G T cs) (j : Nat) : w.cell? ⟨G, j, none⟩ = cs[j]? := cell_of_row w G j cs T (0, 0) h
theorem Blk.frozen {w : World} {G : Nat} {T : TypeId} {cs : Array Value} (h : Blk w G T cs) (j : Nat) : w.frozen? ⟨G, j, none⟩ = false := frozen_of_row w G j cs T h
theorem Blk.set {w : World} {G : Nat} {T : TypeId} {cs : Array Value} (h : Blk w G T cs) (j : Nat) (u : Value) : Blk (w.setCell ⟨G, j, none⟩ u) G T (cs.setIfInBounds j u) := heap_setCell_same w G j cs T u h
theorem Blk.far {w : World} {G : Nat} {T : TypeId} {cs : Array Value} (h : Blk w G T cs) {R : Nat} (hR : G ≠ R) (j : Nat) (u : Value) : Blk (w.setCell ⟨R, j, none⟩ u) G T cs := by
  unfold Blk; rw [heap_setCell_other w ⟨R, j, none⟩ G u hR]; exact h
theorem Blk.drew {w : World} {G : Nat} {T : TypeId} {cs : Array Value} (h : Blk w G T cs) : Blk w.drew G T cs := h
theorem Blk.new (w : World) (T : TypeId) (cs : Array Value) : Blk (w.alloc (.cells cs T)) w.heap.size T cs := heap_alloc_new w _
theorem Blk.old {w : World} {G : Nat} {T : TypeId} {cs : Array Value} (h : Blk w G T cs) (o : Obj) : Blk (w.alloc o) G T cs := by
  unfold Blk; rw [heap_alloc_old w o h.lt]; exact h

/-- eight numbers. -/
def arr8 (N : Nat → Int) : Array Value := #[.int .i64 (N 0), .int .i64 (N 1), .int .i64 (N 2), .int .i64 (N 3), .int .i64 (N 4), .int .i64 (N 5), .int .i64 (N 6), .int .i64 (N 7)]
theorem arr8_get (N : Nat → Int) {f : Nat} (hf : f < 8) : (arr8 N)[f]? = some (.int .i64 (N f)) := by
  rcases eight hf with rfl | rfl | rfl | rfl | rfl | rfl | rfl | rfl <;> rfl
theorem arr8_one (N : Nat → Int) {f : Nat} (hf : f < 8) : (arr8 N).setIfInBounds f (.int .i64 (N f + 1)) = arr8 (fun g => N g + if f = g then 1 else 0) := by
  rcases eight hf with rfl | rfl | rfl | rfl | rfl | rfl | rfl | rfl <;> simp [arr8]
theorem arr8_same {N M : Nat → Int} (h : ∀ f, f < 8 → N f = M f) : arr8 N = arr8 M := by
  unfold arr8
  rw [h 0 (by omega), h 1 (by omega), h 2 (by omega), h 3 (by omega), h 4 (by omega), h 5 (by omega), h 6 (by omega), h 7 (by omega)]
theorem arr8_all (N M : Nat → Int) : ((((((((arr8 N).setIfInBounds 0 (.int .i64 (M 0))).setIfInBounds 1 (.int .i64 (M 1))).setIfInBounds 2 (.int .i64 (M 2))).setIfInBounds 3 (.int .i64 (M 3))).setIfInBounds 4 (.int .i64 (M 4))).setIfInBounds 5 (.int .i64 (M 5))).setIfInBounds 6 (.int .i64 (M 6))).setIfInBounds 7 (.int .i64 (M 7)) = arr8 M := by
  simp [arr8]
/-- a world's four numbers. -/
def arrW (w : Wd) : Array Value := #[.int .i64 w.u, .int .i64 w.a, .int .i64 w.b, .int .i64 w.c]

theorem load8 {W : World} {R : Nat} {N : Nat → Int} (h : Blk W R 89 (arr8 N)) : (loadVar 89 ⟨R, 0, none⟩).run Tryd.prog W = .ok (.agg (arr8 N)) W := by
  have hl := run_loadCells_list (P := Tryd.prog) W ⟨R, 0, none⟩ (arr8 N).toList (fun j v hj => by
    have := h.cell j
    rw [← Array.getElem?_toList] at this
    rw [hj] at this
    have ha : (⟨R, 0, none⟩ : Addr).add j = ⟨R, j, none⟩ := by unfold Addr.add; split <;> simp_all
    rw [ha]; exact this)
  simp [loadVar, Tryd.isAgg89, Tryd.sizeOf89, Result.andThen, arr8] at hl ⊢
  simp [hl]
theorem Blk.cells8 {w : World} {G : Nat} {T : TypeId} {N : Nat → Int} (h : Blk w G T (arr8 N)) : w.cell? ⟨G, 0, none⟩ = some (.int .i64 (N 0)) ∧ w.cell? ⟨G, 1, none⟩ = some (.int .i64 (N 1)) ∧ w.cell? ⟨G, 2, none⟩ = some (.int .i64 (N 2)) ∧ w.cell? ⟨G, 3, none⟩ = some (.int .i64 (N 3)) ∧ w.cell? ⟨G, 4, none⟩ = some (.int .i64 (N 4)) ∧ w.cell? ⟨G, 5, none⟩ = some (.int .i64 (N 5)) ∧ w.cell? ⟨G, 6, none⟩ = some (.int .i64 (N 6)) ∧ w.cell? ⟨G, 7, none⟩ = some (.int .i64 (N 7)) :=
  ⟨h.cell 0, h.cell 1, h.cell 2, h.cell 3, h.cell 4, h.cell 5, h.cell 6, h.cell 7⟩
theorem Blk.frozen8 {w : World} {G : Nat} {T : TypeId} {cs : Array Value} (h : Blk w G T cs) : w.frozen? ⟨G, 0, none⟩ = false ∧ w.frozen? ⟨G, 1, none⟩ = false ∧ w.frozen? ⟨G, 2, none⟩ = false ∧ w.frozen? ⟨G, 3, none⟩ = false ∧ w.frozen? ⟨G, 4, none⟩ = false ∧ w.frozen? ⟨G, 5, none⟩ = false ∧ w.frozen? ⟨G, 6, none⟩ = false ∧ w.frozen? ⟨G, 7, none⟩ = false :=
  ⟨h.frozen 0, h.frozen 1, h.frozen 2, h.frozen 3, h.frozen 4, h.frozen 5, h.frozen 6, h.frozen 7⟩
theorem Blk.cells4 {w : World} {G : Nat} {T : TypeId} {W : Wd} (h : Blk w G T (arrW W)) : w.cell? ⟨G, 0, none⟩ = some (.int .i64 W.u) ∧ w.cell? ⟨G, 1, none⟩ = some (.int .i64 W.a) ∧ w.cell? ⟨G, 2, none⟩ = some (.int .i64 W.b) ∧ w.cell? ⟨G, 3, none⟩ = some (.int .i64 W.c) :=
  ⟨h.cell 0, h.cell 1, h.cell 2, h.cell 3⟩
theorem Blk.frozen4 {w : World} {G : Nat} {T : TypeId} {cs : Array Value} (h : Blk w G T cs) : w.frozen? ⟨G, 0, none⟩ = false ∧ w.frozen? ⟨G, 1, none⟩ = false ∧ w.frozen? ⟨G, 2, none⟩ = false ∧ w.frozen? ⟨G, 3, none⟩ = false :=
  ⟨h.frozen 0, h.frozen 1, h.frozen 2, h.frozen 3⟩
/-- eight numbers, and a world, written into a block. -/
def put8 (w : World) (R : Nat) (M : Nat → Int) : World := (((((((w.setCell ⟨R, 0, none⟩ (.int .i64 (M 0))).setCell ⟨R, 1, none⟩ (.int .i64 (M 1))).setCell ⟨R, 2, none⟩ (.int .i64 (M 2))).setCell ⟨R, 3, none⟩ (.int .i64 (M 3))).setCell ⟨R, 4, none⟩ (.int .i64 (M 4))).setCell ⟨R, 5, none⟩ (.int .i64 (M 5))).setCell ⟨R, 6, none⟩ (.int .i64 (M 6))).setCell ⟨R, 7, none⟩ (.int .i64 (M 7))
def putW (w : World) (R : Nat) (M : Wd) : World := (((w.setCell ⟨R, 0, none⟩ (.int .i64 M.u)).setCell ⟨R, 1, none⟩ (.int .i64 M.a)).setCell ⟨R, 2, none⟩ (.int .i64 M.b)).setCell ⟨R, 3, none⟩ (.int .i64 M.c)
theorem put8_blk {w : World} {R : Nat} {T : TypeId} {N : Nat → Int} (h : Blk w R T (arr8 N)) (M : Nat → Int) : Blk (put8 w R M) R T (arr8 M) := by
  have := (((((((h.set 0 (.int .i64 (M 0))).set 1 (.int .i64 (M 1))).set 2 (.int .i64 (M 2))).set 3 (.int .i64 (M 3))).set 4 (.int .i64 (M 4))).set 5 (.int .i64 (M 5))).set 6 (.int .i64 (M 6))).set 7 (.int .i64 (M 7))
  rw [arr8_all] at this
  exact this
theorem put8_far {w : World} {R : Nat} {G : Nat} {T : TypeId} {cs : Array Value} (h : Blk w G T cs) (hR : G ≠ R) (M : Nat → Int) : Blk (put8 w R M) G T cs :=
  (((((((h.far hR 0 _).far hR 1 _).far hR 2 _).far hR 3 _).far hR 4 _).far hR 5 _).far hR 6 _).far hR 7 _
theorem put8_below {B : Nat} {w w' : World} {R : Nat} (h : Below B w w') (hR : B ≤ R) (M : Nat → Int) : Below B w (put8 w' R M) :=
  (((((((h.setCell hR _).setCell hR _).setCell hR _).setCell hR _).setCell hR _).setCell hR _).setCell hR _).setCell hR _
theorem putW_blk {w : World} {R : Nat} {T : TypeId} {N : Wd} (h : Blk w R T (arrW N)) (M : Wd) : Blk (putW w R M) R T (arrW M) := by
  have := (((h.set 0 (.int .i64 M.u)).set 1 (.int .i64 M.a)).set 2 (.int .i64 M.b)).set 3 (.int .i64 M.c)
  have e : ((((arrW N).setIfInBounds 0 (.int .i64 M.u)).setIfInBounds 1 (.int .i64 M.a)).setIfInBounds 2 (.int .i64 M.b)).setIfInBounds 3 (.int .i64 M.c) = arrW M := by simp [arrW]
  rw [e] at this
  exact this
theorem putW_far {w : World} {R : Nat} {G : Nat} {T : TypeId} {cs : Array Value} (h : Blk w G T cs) (hR : G ≠ R) (M : Wd) : Blk (putW w R M) G T cs :=
  (((h.far hR 0 _).far hR 1 _).far hR 2 _).far hR 3 _
theorem putW_below {B : Nat} {w w' : World} {R : Nat} (h : Below B w w') (hR : B ≤ R) (M : Wd) : Below B w (putW w' R M) :=
  (((h.setCell hR _).setCell hR _).setCell hR _).setCell hR _
theorem loadW {W : World} {R : Nat} {M : Wd} (h : Blk W R 37 (arrW M)) : (loadVar 37 ⟨R, 0, none⟩).run Tryd.prog W = .ok (.agg (arrW M)) W := by
  have hl := run_loadCells_list (P := Tryd.prog) W ⟨R, 0, none⟩ (arrW M).toList (fun j v hj => by
    have := h.cell j
    rw [← Array.getElem?_toList] at this
    rw [hj] at this
    have ha : (⟨R, 0, none⟩ : Addr).add j = ⟨R, j, none⟩ := by unfold Addr.add; split <;> simp_all
    rw [ha]; exact this)
  simp [loadVar, Tryd.isAgg37, Tryd.sizeOf37, Result.andThen, arrW] at hl ⊢
  simp [hl]
end Go.Proofs.YtjaedfjfcghgcaaDoor
