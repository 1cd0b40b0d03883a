/-
  Proved: what takes, tooMany and isOne of package form return, and slices.ContainsFunc at the function of its Check; what was in memory is as it was (contracts that the statements lean on).
  A slice of formulas, as it lies in memory (what the contracts of chapters 13 to 20 lean on).
  Proved: what term.work returns, of a right term and a right world: the set that the pile comes to; what was in memory is as it was (a contract that the statements lean on).
  Proved: what term.work returns, of a right term and a right world: the set that the pile comes to; what was in memory is as it was (a contract that the statements lean on).
-/
import Derived.Test.YtjaedfjfcghgcabGreatDoorLibT7
import Derived.Test.YtjaedfjfcghgcabGreatDoorLibT9
import Derived.Test.YtjaedfjfcghgcabGreatDoorLibT8
import Derived.OwnWalk
import Derived.Deep.RegionWith
import Derived.Laws.OwnMore
namespace Go.Proofs.YtjaedfjfcghgcabGreatDoor
open Go.ChangeShapes Go.WideShapes Go.ChangeAt Go.RowKit
set_option maxRecDepth 100000

/-- an atom lies at a place. -/
def AtomAt (w : World) (b off : Nat) (a : At) : Prop :=
  ∃ vs vt, w.cell? ⟨b, off, none⟩ = some (.int .i64 a.k) ∧ w.cell? ⟨b, off + 1, none⟩ = some vs ∧ w.cell? ⟨b, off + 2, none⟩ = some vt ∧ w.cell? ⟨b, off + 3, none⟩ = some (.int .i64 a.n) ∧ Reads w vs a.s ∧ Reads w vt a.t
/-- the slice v reads, in the world w, ats these atoms. -/
def ReadsA (w : World) (v : Value) (ats : List At) : Prop :=
  (∃ ao cap, v = .slice ao 0 cap ∧ ats = []) ∨ (∃ b off cap, v = .slice (some ⟨b, off, none⟩) ats.length cap ∧ b < w.heap.size ∧ 0 < ats.length ∧ (ats.length ≤ 9223372036854775807 ∧ ats.length ≤ cap) ∧ ∀ i a, ats[i]? = some a → AtomAt w b (off + i * 4) a)
theorem AtomAt.below {w w' : World} {b off : Nat} {a : At} (h : AtomAt w b off a) (hB : b < w.heap.size) (hb : Below w.heap.size w w') : AtomAt w' b off a := by
  obtain ⟨vs, vt, h1, h2, h3, h4, h5, h6⟩ := h
  exact ⟨vs, vt, by rw [hb.cell hB]; exact h1, by rw [hb.cell hB]; exact h2, by rw [hb.cell hB]; exact h3, by rw [hb.cell hB]; exact h4, h5.below hb, h6.below hb⟩
theorem ReadsA.below {w w' : World} {v : Value} {ats : List At} (h : ReadsA w v ats) (hb : Below w.heap.size w w') : ReadsA w' v ats := by
  rcases h with h | ⟨b, off, cap, h1, h2, h3, h4, h5⟩
  · exact Or.inl h
  · exact Or.inr ⟨b, off, cap, h1, Nat.lt_of_lt_of_le h2 hb.size, h3, h4, fun i a ha => (h5 i a ha).below h2 hb⟩
theorem ReadsA.slice {w : World} {v : Value} {ats : List At} (h : ReadsA w v ats) : ∃ ao cap, v = .slice ao ats.length cap ∧ ats.length ≤ 9223372036854775807 := by
  rcases h with ⟨ao, cap, rfl, rfl⟩ | ⟨b, off, cap, rfl, _, _, h, _⟩
  · exact ⟨ao, cap, rfl, by decide⟩
  · exact ⟨_, cap, rfl, h.1⟩

theorem ftakes_any (s : Int) (w : World) :
    Calls Tryz.prog 22 #[.int .i64 s] w fun e w' => e = .returned (.int .i64 (takesF s)) ∧ w = w' := by
  by_cases h5 : s = 10
  · subst h5
    go_enter Tryz.func22, Tryz.ntmps22
    go_wp2
    go_ret
    exact ⟨rfl, rfl⟩
  by_cases h6 : s = 11
  · subst h6
    go_enter Tryz.func22, Tryz.ntmps22
    go_wp2
    go_ret
    exact ⟨rfl, rfl⟩
  by_cases h7 : s = 13
  · subst h7
    go_enter Tryz.func22, Tryz.ntmps22
    go_wp2
    go_ret
    exact ⟨rfl, rfl⟩
  by_cases h8 : s = 12
  · subst h8
    go_enter Tryz.func22, Tryz.ntmps22
    go_wp2
    go_ret
    exact ⟨rfl, rfl⟩
  have e : takesF s = 0 := by unfold takesF; rw [if_neg (by omega), if_neg h8]
  rw [e]
  clear e
  have h5' : (s == 10) = false := by simpa using h5
  have h6' : (s == 11) = false := by simpa using h6
  have h7' : (s == 13) = false := by simpa using h7
  have h8' : (s == 12) = false := by simpa using h8
  clear h5 h6 h7 h8
  go_enter Tryz.func22, Tryz.ntmps22
  go_wp2
  go_ret
  exact ⟨rfl, rfl⟩

theorem tooMany_any (a s : Int) (w : World) :
    Calls Tryz.prog 43 #[.int .i64 a, .int .i64 s] w fun e w' => e = .returned (.bool (decide (6 < a) || decide (20 < s))) ∧ w = w' := by
  by_cases h1 : 6 < a
  · go_enter Tryz.func43, Tryz.ntmps43
    go_wp2
    go_ret
    exact ⟨by simp [h1], rfl⟩
  · by_cases h2 : 20 < s
    · go_enter Tryz.func43, Tryz.ntmps43
      go_wp2
      go_ret
      exact ⟨by simp, rfl⟩
    · go_enter Tryz.func43, Tryz.ntmps43
      go_wp2
      go_ret
      exact ⟨by simp [h1, h2], rfl⟩

theorem fnoSign_any (m cap P : Nat) (ao : Option Addr) (s : Int) (w : World) (hP : w.cell? ⟨P, 0, none⟩ = some (.slice ao m cap)) :
    Calls Tryz.prog 44 #[.int .i64 s, .pointer (some ⟨P, 0, none⟩)] w fun e w' => e = .returned (.bool (!signF m s)) ∧ w = w' := by
  have HT : Hid (∀ W, Calls Tryz.prog 22 #[.int .i64 s] W fun e w' => e = .returned (.int .i64 (takesF s)) ∧ W = w') := fun W => ftakes_any s W
  by_cases h0 : takesF s = 0
  · rw [h0] at HT
    by_cases h1 : s < 0
    · have e : signF m s = false := by simp [signF, h0, h1]
      rw [e]
      clear e h0
      go_enter Tryz.func44, Tryz.ntmps44
      go_wp2_with (go_at_call 22; refine (HT.out _).mono ?_; rintro e w' ⟨rfl, rfl⟩)
      go_ret
      exact ⟨rfl, rfl⟩
    · by_cases h2 : (m : Int) ≤ s
      · have e : signF m s = false := by simp [signF, h0, h2]
        rw [e]
        clear e h0
        go_enter Tryz.func44, Tryz.ntmps44
        go_wp2_with (go_at_call 22; refine (HT.out _).mono ?_; rintro e w' ⟨rfl, rfl⟩)
        go_ret
        exact ⟨rfl, rfl⟩
      · have e : signF m s = true := by simp [signF, h1, h2]
        rw [e]
        clear e h0
        go_enter Tryz.func44, Tryz.ntmps44
        go_wp2_with (go_at_call 22; refine (HT.out _).mono ?_; rintro e w' ⟨rfl, rfl⟩)
        go_ret
        exact ⟨back_b (by simp; omega), rfl⟩
  · have e : signF m s = true := by simp [signF, h0]
    rw [e]
    clear e
    have h0' : (takesF s == 0) = false := by simpa using h0
    clear h0
    go_enter Tryz.func44, Tryz.ntmps44
    go_wp2_with (go_at_call 22; refine (HT.out _).mono ?_; rintro e w' ⟨rfl, rfl⟩)
    go_ret
    exact ⟨rfl, rfl⟩

/-- the first sign that is none, or -1. -/
def firstBadF (m : Nat) : List Int → Nat → Int
  | [], _ => -1
  | s :: l, k => if signF m s = true then firstBadF m l (k + 1) else k
theorem firstBadF_lt (m : Nat) (t : List Int) (k : Nat) : (firstBadF m t k < 0 ↔ t.all (signF m) = true) ∧ -1 ≤ firstBadF m t k := by
  induction t generalizing k with
  | nil => exact ⟨⟨fun _ => rfl, fun _ => show (-1 : Int) < 0 by decide⟩, Int.le_refl _⟩
  | cons s l ih =>
    unfold firstBadF
    by_cases h : signF m s = true
    · rw [if_pos h]; simpa [h] using ih (k + 1)
    · rw [if_neg h]; simp only [List.all_cons, h]; simp
theorem firstBadF_drop (m : Nat) (t : List Int) {k : Nat} (hk : k < t.length) : firstBadF m (t.drop k) k = if signF m (t.getD k 0) = true then firstBadF m (t.drop (k + 1)) (k + 1) else k := by
  rw [List.drop_eq_getElem_cons hk]
  simp [firstBadF, List.getElem?_eq_getElem hk]

theorem findexFunc_any (m mcap P : Nat) (ao : Option Addr) (b off cap : Nat) (t : List Int) (w : World) (hl : t.length ≤ 9223372036854775807) (hP : w.cell? ⟨P, 0, none⟩ = some (.slice ao m mcap)) (hc : ∀ k, k < t.length → w.cell? ⟨b, off + k, none⟩ = some (.int .i64 (t.getD k 0))) :
    Calls Tryz.prog 87 #[.slice (some ⟨b, off, none⟩) t.length cap, .func (.func 44) #[] #[.pointer (some ⟨P, 0, none⟩)]] w fun e w' => e = .returned (.int .i64 (firstBadF m t 0)) ∧ w = w' := by
  have HF : Hid (∀ {k : Nat}, k < t.length → firstBadF m (t.drop k) k = if signF m (t.getD k 0) = true then firstBadF m (t.drop (k + 1)) (k + 1) else k) := fun {_} h => firstBadF_drop m t h
  have HC : Hid (∀ k, k < t.length → w.cell? ⟨b, off + k, none⟩ = some (.int .i64 (t.getD k 0))) := hc
  clear hc
  have HP : Hid (w.cell? ⟨P, 0, none⟩ = some (.slice ao m mcap)) := hP
  clear hP
  obtain ⟨n, hn⟩ : ∃ n, n = t.length := ⟨_, rfl⟩
  rw [← hn] at hl ⊢
  have HN : Hid (n = t.length) := hn
  clear hn
  go_enter Tryz.func87, Tryz.ntmps87
  go_wp2
  go_loop [8] (fun i => ∃ k : Nat, k ≤ n ∧ i = .int .i64 k ∧ firstBadF m (t.drop k) k = firstBadF m t 0) (fun i => n - (intOf i).toNat)
  case atStart => exact ⟨0, Nat.zero_le _, rfl, rfl⟩
  case round =>
    obtain ⟨k, hk, rfl, hF⟩ := hrel
    have HK : Hid (firstBadF m (t.drop k) k = firstBadF m t 0) := hF
    clear hF
    by_cases hlt : k < n
    · obtain ⟨s, hs⟩ : ∃ s, s = t.getD k 0 := ⟨_, rfl⟩
      have hc := HC.out k (by rw [← HN.out]; exact hlt)
      rw [← hs] at hc
      have HS : Hid (s = t.getD k 0) := hs
      clear hs
      have HD : Hid (firstBadF m (t.drop k) k = if signF m s = true then firstBadF m (t.drop (k + 1)) (k + 1) else k) := by
        have := HF.out (k := k) (by rw [← HN.out]; exact hlt)
        rw [← HS.out] at this; exact this
      by_cases hb : signF m s = true
      · have HD' : Hid (firstBadF m (t.drop (k + 1)) (k + 1) = firstBadF m t 0) := by
          have h1 := HD.out
          rw [if_pos hb] at h1
          exact h1.symm.trans HK.out
        go_wp2_with (go_at_call 44; refine (fnoSign_any m mcap P ao _ _ HP.out).mono ?_; rintro e w' ⟨rfl, rfl⟩)
        go_round
        case rel => exact ⟨k + 1, by omega, by go_num, HD'.out⟩
        case measure => simp [intOf]; omega
      · have HD' : Hid ((k : Int) = firstBadF m t 0) := by
          have h1 := HD.out
          rw [if_neg hb] at h1
          exact h1.symm.trans HK.out
        have hb' : signF m s = false := by simpa using hb
        clear hb
        go_wp2_with (go_at_call 44; refine (fnoSign_any m mcap P ao _ _ HP.out).mono ?_; rintro e w' ⟨rfl, rfl⟩)
        go_ret
        exact ⟨back_i HD'.out, rfl⟩
    · have HE : Hid (firstBadF m t 0 = -1) := by
        have h1 := HK.out
        rw [List.drop_eq_nil_of_le (by have := HN.out; omega)] at h1
        exact h1.symm
      go_wp2
      go_ret
      exact ⟨back_i HE.out.symm, rfl⟩

theorem fcontainsFunc_any (m mcap P : Nat) (ao : Option Addr) (b off cap : Nat) (t : List Int) (w : World) (hl : t.length ≤ 9223372036854775807) (hP : w.cell? ⟨P, 0, none⟩ = some (.slice ao m mcap)) (hc : ∀ k, k < t.length → w.cell? ⟨b, off + k, none⟩ = some (.int .i64 (t.getD k 0))) :
    Calls Tryz.prog 45 #[.slice (some ⟨b, off, none⟩) t.length cap, .func (.func 44) #[] #[.pointer (some ⟨P, 0, none⟩)]] w fun e w' => e = .returned (.bool (!t.all (signF m))) ∧ w = w' := by
  have c := findexFunc_any m mcap P ao b off cap t w hl hP hc
  clear hc hP
  obtain ⟨h1, h2⟩ := firstBadF_lt m t 0
  obtain ⟨n, hn⟩ : ∃ n, n = firstBadF m t 0 := ⟨_, rfl⟩
  rw [← hn] at c h1 h2
  clear hn
  by_cases h : t.all (signF m) = true
  · obtain rfl : n = -1 := by have := h1.2 h; omega
    rw [h]
    clear h1 h2 h
    go_enter Tryz.func45, Tryz.ntmps45
    go_wp2_with (go_at_call 87; refine c.mono ?_; rintro e w' ⟨rfl, rfl⟩)
    go_ret
    exact ⟨rfl, rfl⟩
  · have h0 : 0 ≤ n := by
      rcases Int.lt_or_le n 0 with h' | h'
      · exact absurd (h1.1 h') h
      · exact h'
    have h' : t.all (signF m) = false := by simpa using h
    rw [h']
    clear h1 h2 h h'
    go_enter Tryz.func45, Tryz.ntmps45
    go_wp2_with (go_at_call 87; refine c.mono ?_; rintro e w' ⟨rfl, rfl⟩)
    go_ret
    exact ⟨rfl, rfl⟩

theorem fisOne_any (b off cap : Nat) (t : List Int) (w : World) (hl : t.length ≤ 20) (hc : ∀ k, k < t.length → w.cell? ⟨b, off + k, none⟩ = some (.int .i64 (t.getD k 0))) :
    Calls Tryz.prog 46 #[.slice (some ⟨b, off, none⟩) t.length cap] w fun e w' => e = .returned (.bool (decide (cntF t 0 = some 1))) ∧ w = w' := by
  have HC : Hid (∀ k, k < t.length → w.cell? ⟨b, off + k, none⟩ = some (.int .i64 (t.getD k 0))) := hc
  clear hc
  obtain ⟨n, hn⟩ : ∃ n, n = t.length := ⟨_, rfl⟩
  rw [← hn] at hl ⊢
  have HN : Hid (n = t.length) := hn
  clear hn
  obtain ⟨R, hR⟩ : ∃ R, R = decide (cntF t 0 = some 1) := ⟨_, rfl⟩
  rw [← hR]
  have HR : Hid (R = decide (cntF t 0 = some 1)) := hR
  clear hR
  go_enter Tryz.func46, Tryz.ntmps46
  go_wp2
  go_loop [3, 8] (fun c i => ∃ (k : Nat) (m : Int), k ≤ n ∧ i = .int .i64 k ∧ c = .int .i64 m ∧ cntF (t.take k) 0 = some m) (fun _ i => n - (intOf i).toNat)
  case atStart => exact ⟨0, 0, Nat.zero_le _, rfl, rfl, rfl⟩
  case round =>
    obtain ⟨k, m, hk, rfl, rfl, hm⟩ := hrel
    have HM : Hid (cntF (t.take k) 0 = some m) := hm
    have hm0 : 0 ≤ m ∧ m ≤ 20 := by
      have := cntF_nonneg (Int.le_refl 0) hm
      simp at this
      omega
    clear hm
    by_cases hlt : k < n
    · obtain ⟨s, hs⟩ : ∃ s, s = t.getD k 0 := ⟨_, rfl⟩
      have hc := HC.out k (by rw [← HN.out]; exact hlt)
      rw [← hs] at hc
      have HD : Hid (cntF (t.take (k + 1)) 0 = if m < takesF s then none else some (m + 1 - takesF s)) := by
        have := cntF_take_succ t (k := k) (by rw [← HN.out]; exact hlt) HM.out
        rw [← hs] at this; exact this
      clear hs
      have ht := takesF_range s
      by_cases hb : m < takesF s
      · have HE : Hid (R = false) := by
          have h1 := HD.out
          rw [if_pos hb] at h1
          have h2 := cntF_take_none t (k + 1) h1
          have h3 := HR.out
          rw [h2] at h3
          exact h3.trans (by decide)
        go_wp2_with (go_at_call 22; refine (ftakes_any _ _).mono ?_; rintro e w' ⟨rfl, rfl⟩)
        go_ret
        exact ⟨back_b HE.out.symm, rfl⟩
      · have HE : Hid (cntF (t.take (k + 1)) 0 = some (m + (1 - takesF s))) := by
          have h1 := HD.out
          rw [if_neg hb] at h1
          rw [show m + (1 - takesF s) = m + 1 - takesF s by omega]
          exact h1
        go_wp2_with (go_at_call 22; refine (ftakes_any _ _).mono ?_; rintro e w' ⟨rfl, rfl⟩)
        go_round
        case rel => exact ⟨k + 1, _, by omega, by go_num, rfl, HE.out⟩
        case measure => simp [intOf]; omega
    · have HE : Hid (R = (m == 1)) := by
        have h1 := HM.out
        rw [List.take_of_length_le (by have := HN.out; omega)] at h1
        have h3 := HR.out
        rw [h1] at h3
        rw [h3]
        by_cases h : m = 1
        · subst h; rfl
        · rw [decide_eq_false (by simpa using h)]; exact (beq_eq_false_iff_ne.2 h).symm
      go_wp2
      go_ret
      exact ⟨back_b HE.out.symm, rfl⟩
end Go.Proofs.YtjaedfjfcghgcabGreatDoor


namespace Go.Proofs.YtjaedfjfcghgcabGreatDoor
open Go.ChangeShapes Go.WideShapes Go.ChangeAt Go.RowKit

/-- at this place in memory lies a formula. -/
def FormAt (w : World) (b off : Nat) (f : Fm) : Prop :=
  ∃ va vc, w.cell? ⟨b, off, none⟩ = some va ∧ w.cell? ⟨b, off + 1, none⟩ = some vc ∧ ReadsA w va f.ats ∧ Reads w vc f.c
/-- the slice v reads, in the world w, as these formulas. -/
def ReadsF (w : World) (v : Value) (fs : List Fm) : Prop :=
  (∃ ao cap, v = .slice ao 0 cap ∧ fs = []) ∨ (∃ b off cap, v = .slice (some ⟨b, off, none⟩) fs.length cap ∧ b < w.heap.size ∧ 0 < fs.length ∧ (fs.length ≤ 9223372036854775807 ∧ fs.length ≤ cap) ∧ ∀ i f, fs[i]? = some f → FormAt w b (off + i * 2) f)
theorem FormAt.below {w w' : World} {b off : Nat} {f : Fm} (h : FormAt w b off f) (hB : b < w.heap.size) (hb : Below w.heap.size w w') : FormAt w' b off f := by
  obtain ⟨va, vc, h0, h1, h2, h3⟩ := h
  exact ⟨va, vc, (hb.cell hB).trans h0, (hb.cell hB).trans h1, h2.below hb, h3.below hb⟩
theorem ReadsF.below {w w' : World} {v : Value} {fs : List Fm} (h : ReadsF w v fs) (hb : Below w.heap.size w w') : ReadsF w' v fs := by
  rcases h with h | ⟨b, off, cap, h1, h2, h3, h4, h5⟩
  · exact Or.inl h
  · exact Or.inr ⟨b, off, cap, h1, Nat.lt_of_lt_of_le h2 hb.size, h3, h4, fun i f hf => (h5 i f hf).below h2 hb⟩
theorem ReadsF.slice {w : World} {v : Value} {fs : List Fm} (h : ReadsF w v fs) : ∃ ao cap, v = .slice ao fs.length cap ∧ fs.length ≤ 9223372036854775807 := by
  rcases h with ⟨ao, cap, rfl, rfl⟩ | ⟨b, off, cap, rfl, _, _, h, _⟩
  · exact ⟨ao, cap, rfl, by decide⟩
  · exact ⟨_, cap, rfl, h.1⟩
/-- the i-th of them. -/
theorem ReadsF.at {w : World} {b off n cap : Nat} {fs : List Fm} (h : ReadsF w (.slice (some ⟨b, off, none⟩) n cap) fs) {i : Nat} {f : Fm} (hf : fs[i]? = some f) : b < w.heap.size ∧ FormAt w b (off + i * 2) f := by
  rcases h with ⟨ao, cap', hv, h0⟩ | ⟨b', off', cap', hv, h2, _, _, h5⟩
  · rw [h0] at hf; simp at hf
  · obtain ⟨h1, _, _⟩ := Value.slice.inj hv
    obtain ⟨rfl, rfl, _⟩ := Addr.mk.inj (Option.some.inj h1)
    exact ⟨h2, h5 i f hf⟩
theorem ReadsF.place {w : World} {v : Value} {fs : List Fm} (h : ReadsF w v fs) (h0 : 0 < fs.length) : ∃ b off cap, v = .slice (some ⟨b, off, none⟩) fs.length cap := by
  rcases h with ⟨ao, cap', _, hz⟩ | ⟨b', off', cap', hv, _⟩
  · rw [hz] at h0; simp at h0
  · exact ⟨b', off', cap', hv⟩
end Go.Proofs.YtjaedfjfcghgcabGreatDoor


namespace Go.Proofs.YtjaedfjfcghgcabGreatDoor
open Go.ChangeShapes Go.WideShapes Go.ChangeAt Go.RowKit

theorem infoInt : (Tryz.prog.info? 3).map (fun i => (i.zero, i.size, i.bytes)) = some (some (.int .i64 0), 1, 8) := by kernel_rfl

theorem ownsRow_below {w w' : World} {base : Nat} {e : TypeId} {size : Nat} {v : Value} {n : Nat} {xs : List Value} (h : w.ownsRow base e size v n xs) (hb : Below w.heap.size w w') : w'.ownsRow base e size v n xs := by
  obtain ⟨h1, h2⟩ := h
  refine ⟨h1, ?_⟩
  rcases h2 with h2 | ⟨g, cap, cur, hv, hg, hh, r⟩
  · exact .inl h2
  · refine .inr ⟨g, cap, cur, hv, hg, ?_, r⟩
    rw [hb.block g (Array.getElem?_eq_some_iff.1 hh).1]; exact hh
theorem ownsRow_take {w : World} {base : Nat} {e : TypeId} {g cap n r : Nat} {xs : List Value} (h : w.ownsRow base e 1 (.slice (some ⟨g, 0, none⟩) n cap) n xs) (hr : r ≤ n) : w.ownsRow base e 1 (.slice (some ⟨g, 0, none⟩) r cap) r (xs.take r) := by
  obtain ⟨h1, h2⟩ := h
  rcases h2 with ⟨h0, _⟩ | ⟨g', cap', cur, hv, hg, hh, hn, hcap, hsz, htake⟩
  · cases h0
  · cases hv
    refine ⟨by rw [List.length_take]; omega, .inr ⟨g, cap, cur, rfl, hg, hh, by omega, hcap, hsz, ?_⟩⟩
    rw [← htake, List.take_take]
    congr 1
    omega
/-- an owned row of numbers: its cells. -/
theorem ownsRow_int {w : World} {base : Nat} {e : TypeId} {g cap : Nat} {p : List Int} (h : w.ownsRow base e 1 (.slice (some ⟨g, 0, none⟩) p.length cap) p.length (p.map (Value.int .i64))) {j : Nat} (hj : j < p.length) : w.cell? ⟨g, j, none⟩ = some (.int .i64 (p.getD j 0)) := by
  rw [h.cellAt j (by omega)]
  simp [List.getElem?_eq_getElem hj]
theorem ownsRow_block {w : World} {base : Nat} {e : TypeId} {size g n cap : Nat} {xs : List Value} (h : w.ownsRow base e size (.slice (some ⟨g, 0, none⟩) n cap) n xs) : base ≤ g ∧ g < w.heap.size ∧ n ≤ cap := by
  rcases h.2 with ⟨h0, _⟩ | ⟨g', cap', cur, hv, hg, hh, hn, _⟩
  · cases h0
  · cases hv
    exact ⟨hg, (Array.getElem?_eq_some_iff.1 hh).1, hn⟩

theorem step_leaf (w : Wd) (p : List Int) (s : Int) (h : s ≤ 4) : w.step p s = p.take p.length ++ [w.made s []] := by
  unfold Wd.step restN
  rw [takes5 s (by omega), made_leaf w s _ h]; rfl
theorem step_one (w : Wd) (p : List Int) (h : 1 ≤ p.length) : w.step p 8 = p.take (p.length - 1) ++ [doN 8 w.u (p.getD (p.length - 1) 0) (p.getD (p.length - 1) 0)] := by
  unfold Wd.step restN
  rw [takes1, made_do w 8 _ (by omega)]
  have e : (p.drop (p.length - 1)) = [p.getD (p.length - 1) 0] := by
    rw [List.drop_eq_getElem_cons (by omega), List.drop_eq_nil_of_le (by omega)]
    simp [List.getElem?_eq_getElem (show p.length - 1 < p.length by omega)]
  simp only [show (1 : Int).toNat = 1 from rfl, e]; rfl
theorem step_two (w : Wd) (p : List Int) (s : Int) (h5 : 5 ≤ s) (h7 : s ≤ 7) (h : 2 ≤ p.length) : w.step p s = p.take (p.length - 2) ++ [doN s w.u (p.getD (p.length - 2) 0) (p.getD (p.length - 2 + 1) 0)] := by
  unfold Wd.step restN
  rw [takes2 s h5 h7, made_do w s _ h5]
  have e : (p.drop (p.length - 2)) = [p.getD (p.length - 2) 0, p.getD (p.length - 2 + 1) 0] := by
    rw [List.drop_eq_getElem_cons (by omega), List.drop_eq_getElem_cons (by omega), List.drop_eq_nil_of_le (by omega)]
    simp [List.getElem?_eq_getElem (show p.length - 2 < p.length by omega), List.getElem?_eq_getElem (show p.length - 2 + 1 < p.length by omega)]
  simp only [show (2 : Int).toNat = 2 from rfl, e]; rfl

/-- what a round leaves. -/
theorem work_rel {w1 wr wm w2 : World} {K : Nat} {v v' : Value} {p q : List Int} {r : Nat} {X : Int} (hK : K ≤ wr.heap.size) (hb : Below K w1 wr) (hm : Below wr.heap.size wr wm)
    (hown : w2.ownsRow K 3 1 v' (r + 1) (((p.take r).map (Value.int .i64)) ++ [.int .i64 X])) (hv : ∀ k, v.ownBlock = some k → K ≤ k)
    (hg : (wm.alloc (.cells #[.int .i64 X] 3)).grownBy w2 v.ownBlock) (hr : r ≤ p.length) (hq : q = p.take r ++ [X]) :
    w2.ownsRow K 3 1 v' q.length (q.map (Value.int .i64)) ∧ Below K w1 w2 ∧ K ≤ w2.heap.size := by
  have hs : wr.heap.size ≤ wm.heap.size := hm.size
  have e1 : q.length = r + 1 := by rw [hq]; simp; omega
  have e2 : q.map (Value.int .i64) = ((p.take r).map (Value.int .i64)) ++ [.int .i64 X] := by rw [hq]; simp
  have b1 : Below K w1 (wm.alloc (.cells #[.int .i64 X] 3)) := (hb.trans (hm.mono hK)).alloc (by omega) _
  have b2 : Below K w1 w2 := b1.grown hg (by simp; omega) hv
  refine ⟨by rw [e1, e2]; exact hown, b2, ?_⟩
  have := hg.size
  simp at this
  omega
end Go.Proofs.YtjaedfjfcghgcabGreatDoor


namespace Go.Proofs.YtjaedfjfcghgcabGreatDoor
open Go.ChangeShapes Go.WideShapes Go.ChangeAt Go.RowKit

/-- behind a draw or some. -/
theorem below_of_drew {w wm : World} (h : Below w.drew.heap.size w.drew wm) : Below w.heap.size w wm := ((Below.refl _ w).drew).trans h

set_option maxRecDepth 100000 in
set_option maxHeartbeats 4000000 in
theorem work_any (u a b c : Int) (t : List Int) (B off cap : Nat) (w : World) (hw : (Wd.mk u a b c).ok = true) (hs : t.all signB = true) (hone : cnt t 0 = some 1) (hl : t.length ≤ 12) (hB : B < w.heap.size)
    (hc : ∀ k, k < t.length → w.cell? ⟨B, off + k, none⟩ = some (.int .i64 (t.getD k 0))) :
    Calls Tryz.prog 149 #[.slice (some ⟨B, off, none⟩) t.length cap, .agg #[.int .i64 u, .int .i64 a, .int .i64 b, .int .i64 c]] w fun e w' => e = .returned (.tuple #[.int .i64 ((Wd.mk u a b c).val t), .nilIface]) ∧ Below w.heap.size w w' := by
  obtain ⟨i0, hi, hz0, hz1, hz2⟩ := info_parts infoInt
  obtain ⟨w1, hw1⟩ : ∃ w1, w1 = w.alloc (.cells #[.int .i64 u, .int .i64 a, .int .i64 b, .int .i64 c] 34) := ⟨_, rfl⟩
  obtain ⟨K, hK⟩ : ∃ K, K = w.heap.size + 1 := ⟨_, rfl⟩
  have HK1 : Hid (w1.heap.size = K) := by unfold Hid; rw [hw1, hK]; simp
  have HC : Hid (∀ k, k < t.length → w1.cell? ⟨B, off + k, none⟩ = some (.int .i64 (t.getD k 0))) := fun k hk => by
    rw [hw1, World.cell?_alloc_lt _ _ ⟨B, off + k, none⟩ hB]; exact hc k hk
  have HX : Hid (w1.cell? ⟨w.heap.size, 0, none⟩ = some (.int .i64 u) ∧ w1.cell? ⟨w.heap.size, 1, none⟩ = some (.int .i64 a) ∧ w1.cell? ⟨w.heap.size, 2, none⟩ = some (.int .i64 b) ∧ w1.cell? ⟨w.heap.size, 3, none⟩ = some (.int .i64 c)) := by
    unfold Hid; rw [hw1]; simp
  have HBK : Hid (B < K ∧ w.heap.size < K) := ⟨by omega, by omega⟩
  have HW : Hid (Below w.heap.size w w1) := by unfold Hid; rw [hw1]; exact below_alloc1 _ _
  have HKs : Hid (w.heap.size ≤ K) := by unfold Hid; omega
  clear hc hB hK
  obtain ⟨n, hn⟩ : ∃ n, n = t.length := ⟨_, rfl⟩
  rw [← hn] at hl ⊢
  have HN : Hid (n = t.length) := hn
  clear hn
  have HOK : Hid ((Wd.mk u a b c).ok = true) := hw
  have HS : Hid (t.all signB = true) := hs
  have HO : Hid (cnt t 0 = some 1) := hone
  clear hw hs hone
  obtain ⟨V, hV⟩ : ∃ V, V = (Wd.mk u a b c).val t := ⟨_, rfl⟩
  rw [← hV]
  have HV : Hid (V = (Wd.mk u a b c).val t) := hV
  clear hV
  go_enter Tryz.func149, Tryz.ntmps149
  go_wp2
  rw [← hw1]
  clear hw1
  go_loopw [6, 14] (fun v i wr => ∃ (k : Nat) (p : List Int), k ≤ n ∧ i = .int .i64 k ∧ wr.ownsRow K 3 1 v p.length (p.map (Value.int .i64)) ∧ Below K w1 wr ∧ K ≤ wr.heap.size ∧ p = (Wd.mk u a b c).pile (t.take k) [])
    (fun _ i _ => n - (intOf i).toNat)
  case atStart => exact ⟨0, [], Nat.zero_le _, rfl, World.ownsRow_nil _ _ _ _, Below.refl _ _, by rw [HK1.out]; exact Nat.le_refl _, rfl⟩
  case round =>
    obtain ⟨k, p, hk, rfl, hown0, hbel0, hKw0, hp0⟩ := hrel
    have hkt0 : cnt (t.take k) 0 = some (p.length : Int) := by
      obtain ⟨m, hm⟩ := cnt_take_some t k HO.out
      have := pile_length (Wd.mk u a b c) (t.take k) [] hm
      rw [← hp0] at this
      rw [this]; exact hm
    by_cases hlt : k < n
    · obtain ⟨s, hs⟩ : ∃ s, s = t.getD k 0 := ⟨_, rfl⟩
      have hkt : k < t.length := by rw [← HN.out]; exact hlt
      have hcell : wr.cell? ⟨B, off + k, none⟩ = some (.int .i64 s) := by rw [hs, hbel0.cell HBK.out.1]; exact HC.out k hkt
      have x0 : wr.cell? ⟨w.heap.size, 0, none⟩ = some (.int .i64 u) := by rw [hbel0.cell HBK.out.2]; exact HX.out.1
      have x1 : wr.cell? ⟨w.heap.size, 1, none⟩ = some (.int .i64 a) := by rw [hbel0.cell HBK.out.2]; exact HX.out.2.1
      have x2 : wr.cell? ⟨w.heap.size, 2, none⟩ = some (.int .i64 b) := by rw [hbel0.cell HBK.out.2]; exact HX.out.2.2.1
      have x3 : wr.cell? ⟨w.heap.size, 3, none⟩ = some (.int .i64 c) := by rw [hbel0.cell HBK.out.2]; exact HX.out.2.2.2
      have hsg : 0 ≤ s ∧ s ≤ 8 := by
        refine signB_iff.1 (List.all_eq_true.1 HS.out s ?_)
        rw [hs, List.getD_eq_getElem?_getD, List.getElem?_eq_getElem hkt]; exact List.getElem_mem hkt
      have htk : takesN s ≤ p.length := by
        have h1 := cnt_take_succ t hkt hkt0
        rw [← hs] at h1
        obtain ⟨m, hm⟩ := cnt_take_some t (k + 1) HO.out
        by_cases h2 : (p.length : Int) < takesN s
        · rw [if_pos h2] at h1; rw [h1] at hm; cases hm
        · omega
      have HP : Hid ((Wd.mk u a b c).step p s = (Wd.mk u a b c).pile (t.take (k + 1)) []) := by
        unfold Hid; rw [pile_succ _ t [] hkt, ← hs, ← hp0]
      have hpl : p.length ≤ 12 := by
        have := (cnt_nonneg (Int.le_refl 0) hkt0).2
        simp at this; omega
      have HOKP : Hid (∀ j, okB u (p.getD j 0) = true) := fun j => by
        rw [hp0]
        exact ok_getD HOK.out (ok_pile HOK.out (t.take k) (p := []) (by intro x hx; cases hx)) j
      clear hs hkt hkt0 hp0
      have HBEL : Hid (Below K w1 wr) := hbel0
      have HKW : Hid (K ≤ wr.heap.size) := hKw0
      clear hbel0 hKw0
      by_cases h4 : s ≤ 4
      · have ht : takesN s = 0 := takes5 s (by omega)
        have HM : Hid (∀ v W, Calls Tryz.prog 167 #[.int .i64 s, v, .agg #[.int .i64 u, .int .i64 a, .int .i64 b, .int .i64 c]] W fun e w' => e = .returned (.tuple #[.int .i64 ((Wd.mk u a b c).made s []), .nilIface]) ∧ Below W.heap.size W w') := fun v W => made_leaf_any u a b c s v W hsg.1 h4 HOK.out
        have HQ : Hid ((Wd.mk u a b c).step p s = p.take p.length ++ [(Wd.mk u a b c).made s []]) := step_leaf _ p s h4
        obtain ⟨X, hX⟩ : ∃ X, X = (Wd.mk u a b c).made s [] := ⟨_, rfl⟩
        rw [← hX] at HM HQ
        clear hX htk hsg h4
        rcases hown0.2 with ⟨rfl, hp0⟩ | ⟨g, cap', cur, rfl, hg, hh, hm, hmax, _, _⟩
        · obtain rfl : p = [] := List.eq_nil_of_length_eq_zero hp0
          clear hown0 hp0
          go_wp2_with (go_at_call 132; refine (takes_any _ _).mono ?_; rintro e w' ⟨rfl, rfl⟩)
          go_region_with (first | (go_at_call 167; refine (HM.out _ _).mono ?_; rintro e wm ⟨rfl, hbm⟩))
          go_wp2_with (first | (at_builtin; refine wpList_append_own _ rfl (.tmp 37) (.tmp 39) 23 rfl K 3 i0 (.int .i64 0) 1 8 Tryz.underlying23 hi hz0 hz1 hz2 rfl (by decide) (.slice none 0 0) 0 [] rfl (World.ownsRow_nil _ _ _ _) ⟨wm.heap.size, 0, none⟩ 1 1 [.int .i64 X] rfl rfl ?a1 ?a2 ?a3 ?a4 ?a5 ?_))
          case a1 =>
            intro j y hj
            match j, hj with
            | 0, hj => simp at hj; subst hj; simp [Addr.add]
          case a2 => intro y hy; simp at hy; subst hy; rfl
          case a3 => unfold maxLen; omega
          case a4 => omega
          case a5 => have h1 := hbm.size; have h2 := HKW.out; simp at h1 ⊢; omega
          intro v' w2 hown' hgrow _
          have R := work_rel (q := (Wd.mk u a b c).pile (t.take (k + 1)) []) HKW.out HBEL.out (below_of_drew hbm) hown' (by intro k hk; cases hk) hgrow (Nat.le_refl _) (HP.out.symm.trans HQ.out)
          clear hown' hgrow hbm
          go_wp2
          go_roundw
          case rel => exact ⟨k + 1, _, by omega, by go_num, R.1, R.2.1, R.2.2, rfl⟩
          case measure => simp [intOf]; omega
        · obtain ⟨m, hm0⟩ : ∃ m, m = p.length := ⟨_, rfl⟩
          have HOW : Hid (wr.ownsRow K 3 1 (.slice (some ⟨g, 0, none⟩) m cap') m (p.map (Value.int .i64))) := by
            unfold Hid; rw [hm0]; exact hown0
          rw [← hm0] at HQ hm hpl ⊢
          have HM0 : Hid (m = p.length) := hm0
          clear hown0 hm0 hh
          by_cases hcap : cap' = m
          · subst hcap
            go_wp2_with (go_at_call 132; refine (takes_any _ _).mono ?_; rintro e w' ⟨rfl, rfl⟩)
            go_region_with (first | (go_at_call 167; refine (HM.out _ _).mono ?_; rintro e wm ⟨rfl, hbm⟩))
            have HOm := ownsRow_below HOW.out (below_of_drew hbm)
            go_wp2_with (first | (at_builtin; refine wpList_append_own _ rfl (.tmp 37) (.tmp 39) 23 rfl K 3 i0 (.int .i64 0) 1 8 Tryz.underlying23 hi hz0 hz1 hz2 rfl (by decide) (.slice (some ⟨g, 0, none⟩) cap' cap') cap' ((p.map (Value.int .i64)).take cap') rfl ((ownsRow_take HOm (by have := HM0.out; omega)).alloc _) ⟨wm.heap.size, 0, none⟩ 1 1 [.int .i64 X] rfl rfl ?e1 ?e2 ?e3 ?e4 ?e5 ?_))
            case e1 =>
              intro j y hj
              match j, hj with
              | 0, hj => simp at hj; subst hj; simp [Addr.add]
            case e2 => intro y hy; simp at hy; subst hy; rfl
            case e3 => unfold maxLen; omega
            case e4 => omega
            case e5 => have h1 := hbm.size; have h2 := HKW.out; simp at h1 ⊢; omega
            intro v' w2 hown' hgrow _
            have R := work_rel (q := (Wd.mk u a b c).pile (t.take (k + 1)) []) HKW.out HBEL.out (below_of_drew hbm) (by rw [List.map_take]; exact hown') (by intro k hk; cases hk; exact hg) hgrow (by have := HM0.out; omega) (HP.out.symm.trans HQ.out)
            clear hown' hgrow hbm HOm
            go_wp2
            go_roundw
            case rel => exact ⟨k + 1, _, by omega, by go_num, R.1, R.2.1, R.2.2, rfl⟩
            case measure => simp [intOf]; omega
          · go_wp2_with (go_at_call 132; refine (takes_any _ _).mono ?_; rintro e w' ⟨rfl, rfl⟩)
            go_region_with (first | (go_at_call 167; refine (HM.out _ _).mono ?_; rintro e wm ⟨rfl, hbm⟩))
            have HOm := ownsRow_below HOW.out (below_of_drew hbm)
            go_wp2_with (first | (at_builtin; refine wpList_append_own _ rfl (.tmp 37) (.tmp 39) 23 rfl K 3 i0 (.int .i64 0) 1 8 Tryz.underlying23 hi hz0 hz1 hz2 rfl (by decide) (.slice (some ⟨g, 0, none⟩) m cap') m ((p.map (Value.int .i64)).take m) rfl ((ownsRow_take HOm (by have := HM0.out; omega)).alloc _) ⟨wm.heap.size, 0, none⟩ 1 1 [.int .i64 X] rfl rfl ?b1 ?b2 ?b3 ?b4 ?b5 ?_))
            case b1 =>
              intro j y hj
              match j, hj with
              | 0, hj => simp at hj; subst hj; simp [Addr.add]
            case b2 => intro y hy; simp at hy; subst hy; rfl
            case b3 => unfold maxLen; omega
            case b4 => omega
            case b5 => have h1 := hbm.size; have h2 := HKW.out; simp at h1 ⊢; omega
            intro v' w2 hown' hgrow _
            have R := work_rel (q := (Wd.mk u a b c).pile (t.take (k + 1)) []) HKW.out HBEL.out (below_of_drew hbm) (by rw [List.map_take]; exact hown') (by intro k hk; cases hk; exact hg) hgrow (by have := HM0.out; omega) (HP.out.symm.trans HQ.out)
            clear hown' hgrow hbm HOm
            go_wp2
            go_roundw
            case rel => exact ⟨k + 1, _, by omega, by go_num, R.1, R.2.1, R.2.2, rfl⟩
            case measure => simp [intOf]; omega
      by_cases h8 : s = 8
      · subst h8
        rw [takes1] at htk
        have ht : takesN 8 = 1 := takes1
        rcases hown0.2 with ⟨rfl, hp0⟩ | ⟨g, cap', cur, rfl, hg, hh, hm, hmax, _, _⟩
        · omega
        · obtain ⟨r, hr⟩ : ∃ r, p.length = r + 1 := ⟨p.length - 1, by omega⟩
          have HM0 : Hid (p.length = r + 1) := hr
          have HOW : Hid (wr.ownsRow K 3 1 (.slice (some ⟨g, 0, none⟩) (r + 1) cap') (r + 1) (p.map (Value.int .i64))) := by
            unfold Hid; rw [← hr]; exact hown0
          have hcx : Hid (∀ W, Below wr.heap.size wr W → W.cell? ⟨g, r, none⟩ = some (.int .i64 (p.getD r 0))) := fun W hb => by
            rw [hb.cell (ownsRow_block hown0).2.1]; exact ownsRow_int hown0 (by omega)
          have HG : Hid (g < wr.heap.size) := (ownsRow_block hown0).2.1
          obtain ⟨x, hx⟩ : ∃ x, x = p.getD r 0 := ⟨_, rfl⟩
          have HX' : Hid (okB u x = true) := by unfold Hid; rw [hx]; exact HOKP.out r
          rw [← hx] at hcx
          have HM : Hid (∀ W c', Below wr.heap.size wr W → Calls Tryz.prog 167 #[.int .i64 8, .slice (some ⟨g, r, none⟩) 1 c', .agg #[.int .i64 u, .int .i64 a, .int .i64 b, .int .i64 c]] W fun e w' => e = .returned (.tuple #[.int .i64 (doN 8 u x x), .nilIface]) ∧ Below W.heap.size W w') := fun W c' hb => made_one_any u a b c 8 x g r c' W (by omega) (by omega) HX'.out (Nat.lt_of_lt_of_le HG.out hb.size) (hcx.out W hb)
          have HQ : Hid ((Wd.mk u a b c).step p 8 = p.take r ++ [doN 8 u x x]) := by
            have := step_one (Wd.mk u a b c) p (by omega)
            rw [hr, Nat.add_sub_cancel, ← hx] at this; exact this
          obtain ⟨X, hX⟩ : ∃ X, X = doN 8 u x x := ⟨_, rfl⟩
          rw [← hX] at HM HQ
          have hle : (r : Int) ≤ (r : Int) + 1 := by omega
          have hcap : ¬ cap' = r := by omega
          have hcap2 : r < cap' := by omega
          rw [hr] at hm hpl ⊢
          clear hX hx hcx hown0 hh hr htk
          go_wp2_with (go_at_call 132; refine (takes_any _ _).mono ?_; rintro e w' ⟨rfl, rfl⟩)
          go_region_with (first | (go_at_call 167; refine (HM.out _ _ ((Below.refl _ wr).drew)).mono ?_; rintro e wm ⟨rfl, hbm⟩))
          have HOm := ownsRow_below HOW.out (below_of_drew hbm)
          go_wp2_with (first | (at_builtin; refine wpList_append_own _ rfl (.tmp 37) (.tmp 39) 23 rfl K 3 i0 (.int .i64 0) 1 8 Tryz.underlying23 hi hz0 hz1 hz2 rfl (by decide) (.slice (some ⟨g, 0, none⟩) r cap') r ((p.map (Value.int .i64)).take r) rfl ((ownsRow_take HOm (by have := HM0.out; omega)).alloc _) ⟨wm.heap.size, 0, none⟩ 1 1 [.int .i64 X] rfl rfl ?c1 ?c2 ?c3 ?c4 ?c5 ?_))
          case c1 =>
            intro j y hj
            match j, hj with
            | 0, hj => simp at hj; subst hj; simp [Addr.add]
          case c2 => intro y hy; simp at hy; subst hy; rfl
          case c3 => unfold maxLen; omega
          case c4 => omega
          case c5 => have h1 := hbm.size; have h2 := HKW.out; simp at h1 ⊢; omega
          intro v' w2 hown' hgrow _
          have R := work_rel (q := (Wd.mk u a b c).pile (t.take (k + 1)) []) HKW.out HBEL.out (below_of_drew hbm) (by rw [List.map_take]; exact hown') (by intro k hk; cases hk; exact hg) hgrow (by have := HM0.out; omega) (HP.out.symm.trans HQ.out)
          clear hown' hgrow hbm HOm
          go_wp2
          go_roundw
          case rel => exact ⟨k + 1, _, by omega, by go_num, R.1, R.2.1, R.2.2, rfl⟩
          case measure => simp [intOf]; omega
      · have h7 : s ≤ 7 := by omega
        have h5 : 5 ≤ s := by omega
        have ht : takesN s = 2 := takes2 s h5 h7
        rw [ht] at htk
        rcases hown0.2 with ⟨rfl, hp0⟩ | ⟨g, cap', cur, rfl, hg, hh, hm, hmax, _, _⟩
        · omega
        · obtain ⟨r, hr⟩ : ∃ r, p.length = r + 2 := ⟨p.length - 2, by omega⟩
          have HM0 : Hid (p.length = r + 2) := hr
          have HOW : Hid (wr.ownsRow K 3 1 (.slice (some ⟨g, 0, none⟩) (r + 2) cap') (r + 2) (p.map (Value.int .i64))) := by
            unfold Hid; rw [← hr]; exact hown0
          have hcx : Hid (∀ W, Below wr.heap.size wr W → W.cell? ⟨g, r, none⟩ = some (.int .i64 (p.getD r 0))) := fun W hb => by
            rw [hb.cell (ownsRow_block hown0).2.1]; exact ownsRow_int hown0 (by omega)
          have hcy : Hid (∀ W, Below wr.heap.size wr W → W.cell? ⟨g, r + 1, none⟩ = some (.int .i64 (p.getD (r + 1) 0))) := fun W hb => by
            rw [hb.cell (ownsRow_block hown0).2.1]; exact ownsRow_int hown0 (by omega)
          have HG : Hid (g < wr.heap.size) := (ownsRow_block hown0).2.1
          obtain ⟨x, hx⟩ : ∃ x, x = p.getD r 0 := ⟨_, rfl⟩
          obtain ⟨y, hy⟩ : ∃ y, y = p.getD (r + 1) 0 := ⟨_, rfl⟩
          have HX' : Hid (okB u x = true) := by unfold Hid; rw [hx]; exact HOKP.out r
          have HY' : Hid (okB u y = true) := by unfold Hid; rw [hy]; exact HOKP.out (r + 1)
          rw [← hx] at hcx
          rw [← hy] at hcy
          have HM : Hid (∀ W c', Below wr.heap.size wr W → Calls Tryz.prog 167 #[.int .i64 s, .slice (some ⟨g, r, none⟩) 2 c', .agg #[.int .i64 u, .int .i64 a, .int .i64 b, .int .i64 c]] W fun e w' => e = .returned (.tuple #[.int .i64 (doN s u x y), .nilIface]) ∧ Below W.heap.size W w') := fun W c' hb => made_two_any u a b c s x y g r c' W (by omega) (by omega) HX'.out HY'.out (Nat.lt_of_lt_of_le HG.out hb.size) (hcx.out W hb) (hcy.out W hb)
          have HQ : Hid ((Wd.mk u a b c).step p s = p.take r ++ [doN s u x y]) := by
            have := step_two (Wd.mk u a b c) p s h5 h7 (by omega)
            rw [hr, Nat.add_sub_cancel, ← hx, ← hy] at this; exact this
          obtain ⟨X, hX⟩ : ∃ X, X = doN s u x y := ⟨_, rfl⟩
          rw [← hX] at HM HQ
          have hle : (r : Int) ≤ (r : Int) + 2 := by omega
          have hcap : ¬ cap' = r := by omega
          have hcap2 : r < cap' := by omega
          rw [hr] at hm hpl ⊢
          clear hX hx hy hcx hcy hown0 hh hr htk h4 h8
          go_wp2_with (go_at_call 132; refine (takes_any _ _).mono ?_; rintro e w' ⟨rfl, rfl⟩)
          go_region_with (first | (go_at_call 167; refine (HM.out _ _ ((Below.refl _ wr).drew)).mono ?_; rintro e wm ⟨rfl, hbm⟩))
          have HOm := ownsRow_below HOW.out (below_of_drew hbm)
          go_wp2_with (first | (at_builtin; refine wpList_append_own _ rfl (.tmp 37) (.tmp 39) 23 rfl K 3 i0 (.int .i64 0) 1 8 Tryz.underlying23 hi hz0 hz1 hz2 rfl (by decide) (.slice (some ⟨g, 0, none⟩) r cap') r ((p.map (Value.int .i64)).take r) rfl ((ownsRow_take HOm (by have := HM0.out; omega)).alloc _) ⟨wm.heap.size, 0, none⟩ 1 1 [.int .i64 X] rfl rfl ?d1 ?d2 ?d3 ?d4 ?d5 ?_))
          case d1 =>
            intro j y hj
            match j, hj with
            | 0, hj => simp at hj; subst hj; simp [Addr.add]
          case d2 => intro y hy; simp at hy; subst hy; rfl
          case d3 => unfold maxLen; omega
          case d4 => omega
          case d5 => have h1 := hbm.size; have h2 := HKW.out; simp at h1 ⊢; omega
          intro v' w2 hown' hgrow _
          have R := work_rel (q := (Wd.mk u a b c).pile (t.take (k + 1)) []) HKW.out HBEL.out (below_of_drew hbm) (by rw [List.map_take]; exact hown') (by intro k hk; cases hk; exact hg) hgrow (by have := HM0.out; omega) (HP.out.symm.trans HQ.out)
          clear hown' hgrow hbm HOm
          go_wp2
          go_roundw
          case rel => exact ⟨k + 1, _, by omega, by go_num, R.1, R.2.1, R.2.2, rfl⟩
          case measure => simp [intOf]; omega
    · obtain rfl : k = n := by omega
      rw [List.take_of_length_le (by rw [← HN.out]; exact Nat.le_refl _)] at hkt0 hp0
      have h1 : p.length = 1 := by
        rw [HO.out] at hkt0
        have := Option.some.inj hkt0
        omega
      have HVp : Hid (p.getD 0 0 = V) := by unfold Hid; rw [HV.out, hp0]; rfl
      have HF : Hid (Below w.heap.size w wr) := HW.out.trans (hbel0.mono HKs.out)
      rcases hown0.2 with ⟨rfl, hp0⟩ | ⟨g, cap', cur, rfl, hg, hh, hm, hmax, _, _⟩
      · omega
      · have hcx : wr.cell? ⟨g, 0, none⟩ = some (.int .i64 V) := by rw [← HVp.out]; exact ownsRow_int hown0 (by omega)
        rw [h1]
        clear hown0 hh hkt0 hp0 hbel0 hKw0
        go_wp2
        go_ret2
        exact ⟨rfl, HF.out⟩
end Go.Proofs.YtjaedfjfcghgcabGreatDoor

