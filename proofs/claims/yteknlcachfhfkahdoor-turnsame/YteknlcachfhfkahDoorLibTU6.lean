/-
  Proved: what term.Check returns, of any row of signs, and that it leaves memory as it was (a contract that the statements lean on); with it takes, isOne, and slices.ContainsFunc at Check's own function.
  Proved: what sets.Check and sets.Do return, of any numbers, and that it leaves memory as it was (contracts that the statements lean on).
  Proved: what term.made returns, of a right sign, the sets that it takes, and a right world; what was in memory is as it was (a contract that the statements lean on).
  Proved: what term.work returns, of a right term and a right world: the set that the pile comes to; what was in memory is as it was (a contract that the statements lean on).
-/
import Derived.Test.YteknlcachfhfkahDoorRows
import Derived.Test.YteknlcachfhfkahDoorLibTU1
import Derived.WalkKit
import Derived.ProofKit
import Derived.OpenShut
import Derived.Deep.QuietTactic
import Derived.BigQuiet
import Derived.RegionTactic
import Derived.ChangeAlike
import Derived.OwnWalk
import Derived.Deep.RegionWith
import Derived.Laws.OwnMore
namespace Go.Proofs.YteknlcachfhfkahDoor
open Go.ChangeShapes Go.WideShapes Go.ChangeAt Go.RowKit

/-- the slice v reads, in the world w, as the numbers t. -/
def Reads (w : World) (v : Value) (t : List Int) : Prop :=
  (∃ ao cap, v = .slice ao 0 cap ∧ t = []) ∨ (∃ b off cap, v = .slice (some ⟨b, off, none⟩) t.length cap ∧ b < w.heap.size ∧ 0 < t.length ∧ (t.length ≤ 9223372036854775807 ∧ t.length ≤ cap) ∧ ∀ k, k < t.length → w.cell? ⟨b, off + k, none⟩ = some (.int .i64 (t.getD k 0)))
theorem Reads.below {w w' : World} {v : Value} {t : List Int} (h : Reads w v t) (hb : Below w.heap.size w w') : Reads w' v t := by
  rcases h with h | ⟨b, off, cap, h1, h2, h3, h4, h5⟩
  · exact Or.inl h
  · exact Or.inr ⟨b, off, cap, h1, Nat.lt_of_lt_of_le h2 hb.size, h3, h4, fun k hk => by rw [hb.cell h2]; exact h5 k hk⟩

/-- a world as a value. -/
def Wd.v (w : Wd) : Value := .agg #[.int .i64 w.u, .int .i64 w.a, .int .i64 w.b, .int .i64 w.c]
/-- an error by its number: 0 is none. -/
def errV (n : Int) : Value := if n = 0 then .nilIface else .iface 67 (.int .i64 n)

theorem back_b {a b : Bool} (h : a = b) : Ending.returned (.bool a) = .returned (.bool b) := by rw [h]
theorem back_i {k : IntKind} {a b : Int} (h : a = b) : Ending.returned (.int k a) = .returned (.int k b) := by rw [h]
theorem back_v {a b : Value} (h : a = b) : Ending.returned a = .returned b := by rw [h]

theorem takes_any (s : Int) (w : World) :
    Calls Tryd.prog 93 #[.int .i64 s] w fun e w' => e = .returned (.int .i64 (takesN s)) ∧ w = w' := by
  by_cases h5 : s = 5
  · subst h5
    go_enter Tryd.func93, Tryd.ntmps93
    go_wp2
    go_ret
    exact ⟨rfl, rfl⟩
  by_cases h6 : s = 6
  · subst h6
    go_enter Tryd.func93, Tryd.ntmps93
    go_wp2
    go_ret
    exact ⟨rfl, rfl⟩
  by_cases h7 : s = 7
  · subst h7
    go_enter Tryd.func93, Tryd.ntmps93
    go_wp2
    go_ret
    exact ⟨rfl, rfl⟩
  by_cases h8 : s = 8
  · subst h8
    go_enter Tryd.func93, Tryd.ntmps93
    go_wp2
    go_ret
    exact ⟨rfl, rfl⟩
  have e : takesN s = 0 := by unfold takesN; rw [if_neg (by omega), if_neg h8]
  rw [e]
  clear e
  have h5' : (s == 5) = false := by simpa using h5
  have h6' : (s == 6) = false := by simpa using h6
  have h7' : (s == 7) = false := by simpa using h7
  have h8' : (s == 8) = false := by simpa using h8
  clear h5 h6 h7 h8
  go_enter Tryd.func93, Tryd.ntmps93
  go_wp2
  go_ret
  exact ⟨rfl, rfl⟩

theorem noSign_any (s : Int) (w : World) :
    Calls Tryd.prog 78 #[.int .i64 s] w fun e w' => e = .returned (.bool (!signB s)) ∧ w = w' := by
  by_cases h0 : s < 0
  · have e : signB s = false := by simp [signB]; omega
    rw [e]
    clear e
    go_enter Tryd.func78, Tryd.ntmps78
    go_wp2
    go_ret
    exact ⟨rfl, rfl⟩
  by_cases h8 : 8 < s
  · have e : signB s = false := by simp [signB]; omega
    rw [e]
    clear e
    go_enter Tryd.func78, Tryd.ntmps78
    go_wp2
    go_ret
    exact ⟨rfl, rfl⟩
  have e : signB s = true := by simp [signB]; omega
  rw [e]
  clear e
  go_enter Tryd.func78, Tryd.ntmps78
  go_wp2
  go_ret
  exact ⟨rfl, rfl⟩

/-- the first sign that is none, or -1. -/
def firstBad : List Int → Nat → Int
  | [], _ => -1
  | s :: l, k => if signB s = true then firstBad l (k + 1) else k
theorem firstBad_lt (t : List Int) (k : Nat) : (firstBad t k < 0 ↔ t.all signB = true) ∧ -1 ≤ firstBad t k := by
  induction t generalizing k with
  | nil => exact ⟨⟨fun _ => rfl, fun _ => show (-1 : Int) < 0 by decide⟩, Int.le_refl _⟩
  | cons s l ih =>
    unfold firstBad
    by_cases h : signB s = true
    · rw [if_pos h]; simpa [h] using ih (k + 1)
    · rw [if_neg h]; simp only [List.all_cons, h]; simp
theorem firstBad_drop (t : List Int) {k : Nat} (hk : k < t.length) : firstBad (t.drop k) k = if signB (t.getD k 0) = true then firstBad (t.drop (k + 1)) (k + 1) else k := by
  rw [List.drop_eq_getElem_cons hk]
  simp [firstBad, List.getElem?_eq_getElem hk]

theorem indexFunc_any (b off cap : Nat) (t : List Int) (w : World) (hl : t.length ≤ 9223372036854775807) (hc : ∀ k, k < t.length → w.cell? ⟨b, off + k, none⟩ = some (.int .i64 (t.getD k 0))) :
    Calls Tryd.prog 90 #[.slice (some ⟨b, off, none⟩) t.length cap, .func (.func 78) #[] #[]] w fun e w' => e = .returned (.int .i64 (firstBad t 0)) ∧ w = w' := by
  have HF : Hid (∀ {k : Nat}, k < t.length → firstBad (t.drop k) k = if signB (t.getD k 0) = true then firstBad (t.drop (k + 1)) (k + 1) else k) := fun {_} h => firstBad_drop t h
  have HC : Hid (∀ k, k < t.length → w.cell? ⟨b, off + k, none⟩ = some (.int .i64 (t.getD k 0))) := hc
  clear hc
  obtain ⟨n, hn⟩ : ∃ n, n = t.length := ⟨_, rfl⟩
  rw [← hn] at hl ⊢
  have HN : Hid (n = t.length) := hn
  clear hn
  go_enter Tryd.func90, Tryd.ntmps90
  go_wp2
  go_loop [8] (fun i => ∃ k : Nat, k ≤ n ∧ i = .int .i64 k ∧ firstBad (t.drop k) k = firstBad t 0) (fun i => n - (intOf i).toNat)
  case atStart => exact ⟨0, Nat.zero_le _, rfl, rfl⟩
  case round =>
    obtain ⟨k, hk, rfl, hF⟩ := hrel
    have HK : Hid (firstBad (t.drop k) k = firstBad t 0) := hF
    clear hF
    by_cases hlt : k < n
    · obtain ⟨s, hs⟩ : ∃ s, s = t.getD k 0 := ⟨_, rfl⟩
      have hc := HC.out k (by rw [← HN.out]; exact hlt)
      rw [← hs] at hc
      have HS : Hid (s = t.getD k 0) := hs
      clear hs
      have HD : Hid (firstBad (t.drop k) k = if signB s = true then firstBad (t.drop (k + 1)) (k + 1) else k) := by
        have := HF.out (k := k) (by rw [← HN.out]; exact hlt)
        rw [← HS.out] at this; exact this
      by_cases hb : signB s = true
      · have HD' : Hid (firstBad (t.drop (k + 1)) (k + 1) = firstBad t 0) := by
          have h1 := HD.out
          rw [if_pos hb] at h1
          exact h1.symm.trans HK.out
        go_wp2_with (go_at_call 78; refine (noSign_any _ _).mono ?_; rintro e w' ⟨rfl, rfl⟩)
        go_round
        case rel => exact ⟨k + 1, by omega, by go_num, HD'.out⟩
        case measure => simp [intOf]; omega
      · have HD' : Hid ((k : Int) = firstBad t 0) := by
          have h1 := HD.out
          rw [if_neg hb] at h1
          exact h1.symm.trans HK.out
        have hb' : signB s = false := by simpa using hb
        clear hb
        go_wp2_with (go_at_call 78; refine (noSign_any _ _).mono ?_; rintro e w' ⟨rfl, rfl⟩)
        go_ret
        exact ⟨back_i HD'.out, rfl⟩
    · have HE : Hid (firstBad t 0 = -1) := by
        have h1 := HK.out
        rw [List.drop_eq_nil_of_le (by have := HN.out; omega)] at h1
        exact h1.symm
      go_wp2
      go_ret
      exact ⟨back_i HE.out.symm, rfl⟩

theorem containsFunc_any (b off cap : Nat) (t : List Int) (w : World) (hl : t.length ≤ 9223372036854775807) (hc : ∀ k, k < t.length → w.cell? ⟨b, off + k, none⟩ = some (.int .i64 (t.getD k 0))) :
    Calls Tryd.prog 71 #[.slice (some ⟨b, off, none⟩) t.length cap, .func (.func 78) #[] #[]] w fun e w' => e = .returned (.bool (!t.all signB)) ∧ w = w' := by
  have c := indexFunc_any b off cap t w hl hc
  clear hc
  obtain ⟨h1, h2⟩ := firstBad_lt t 0
  obtain ⟨n, hn⟩ : ∃ n, n = firstBad t 0 := ⟨_, rfl⟩
  rw [← hn] at c h1 h2
  clear hn
  by_cases h : t.all signB = true
  · obtain rfl : n = -1 := by have := h1.2 h; omega
    rw [h]
    clear h1 h2 h
    go_enter Tryd.func71, Tryd.ntmps71
    go_wp2_with (go_at_call 90; refine c.mono ?_; rintro e w' ⟨rfl, rfl⟩)
    go_ret
    exact ⟨rfl, rfl⟩
  · have h0 : 0 ≤ n := by
      rcases Int.lt_or_le n 0 with h' | h'
      · exact absurd (h1.1 h') h
      · exact h'
    have h' : t.all signB = false := by simpa using h
    rw [h']
    clear h1 h2 h h'
    go_enter Tryd.func71, Tryd.ntmps71
    go_wp2_with (go_at_call 90; refine c.mono ?_; rintro e w' ⟨rfl, rfl⟩)
    go_ret
    exact ⟨rfl, rfl⟩

theorem isOne_any (b off cap : Nat) (t : List Int) (w : World) (hl : t.length ≤ 12) (hc : ∀ k, k < t.length → w.cell? ⟨b, off + k, none⟩ = some (.int .i64 (t.getD k 0))) :
    Calls Tryd.prog 79 #[.slice (some ⟨b, off, none⟩) t.length cap] w fun e w' => e = .returned (.bool (decide (cnt t 0 = some 1))) ∧ w = w' := by
  have HC : Hid (∀ k, k < t.length → w.cell? ⟨b, off + k, none⟩ = some (.int .i64 (t.getD k 0))) := hc
  clear hc
  obtain ⟨n, hn⟩ : ∃ n, n = t.length := ⟨_, rfl⟩
  rw [← hn] at hl ⊢
  have HN : Hid (n = t.length) := hn
  clear hn
  obtain ⟨R, hR⟩ : ∃ R, R = decide (cnt t 0 = some 1) := ⟨_, rfl⟩
  rw [← hR]
  have HR : Hid (R = decide (cnt t 0 = some 1)) := hR
  clear hR
  go_enter Tryd.func79, Tryd.ntmps79
  go_wp2
  go_loop [3, 8] (fun c i => ∃ (k : Nat) (m : Int), k ≤ n ∧ i = .int .i64 k ∧ c = .int .i64 m ∧ cnt (t.take k) 0 = some m) (fun _ i => n - (intOf i).toNat)
  case atStart => exact ⟨0, 0, Nat.zero_le _, rfl, rfl, rfl⟩
  case round =>
    obtain ⟨k, m, hk, rfl, rfl, hm⟩ := hrel
    have HM : Hid (cnt (t.take k) 0 = some m) := hm
    have hm0 : 0 ≤ m ∧ m ≤ 12 := by
      have := cnt_nonneg (Int.le_refl 0) hm
      simp at this
      omega
    clear hm
    by_cases hlt : k < n
    · obtain ⟨s, hs⟩ : ∃ s, s = t.getD k 0 := ⟨_, rfl⟩
      have hc := HC.out k (by rw [← HN.out]; exact hlt)
      rw [← hs] at hc
      have HD : Hid (cnt (t.take (k + 1)) 0 = if m < takesN s then none else some (m + 1 - takesN s)) := by
        have := cnt_take_succ t (k := k) (by rw [← HN.out]; exact hlt) HM.out
        rw [← hs] at this; exact this
      clear hs
      have ht := takesN_range s
      by_cases hb : m < takesN s
      · have HE : Hid (R = false) := by
          have h1 := HD.out
          rw [if_pos hb] at h1
          have h2 := cnt_take_none t (k + 1) h1
          have h3 := HR.out
          rw [h2] at h3
          exact h3.trans (by decide)
        go_wp2_with (go_at_call 93; refine (takes_any _ _).mono ?_; rintro e w' ⟨rfl, rfl⟩)
        go_ret
        exact ⟨back_b HE.out.symm, rfl⟩
      · have HE : Hid (cnt (t.take (k + 1)) 0 = some (m + (1 - takesN s))) := by
          have h1 := HD.out
          rw [if_neg hb] at h1
          rw [show m + (1 - takesN s) = m + 1 - takesN s by omega]
          exact h1
        go_wp2_with (go_at_call 93; refine (takes_any _ _).mono ?_; rintro e w' ⟨rfl, rfl⟩)
        go_round
        case rel => exact ⟨k + 1, _, by omega, by go_num, rfl, HE.out⟩
        case measure => simp [intOf]; omega
    · have HE : Hid (R = (m == 1)) := by
        have h1 := HM.out
        rw [List.take_of_length_le (by have := HN.out; omega)] at h1
        have h3 := HR.out
        rw [h1] at h3
        rw [h3]
        by_cases h : m = 1
        · subst h; rfl
        · rw [decide_eq_false (by simpa using h)]; exact (beq_eq_false_iff_ne.2 h).symm
      go_wp2
      go_ret
      exact ⟨back_b HE.out.symm, rfl⟩

/-- Check, whatever the row of signs. -/
theorem tcheck_any (t : List Int) (v : Value) (w : World) (h : Reads w v t) :
    Calls Tryd.prog 56 #[v] w fun e w' => e = .returned (errV (faultN t)) ∧ w = w' := by
  rcases h with ⟨ao, cap, rfl, rfl⟩ | ⟨b, off, cap, rfl, -, h0, ⟨hl, _⟩, hc⟩
  · go_enter Tryd.func56, Tryd.ntmps56
    go_wp2
    go_ret
    exact ⟨rfl, rfl⟩
  · have cF := containsFunc_any b off cap t w hl hc
    by_cases h12 : 12 < t.length
    · have e : errV (faultN t) = .iface 67 (.int .i64 4) := by unfold faultN; rw [if_neg (by omega), if_pos h12]; rfl
      rw [e]
      clear e hc cF
      obtain ⟨n, hn⟩ : ∃ n, n = t.length := ⟨_, rfl⟩
      rw [← hn] at h0 hl h12 ⊢
      clear hn
      go_enter Tryd.func56, Tryd.ntmps56
      go_wp2
      go_ret
      exact ⟨rfl, rfl⟩
    have hl12 : t.length ≤ 12 := by omega
    have cO := isOne_any b off cap t w hl12 hc
    clear hc
    obtain ⟨F, hF⟩ : ∃ F, F = faultN t := ⟨_, rfl⟩
    rw [← hF]
    have HF : Hid (F = if t.all signB = true then (if cnt t 0 = some 1 then 0 else 3) else 1) := by
      unfold Hid; rw [hF]; unfold faultN; rw [if_neg (by omega), if_neg h12]
    clear hF
    obtain ⟨n, hn⟩ : ∃ n, n = t.length := ⟨_, rfl⟩
    rw [← hn] at h0 hl hl12 h12 cF cO ⊢
    clear hn
    obtain ⟨x, hx⟩ : ∃ x, x = t.all signB := ⟨_, rfl⟩
    obtain ⟨y, hy⟩ : ∃ y, y = decide (cnt t 0 = some 1) := ⟨_, rfl⟩
    rw [← hx] at cF
    rw [← hy] at cO
    have HF' : Hid (F = if x = true then (if y = true then 0 else 3) else 1) := by
      unfold Hid; rw [HF.out, hx, hy]; simp only [decide_eq_true_eq]
    clear HF hx hy
    have HP : Hid (Calls Tryd.prog 71 #[.slice (some ⟨b, off, none⟩) n cap, .func (.func 78) #[] #[]] w fun e w' => e = .returned (.bool (!x)) ∧ w = w') := cF
    have HQ : Hid (Calls Tryd.prog 79 #[.slice (some ⟨b, off, none⟩) n cap] w fun e w' => e = .returned (.bool y) ∧ w = w') := cO
    clear cF cO
    cases x <;> cases y
    all_goals
      go_enter Tryd.func56, Tryd.ntmps56
      go_wp2_with (first | (go_at_call 71; refine HP.out.mono ?_; rintro e w' ⟨rfl, rfl⟩) | (go_at_call 79; refine HQ.out.mono ?_; rintro e w' ⟨rfl, rfl⟩))
      go_ret
      exact ⟨back_v (by rw [HF'.out]; rfl), rfl⟩
theorem below_alloc1 (w : World) (o : Obj) : Below w.heap.size w (w.alloc o) := (Below.refl _ _).alloc (Nat.le_refl _) _
theorem errV_no {n : Int} (h : ¬ n = 0) : errV n = .iface 67 (.int .i64 n) := by unfold errV; rw [if_neg h]
end Go.Proofs.YteknlcachfhfkahDoor

namespace Go.Proofs.YteknlcachfhfkahDoor
open Go.ChangeShapes Go.WideShapes Go.ChangeAt Go.RowKit

theorem ret_int {k : IntKind} {a b : Int} (h : a = b) : Ending.returned (.int k a) = .returned (.int k b) := by rw [h]

theorem all_any (u : Int) (h0 : 0 ≤ u) (h1 : u ≤ 6) (w : World) :
    Calls Tryd.prog 80 #[.int .i64 u] w fun e w' => e = .returned (.int .i64 (allN u)) ∧ w = w' := by
  rcases seven h0 h1 with rfl | rfl | rfl | rfl | rfl | rfl | rfl
  all_goals
    go_enter Tryd.func80, Tryd.ntmps80
    go_wp2
    go_ret
    exact ⟨rfl, rfl⟩

theorem check_ok (u s : Int) (h : okB u s = true) (w : World) :
    Calls Tryd.prog 57 #[.int .i64 u, .int .i64 s] w fun e w' => e = .returned .nilIface ∧ w = w' := by
  obtain ⟨h0, h1, h2, h3⟩ := okB_iff.1 h
  clear h
  go_enter Tryd.func57, Tryd.ntmps57
  go_wp2_with (go_at_call 80; refine (all_any _ h0 h1 _).mono ?_; rintro e w' ⟨rfl, rfl⟩)
  go_ret
  exact ⟨rfl, rfl⟩

theorem check_no (u s : Int) (h : okB u s = false) (w : World) :
    Calls Tryd.prog 57 #[.int .i64 u, .int .i64 s] w fun e w' => e = .returned (.iface 67 (.int .i64 1)) ∧ w = w' := by
  have h' := okB_not.1 h
  clear h
  by_cases h0 : u < 0
  · clear h'
    go_enter Tryd.func57, Tryd.ntmps57
    go_wp2_with fail
    go_ret
    exact ⟨rfl, rfl⟩
  by_cases h1 : 6 < u
  · clear h'
    go_enter Tryd.func57, Tryd.ntmps57
    go_wp2_with fail
    go_ret
    exact ⟨rfl, rfl⟩
  by_cases h2 : s < 0
  · clear h'
    go_enter Tryd.func57, Tryd.ntmps57
    go_wp2_with fail
    go_ret
    exact ⟨rfl, rfl⟩
  have h3 : allN u < s := by omega
  have h0' : 0 ≤ u := by omega
  have h1' : u ≤ 6 := by omega
  clear h'
  go_enter Tryd.func57, Tryd.ntmps57
  go_wp2_with (go_at_call 80; refine (all_any _ h0' h1' _).mono ?_; rintro e w' ⟨rfl, rfl⟩)
  go_ret
  exact ⟨rfl, rfl⟩

theorem ret_two {k : IntKind} {a b : Int} {v : Value} (h : a = b) : Ending.returned (.tuple #[.int k a, v]) = .returned (.tuple #[.int k b, v]) := by rw [h]

theorem do_ok (what u a b : Int) (hl : 5 ≤ what) (hm : what ≤ 8) (ha : okB u a = true) (hb : okB u b = true) (w : World) :
    Calls Tryd.prog 102 #[.int .i64 what, .int .i64 u, .int .i64 a, .int .i64 b] w fun e w' => e = .returned (.tuple #[.int .i64 (doN what u a b), .nilIface]) ∧ w = w' := by
  obtain ⟨u0, u1, a0, a1⟩ := okB_lt ha
  obtain ⟨_, _, b0, b1⟩ := okB_lt hb
  have hd : what = 5 ∨ what = 6 ∨ what = 7 ∨ what = 8 := by omega
  clear hl hm
  rcases hd with rfl | rfl | rfl | rfl
  · go_enter Tryd.func102, Tryd.ntmps102
    go_wp2_with (go_at_call 57; refine (check_ok _ _ ?_ _).mono ?_; assumption; rintro e w' ⟨rfl, rfl⟩)
    go_ret2
    exact ⟨ret_two (or_bits a b a0 a1 b0 b1), rfl⟩
  · go_enter Tryd.func102, Tryd.ntmps102
    go_wp2_with (go_at_call 57; refine (check_ok _ _ ?_ _).mono ?_; assumption; rintro e w' ⟨rfl, rfl⟩)
    go_ret2
    exact ⟨ret_two (and_bits a b a0 a1 b0 b1), rfl⟩
  · go_enter Tryd.func102, Tryd.ntmps102
    go_wp2_with (go_at_call 57; refine (check_ok _ _ ?_ _).mono ?_; assumption; rintro e w' ⟨rfl, rfl⟩)
    go_ret2
    exact ⟨ret_two (less_bits a b a0 a1 b0 b1), rfl⟩
  · go_enter Tryd.func102, Tryd.ntmps102
    go_wp2_with (first | (go_at_call 57; refine (check_ok _ _ ?_ _).mono ?_; assumption; rintro e w' ⟨rfl, rfl⟩) | (go_at_call 80; refine (all_any _ u0 u1 _).mono ?_; rintro e w' ⟨rfl, rfl⟩))
    go_ret2
    have hu := allN_le u0 u1
    exact ⟨ret_two (less_bits (allN u) a hu.1 (by omega) a0 a1), rfl⟩

theorem do_no (what u a b : Int) (h : okB u a = false ∨ okB u b = false ∨ what < 5 ∨ 8 < what) (w : World) :
    Calls Tryd.prog 102 #[.int .i64 what, .int .i64 u, .int .i64 a, .int .i64 b] w fun e w' => e = .returned (.tuple #[.int .i64 0, .iface 67 (.int .i64 1)]) ∧ w = w' := by
  by_cases ha : okB u a = false
  · clear h
    go_enter Tryd.func102, Tryd.ntmps102
    go_wp2_with (go_at_call 57; refine (check_no _ _ ha _).mono ?_; rintro e w' ⟨rfl, rfl⟩)
    go_ret2
    exact ⟨rfl, rfl⟩
  have ha' : okB u a = true := by simpa using ha
  by_cases hb : okB u b = false
  · clear h ha
    go_enter Tryd.func102, Tryd.ntmps102
    go_wp2_with (go_at_call 57; (first | (refine (check_ok _ _ ?_ _).mono ?_; assumption) | (refine (check_no _ _ ?_ _).mono ?_; assumption)); rintro e w' ⟨rfl, rfl⟩)
    go_ret2
    exact ⟨rfl, rfl⟩
  have hb' : okB u b = true := by simpa using hb
  have hw : what < 5 ∨ 8 < what := by simpa [ha', hb'] using h
  clear ha hb h
  rcases hw with hw | hw
  all_goals
    go_enter Tryd.func102, Tryd.ntmps102
    go_wp2_with (go_at_call 57; refine (check_ok _ _ ?_ _).mono ?_; assumption; rintro e w' ⟨rfl, rfl⟩)
    go_ret2
    exact ⟨rfl, rfl⟩
end Go.Proofs.YteknlcachfhfkahDoor

namespace Go.Proofs.YteknlcachfhfkahDoor
open Go.ChangeShapes Go.WideShapes Go.ChangeAt Go.RowKit

theorem below_drewNs (w : World) : ∀ n, Below w.heap.size w (w.drewN n)
  | 0 => Below.refl _ _
  | n + 1 => (below_drewNs w n).drew

theorem back_two {k : IntKind} {a b : Int} {v : Value} (h : a = b) : Ending.returned (.tuple #[.int k a, v]) = .returned (.tuple #[.int k b, v]) := by rw [h]

set_option maxHeartbeats 1000000 in
theorem made_leaf_any (u a b c s : Int) (v : Value) (w : World) (h0 : 0 ≤ s) (h4 : s ≤ 4) (hw : (Wd.mk u a b c).ok = true) :
    Calls Tryd.prog 98 #[.int .i64 s, v, .agg #[.int .i64 u, .int .i64 a, .int .i64 b, .int .i64 c]] w fun e w' => e = .returned (.tuple #[.int .i64 ((Wd.mk u a b c).made s []), .nilIface]) ∧ Below w.heap.size w w' := by
  have hd : s = 0 ∨ s = 1 ∨ s = 2 ∨ s = 3 ∨ s = 4 := by omega
  have z : okB u 0 = true := ok_zero (ok_u hw).1 (ok_u hw).2
  clear h0 h4 hw
  rcases hd with rfl | rfl | rfl | rfl | rfl
  · go_enter Tryd.func98, Tryd.ntmps98
    go_wp2
    go_ret2
    exact ⟨rfl, below_alloc1 _ _⟩
  · go_enter Tryd.func98, Tryd.ntmps98
    go_wp2
    go_ret2
    exact ⟨rfl, below_alloc1 _ _⟩
  · go_enter Tryd.func98, Tryd.ntmps98
    go_wp2
    go_ret2
    exact ⟨rfl, below_alloc1 _ _⟩
  · go_enter Tryd.func98, Tryd.ntmps98
    go_wp2
    go_ret2
    exact ⟨rfl, below_alloc1 _ _⟩
  · go_enter Tryd.func98, Tryd.ntmps98
    go_wp2_with (go_at_call 102; refine (do_ok _ _ _ _ ?_ ?_ z z _).mono ?_; decide; decide; rintro e w' ⟨rfl, rfl⟩)
    go_ret2
    exact ⟨rfl, below_alloc1 _ _⟩

set_option maxHeartbeats 1000000 in
theorem made_one_any (u a b c s x : Int) (B off cap : Nat) (w : World) (h5 : 5 ≤ s) (h8 : s ≤ 8) (hx : okB u x = true) (hB : B < w.heap.size) (c0 : w.cell? ⟨B, off, none⟩ = some (.int .i64 x)) :
    Calls Tryd.prog 98 #[.int .i64 s, .slice (some ⟨B, off, none⟩) 1 cap, .agg #[.int .i64 u, .int .i64 a, .int .i64 b, .int .i64 c]] w fun e w' => e = .returned (.tuple #[.int .i64 (doN s u x x), .nilIface]) ∧ Below w.heap.size w w' := by
  have g0 : (s == 0) = false := by simp; omega
  have g1 : (s == 1) = false := by simp; omega
  have g2 : (s == 2) = false := by simp; omega
  have g3 : (s == 3) = false := by simp; omega
  have g4 : (s == 4) = false := by simp; omega
  have HD : Hid (∀ W, Calls Tryd.prog 102 #[.int .i64 s, .int .i64 u, .int .i64 x, .int .i64 x] W fun e w' => e = .returned (.tuple #[.int .i64 (doN s u x x), .nilIface]) ∧ w' = W) := fun W => (do_ok s u x x h5 h8 hx hx W).mono fun _ _ h => (And.intro h.1 h.2.symm)
  clear hx
  have d0 : (w.alloc (.cells #[.int .i64 u, .int .i64 a, .int .i64 b, .int .i64 c] 38)).cell? ⟨B, off, none⟩ = some (.int .i64 x) := by
    rw [World.cell?_alloc_lt _ _ ⟨B, off, none⟩ hB]; exact c0
  clear c0 hB
  go_enter Tryd.func98, Tryd.ntmps98
  go_wp2_with fail
  go_quiet (first | (go_at_call 102; exact Calls.quiet_of_same (HD.out _)))
  go_wp2
  go_ret2
  exact ⟨rfl, (below_alloc1 _ _).trans ((below_drewNs _ _).mono (by simp))⟩

set_option maxHeartbeats 1000000 in
theorem made_two_any (u a b c s x y : Int) (B off cap : Nat) (w : World) (h5 : 5 ≤ s) (h8 : s ≤ 8) (hx : okB u x = true) (hy : okB u y = true) (hB : B < w.heap.size)
    (c0 : w.cell? ⟨B, off, none⟩ = some (.int .i64 x)) (c1 : w.cell? ⟨B, off + 1, none⟩ = some (.int .i64 y)) :
    Calls Tryd.prog 98 #[.int .i64 s, .slice (some ⟨B, off, none⟩) 2 cap, .agg #[.int .i64 u, .int .i64 a, .int .i64 b, .int .i64 c]] w fun e w' => e = .returned (.tuple #[.int .i64 (doN s u x y), .nilIface]) ∧ Below w.heap.size w w' := by
  have g0 : (s == 0) = false := by simp; omega
  have g1 : (s == 1) = false := by simp; omega
  have g2 : (s == 2) = false := by simp; omega
  have g3 : (s == 3) = false := by simp; omega
  have g4 : (s == 4) = false := by simp; omega
  have HD : Hid (∀ W, Calls Tryd.prog 102 #[.int .i64 s, .int .i64 u, .int .i64 x, .int .i64 y] W fun e w' => e = .returned (.tuple #[.int .i64 (doN s u x y), .nilIface]) ∧ w' = W) := fun W => (do_ok s u x y h5 h8 hx hy W).mono fun _ _ h => (And.intro h.1 h.2.symm)
  clear hx hy
  have d0 : (w.alloc (.cells #[.int .i64 u, .int .i64 a, .int .i64 b, .int .i64 c] 38)).cell? ⟨B, off, none⟩ = some (.int .i64 x) := by
    rw [World.cell?_alloc_lt _ _ ⟨B, off, none⟩ hB]; exact c0
  have d1 : (w.alloc (.cells #[.int .i64 u, .int .i64 a, .int .i64 b, .int .i64 c] 38)).cell? ⟨B, off + 1, none⟩ = some (.int .i64 y) := by
    rw [World.cell?_alloc_lt _ _ ⟨B, off + 1, none⟩ hB]; exact c1
  clear c0 c1 hB
  go_enter Tryd.func98, Tryd.ntmps98
  go_wp2_with fail
  go_quiet (first | (go_at_call 102; exact Calls.quiet_of_same (HD.out _)))
  go_wp2
  go_ret2
  exact ⟨rfl, (below_alloc1 _ _).trans ((below_drewNs _ _).mono (by simp))⟩
end Go.Proofs.YteknlcachfhfkahDoor

namespace Go.Proofs.YteknlcachfhfkahDoor
open Go.ChangeShapes Go.WideShapes Go.ChangeAt Go.RowKit

theorem infoInt : (Tryd.prog.info? 3).map (fun i => (i.zero, i.size, i.bytes)) = some (some (.int .i64 0), 1, 8) := by kernel_rfl

theorem ownsRow_below {w w' : World} {base : Nat} {e : TypeId} {size : Nat} {v : Value} {n : Nat} {xs : List Value} (h : w.ownsRow base e size v n xs) (hb : Below w.heap.size w w') : w'.ownsRow base e size v n xs := by
  obtain ⟨h1, h2⟩ := h
  refine ⟨h1, ?_⟩
  rcases h2 with h2 | ⟨g, cap, cur, hv, hg, hh, r⟩
  · exact .inl h2
  · refine .inr ⟨g, cap, cur, hv, hg, ?_, r⟩
    rw [hb.block g (Array.getElem?_eq_some_iff.1 hh).1]; exact hh
theorem ownsRow_take {w : World} {base : Nat} {e : TypeId} {g cap n r : Nat} {xs : List Value} (h : w.ownsRow base e 1 (.slice (some ⟨g, 0, none⟩) n cap) n xs) (hr : r ≤ n) : w.ownsRow base e 1 (.slice (some ⟨g, 0, none⟩) r cap) r (xs.take r) := by
  obtain ⟨h1, h2⟩ := h
  rcases h2 with ⟨h0, _⟩ | ⟨g', cap', cur, hv, hg, hh, hn, hcap, hsz, htake⟩
  · cases h0
  · cases hv
    refine ⟨by rw [List.length_take]; omega, .inr ⟨g, cap, cur, rfl, hg, hh, by omega, hcap, hsz, ?_⟩⟩
    rw [← htake, List.take_take]
    congr 1
    omega
/-- an owned row of numbers: its cells. -/
theorem ownsRow_int {w : World} {base : Nat} {e : TypeId} {g cap : Nat} {p : List Int} (h : w.ownsRow base e 1 (.slice (some ⟨g, 0, none⟩) p.length cap) p.length (p.map (Value.int .i64))) {j : Nat} (hj : j < p.length) : w.cell? ⟨g, j, none⟩ = some (.int .i64 (p.getD j 0)) := by
  rw [h.cellAt j (by omega)]
  simp [List.getElem?_eq_getElem hj]
theorem ownsRow_block {w : World} {base : Nat} {e : TypeId} {size g n cap : Nat} {xs : List Value} (h : w.ownsRow base e size (.slice (some ⟨g, 0, none⟩) n cap) n xs) : base ≤ g ∧ g < w.heap.size ∧ n ≤ cap := by
  rcases h.2 with ⟨h0, _⟩ | ⟨g', cap', cur, hv, hg, hh, hn, _⟩
  · cases h0
  · cases hv
    exact ⟨hg, (Array.getElem?_eq_some_iff.1 hh).1, hn⟩

theorem step_leaf (w : Wd) (p : List Int) (s : Int) (h : s ≤ 4) : w.step p s = p.take p.length ++ [w.made s []] := by
  unfold Wd.step restN
  rw [takes5 s (by omega), made_leaf w s _ h]; rfl
theorem step_one (w : Wd) (p : List Int) (h : 1 ≤ p.length) : w.step p 8 = p.take (p.length - 1) ++ [doN 8 w.u (p.getD (p.length - 1) 0) (p.getD (p.length - 1) 0)] := by
  unfold Wd.step restN
  rw [takes1, made_do w 8 _ (by omega)]
  have e : (p.drop (p.length - 1)) = [p.getD (p.length - 1) 0] := by
    rw [List.drop_eq_getElem_cons (by omega), List.drop_eq_nil_of_le (by omega)]
    simp [List.getElem?_eq_getElem (show p.length - 1 < p.length by omega)]
  simp only [show (1 : Int).toNat = 1 from rfl, e]; rfl
theorem step_two (w : Wd) (p : List Int) (s : Int) (h5 : 5 ≤ s) (h7 : s ≤ 7) (h : 2 ≤ p.length) : w.step p s = p.take (p.length - 2) ++ [doN s w.u (p.getD (p.length - 2) 0) (p.getD (p.length - 2 + 1) 0)] := by
  unfold Wd.step restN
  rw [takes2 s h5 h7, made_do w s _ h5]
  have e : (p.drop (p.length - 2)) = [p.getD (p.length - 2) 0, p.getD (p.length - 2 + 1) 0] := by
    rw [List.drop_eq_getElem_cons (by omega), List.drop_eq_getElem_cons (by omega), List.drop_eq_nil_of_le (by omega)]
    simp [List.getElem?_eq_getElem (show p.length - 2 < p.length by omega), List.getElem?_eq_getElem (show p.length - 2 + 1 < p.length by omega)]
  simp only [show (2 : Int).toNat = 2 from rfl, e]; rfl

/-- what a round leaves. -/
theorem work_rel {w1 wr wm w2 : World} {K : Nat} {v v' : Value} {p q : List Int} {r : Nat} {X : Int} (hK : K ≤ wr.heap.size) (hb : Below K w1 wr) (hm : Below wr.heap.size wr wm)
    (hown : w2.ownsRow K 3 1 v' (r + 1) (((p.take r).map (Value.int .i64)) ++ [.int .i64 X])) (hv : ∀ k, v.ownBlock = some k → K ≤ k)
    (hg : (wm.alloc (.cells #[.int .i64 X] 3)).grownBy w2 v.ownBlock) (hr : r ≤ p.length) (hq : q = p.take r ++ [X]) :
    w2.ownsRow K 3 1 v' q.length (q.map (Value.int .i64)) ∧ Below K w1 w2 ∧ K ≤ w2.heap.size := by
  have hs : wr.heap.size ≤ wm.heap.size := hm.size
  have e1 : q.length = r + 1 := by rw [hq]; simp; omega
  have e2 : q.map (Value.int .i64) = ((p.take r).map (Value.int .i64)) ++ [.int .i64 X] := by rw [hq]; simp
  have b1 : Below K w1 (wm.alloc (.cells #[.int .i64 X] 3)) := (hb.trans (hm.mono hK)).alloc (by omega) _
  have b2 : Below K w1 w2 := b1.grown hg (by simp; omega) hv
  refine ⟨by rw [e1, e2]; exact hown, b2, ?_⟩
  have := hg.size
  simp at this
  omega
end Go.Proofs.YteknlcachfhfkahDoor
