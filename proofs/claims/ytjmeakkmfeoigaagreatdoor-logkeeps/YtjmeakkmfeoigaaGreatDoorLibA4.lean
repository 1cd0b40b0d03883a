/-
  Facts and contracts that the statement leans on.
-/
import Derived.Test.YtjmeakkmfeoigaaGreatDoorRows
import Derived.Test.YtjmeakkmfeoigaaGreatDoorLibA1
import Derived.WalkKit
import Derived.ProofKit
import Derived.OpenShut
import Derived.Deep.QuietTactic
import Derived.BigQuiet
import Derived.RegionTactic
import Derived.ChangeAlike
import Derived.Test.YtjmeakkmfeoigaaGreatDoorLibA2
import Derived.Test.YtjmeakkmfeoigaaGreatDoorLibA3
import Derived.OwnWalk
import Derived.Deep.RegionWith
import Derived.Laws.OwnMore
namespace Go.Proofs.YtjmeakkmfeoigaaGreatDoor
open Go.ChangeShapes Go.WideShapes Go.ChangeAt Go.RowKit
def Reads (w : World) (v : Value) (t : List Int) : Prop :=
 (∃ ao cap, v = .slice ao 0 cap ∧ t = []) ∨ (∃ b off cap, v = .slice (some ⟨b, off, none⟩) t.length cap ∧ b < w.heap.size ∧ 0 < t.length ∧ (t.length ≤ 9223372036854775807 ∧ t.length ≤ cap) ∧ ∀ k, k < t.length → w.cell? ⟨b, off + k, none⟩ = some (.int .i64 (t.getD k 0)))
theorem Reads.below {w w' : World} {v : Value} {t : List Int} (h : Reads w v t) (hb : Below w.heap.size w w') : Reads w' v t := by
 rcases h with h | ⟨b, off, cap, h1, h2, h3, h4, h5⟩
 ·exact Or.inl h
 ·exact Or.inr ⟨b, off, cap, h1, Nat.lt_of_lt_of_le h2 hb.size, h3, h4, fun k hk => by rw [hb.cell h2]; exact h5 k hk⟩
def Wd.v (w : Wd) : Value := .agg #[.int .i64 w.u, .int .i64 w.a, .int .i64 w.b, .int .i64 w.c]
def NewV (K : Nat) (v : Value) : Prop := ∃ ao n c, v = .slice ao n c ∧ ∀ p, ao = some p → K ≤ p.block
def errV (n : Int) : Value := if n = 0 then .nilIface else .iface 64 (.int .i64 n)
theorem back_b {a b : Bool} (h : a = b) : Ending.returned (.bool a) = .returned (.bool b) := by rw [h]
theorem back_i {k : IntKind} {a b : Int} (h : a = b) : Ending.returned (.int k a) = .returned (.int k b) := by rw [h]
theorem back_v {a b : Value} (h : a = b) : Ending.returned a = .returned b := by rw [h]
theorem takes_any (s : Int) (w : World) :
    Calls Tryz.prog 146 #[.int .i64 s] w (Sk w (.int .i64 (takesN s))) := by
 by_cases h5 : s = 5
 ·subst h5
  go_enter Tryz.func146, Tryz.ntmps146
  go_wp2
  go_ret
  exact ⟨rfl, rfl⟩
 by_cases h6 : s = 6
 ·subst h6
  go_enter Tryz.func146, Tryz.ntmps146
  go_wp2
  go_ret
  exact ⟨rfl, rfl⟩
 by_cases h7 : s = 7
 ·subst h7
  go_enter Tryz.func146, Tryz.ntmps146
  go_wp2
  go_ret
  exact ⟨rfl, rfl⟩
 by_cases h8 : s = 8
 ·subst h8
  go_enter Tryz.func146, Tryz.ntmps146
  go_wp2
  go_ret
  exact ⟨rfl, rfl⟩
 have e : takesN s = 0 := by unfold takesN; rw [if_neg (by omega), if_neg h8]
 rw [e]
 clear e
 have h5' : (s == 5) = false := by simpa using h5
 have h6' : (s == 6) = false := by simpa using h6
 have h7' : (s == 7) = false := by simpa using h7
 have h8' : (s == 8) = false := by simpa using h8
 clear h5 h6 h7 h8
 go_enter Tryz.func146, Tryz.ntmps146
 go_wp2
 go_ret
 exact ⟨rfl, rfl⟩
theorem noSign_any (s : Int) (w : World) :
    Calls Tryz.prog 109 #[.int .i64 s] w (Sk w (.bool (!signB s))) := by
 by_cases h0 : s < 0
 ·have e : signB s = false := by simp [signB]; omega
  rw [e]
  clear e
  go_enter Tryz.func109, Tryz.ntmps109
  go_wp2
  go_ret
  exact ⟨rfl, rfl⟩
 by_cases h8 : 8 < s
 ·have e : signB s = false := by simp [signB]; omega
  rw [e]
  clear e
  go_enter Tryz.func109, Tryz.ntmps109
  go_wp2
  go_ret
  exact ⟨rfl, rfl⟩
 have e : signB s = true := by simp [signB]; omega
 rw [e]
 clear e
 go_enter Tryz.func109, Tryz.ntmps109
 go_wp2
 go_ret
 exact ⟨rfl, rfl⟩
def firstBad : List Int → Nat → Int
 | [], _ => -1
 | s :: l, k => if signB s = true then firstBad l (k + 1) else k
theorem firstBad_lt (t : List Int) (k : Nat) : (firstBad t k < 0 ↔ t.all signB = true) ∧ -1 ≤ firstBad t k := by
 induction t generalizing k with
 | nil => exact ⟨⟨fun _ => rfl, fun _ => show (-1 : Int) < 0 by decide⟩, Int.le_refl _⟩
 | cons s l ih =>
  unfold firstBad
  by_cases h : signB s = true
  ·rw [if_pos h]; simpa [h] using ih (k + 1)
  ·rw [if_neg h]; simp only [List.all_cons, h]; simp
theorem firstBad_drop (t : List Int) {k : Nat} (hk : k < t.length) : firstBad (t.drop k) k = if signB (t.getD k 0) = true then firstBad (t.drop (k + 1)) (k + 1) else k := by
 rw [List.drop_eq_getElem_cons hk]
 simp [firstBad, List.getElem?_eq_getElem hk]
theorem indexFunc_any (b off cap : Nat) (t : List Int) (w : World) (hl : t.length ≤ 9223372036854775807) (hc : ∀ k, k < t.length → w.cell? ⟨b, off + k, none⟩ = some (.int .i64 (t.getD k 0))) :
    Calls Tryz.prog 70 #[.slice (some ⟨b, off, none⟩) t.length cap, .func (.func 109) #[] #[]] w (Sk w (.int .i64 (firstBad t 0))) := by
 have HF : Hid (∀ {k : Nat}, k < t.length → firstBad (t.drop k) k = if signB (t.getD k 0) = true then firstBad (t.drop (k + 1)) (k + 1) else k) := fun {_} h => firstBad_drop t h
 have HC := hide hc
 clear hc
 obtain ⟨n, hn⟩ := nm t.length
 rw [← hn] at hl ⊢
 have HN := hide hn
 clear hn
 go_enter Tryz.func70, Tryz.ntmps70
 go_wp2
 go_loop [8] (fun i => ∃ k : Nat, k ≤ n ∧ i = .int .i64 k ∧ firstBad (t.drop k) k = firstBad t 0) (fun i => n - (intOf i).toNat)
 case atStart => exact ⟨0, Nat.zero_le _, rfl, rfl⟩
 case round =>
  obtain ⟨k, hk, rfl, hF⟩ := hrel
  have HK := hide hF
  clear hF
  by_cases hlt : k < n
  ·obtain ⟨s, hs⟩ := nm (t.getD k 0)
   have hc := HC.out k (by rw [← HN.out]; exact hlt)
   rw [← hs] at hc
   have HS := hide hs
   clear hs
   have HD : Hid (firstBad (t.drop k) k = if signB s = true then firstBad (t.drop (k + 1)) (k + 1) else k) := by
    have := HF.out (k := k) (by rw [← HN.out]; exact hlt)
    rw [← HS.out] at this; exact this
   by_cases hb : signB s = true
   ·have HD' : Hid (firstBad (t.drop (k + 1)) (k + 1) = firstBad t 0) := by
     have h1 := HD.out
     rw [if_pos hb] at h1
     exact h1.symm.trans HK.out
    go_wp2_with (go_at_call 109; refine (noSign_any _ _).mono ?_; rintro e w' ⟨rfl, rfl⟩)
    go_round
    case rel => exact ⟨k + 1, by omega, by go_num, HD'.out⟩
    case measure => simp [intOf]; omega
   ·have HD' : Hid ((k : Int) = firstBad t 0) := by
     have h1 := HD.out
     rw [if_neg hb] at h1
     exact h1.symm.trans HK.out
    have hb' : signB s = false := by simpa using hb
    clear hb
    go_wp2_with (go_at_call 109; refine (noSign_any _ _).mono ?_; rintro e w' ⟨rfl, rfl⟩)
    go_ret
    exact ⟨back_i HD'.out, rfl⟩
  ·have HE : Hid (firstBad t 0 = -1) := by
    have h1 := HK.out
    rw [List.drop_eq_nil_of_le (by have := HN.out; omega)] at h1
    exact h1.symm
   go_wp2
   go_ret
   exact ⟨back_i HE.out.symm, rfl⟩
theorem containsFunc_any (b off cap : Nat) (t : List Int) (w : World) (hl : t.length ≤ 9223372036854775807) (hc : ∀ k, k < t.length → w.cell? ⟨b, off + k, none⟩ = some (.int .i64 (t.getD k 0))) :
    Calls Tryz.prog 39 #[.slice (some ⟨b, off, none⟩) t.length cap, .func (.func 109) #[] #[]] w (Sk w (.bool (!t.all signB))) := by
 have c := indexFunc_any b off cap t w hl hc
 clear hc
 obtain ⟨h1, h2⟩ := firstBad_lt t 0
 obtain ⟨n, hn⟩ := nm (firstBad t 0)
 rw [← hn] at c h1 h2
 clear hn
 by_cases h : t.all signB = true
 ·obtain rfl : n = -1 := by have := h1.2 h; omega
  rw [h]
  clear h1 h2 h
  go_enter Tryz.func39, Tryz.ntmps39
  go_wp2_with (go_at_call 70; refine c.mono ?_; rintro e w' ⟨rfl, rfl⟩)
  go_ret
  exact ⟨rfl, rfl⟩
 ·have h0 : 0 ≤ n := by
   rcases Int.lt_or_le n 0 with h' | h'
   ·exact absurd (h1.1 h') h
   ·exact h'
  have h' : t.all signB = false := by simpa using h
  rw [h']
  clear h1 h2 h h'
  go_enter Tryz.func39, Tryz.ntmps39
  go_wp2_with (go_at_call 70; refine c.mono ?_; rintro e w' ⟨rfl, rfl⟩)
  go_ret
  exact ⟨rfl, rfl⟩
theorem isOne_any (b off cap : Nat) (t : List Int) (w : World) (hl : t.length ≤ 12) (hc : ∀ k, k < t.length → w.cell? ⟨b, off + k, none⟩ = some (.int .i64 (t.getD k 0))) :
    Calls Tryz.prog 110 #[.slice (some ⟨b, off, none⟩) t.length cap] w (Sk w (.bool (decide (cnt t 0 = some 1)))) := by
 have HC := hide hc
 clear hc
 obtain ⟨n, hn⟩ := nm t.length
 rw [← hn] at hl ⊢
 have HN := hide hn
 clear hn
 obtain ⟨R, hR⟩ := nm (decide (cnt t 0 = some 1))
 rw [← hR]
 have HR := hide hR
 clear hR
 go_enter Tryz.func110, Tryz.ntmps110
 go_wp2
 go_loop [3, 8] (fun c i => ∃ (k : Nat) (m : Int), k ≤ n ∧ i = .int .i64 k ∧ c = .int .i64 m ∧ cnt (t.take k) 0 = some m) (fun _ i => n - (intOf i).toNat)
 case atStart => exact ⟨0, 0, Nat.zero_le _, rfl, rfl, rfl⟩
 case round =>
  obtain ⟨k, m, hk, rfl, rfl, hm⟩ := hrel
  have HM := hide hm
  have hm0 : 0 ≤ m ∧ m ≤ 12 := by
   have := cnt_nonneg (Int.le_refl 0) hm
   simp at this
   omega
  clear hm
  by_cases hlt : k < n
  ·obtain ⟨s, hs⟩ := nm (t.getD k 0)
   have hc := HC.out k (by rw [← HN.out]; exact hlt)
   rw [← hs] at hc
   have HD : Hid (cnt (t.take (k + 1)) 0 = if m < takesN s then none else some (m + 1 - takesN s)) := by
    have := cnt_take_succ t (k := k) (by rw [← HN.out]; exact hlt) HM.out
    rw [← hs] at this; exact this
   clear hs
   have ht := takesN_range s
   by_cases hb : m < takesN s
   ·have HE : Hid (R = false) := by
     have h1 := HD.out
     rw [if_pos hb] at h1
     have h2 := cnt_take_none t (k + 1) h1
     have h3 := HR.out
     rw [h2] at h3
     exact h3.trans (by decide)
    go_wp2_with (go_at_call 146; refine (takes_any _ _).mono ?_; rintro e w' ⟨rfl, rfl⟩)
    go_ret
    exact ⟨back_b HE.out.symm, rfl⟩
   ·have HE : Hid (cnt (t.take (k + 1)) 0 = some (m + (1 - takesN s))) := by
     have h1 := HD.out
     rw [if_neg hb] at h1
     rw [show m + (1 - takesN s) = m + 1 - takesN s by omega]
     exact h1
    go_wp2_with (go_at_call 146; refine (takes_any _ _).mono ?_; rintro e w' ⟨rfl, rfl⟩)
    go_round
    case rel => exact ⟨k + 1, _, by omega, by go_num, rfl, HE.out⟩
    case measure => simp [intOf]; omega
  ·have HE : Hid (R = (m == 1)) := by
    have h1 := HM.out
    rw [List.take_of_length_le (by have := HN.out; omega)] at h1
    have h3 := HR.out
    rw [h1] at h3
    rw [h3]
    by_cases h : m = 1
    ·subst h; rfl
    ·rw [decide_eq_false (by simpa using h)]; exact (beq_eq_false_iff_ne.2 h).symm
   go_wp2
   go_ret
   exact ⟨back_b HE.out.symm, rfl⟩
theorem tcheck_any (t : List Int) (v : Value) (w : World) (h : Reads w v t) :
    Calls Tryz.prog 68 #[v] w (Sk w (errV (faultN t))) := by
 rcases h with ⟨ao, cap, rfl, rfl⟩ | ⟨b, off, cap, rfl, -, h0, ⟨hl, _⟩, hc⟩
 ·go_enter Tryz.func68, Tryz.ntmps68
  go_wp2
  go_ret
  exact ⟨rfl, rfl⟩
 ·have cF := containsFunc_any b off cap t w hl hc
  by_cases h12 : 12 < t.length
  ·have e : errV (faultN t) = .iface 64 (.int .i64 4) := by unfold faultN; rw [if_neg (by omega), if_pos h12]; rfl
   rw [e]
   clear e hc cF
   obtain ⟨n, hn⟩ := nm t.length
   rw [← hn] at h0 hl h12 ⊢
   clear hn
   go_enter Tryz.func68, Tryz.ntmps68
   go_wp2
   go_ret
   exact ⟨rfl, rfl⟩
  have hl12 : t.length ≤ 12 := by omega
  have cO := isOne_any b off cap t w hl12 hc
  clear hc
  obtain ⟨F, hF⟩ := nm (faultN t)
  rw [← hF]
  have HF : Hid (F = if t.all signB = true then (if cnt t 0 = some 1 then 0 else 3) else 1) := by
   unfold Hid; rw [hF]; unfold faultN; rw [if_neg (by omega), if_neg h12]
  clear hF
  obtain ⟨n, hn⟩ := nm t.length
  rw [← hn] at h0 hl hl12 h12 cF cO ⊢
  clear hn
  obtain ⟨x, hx⟩ := nm (t.all signB)
  obtain ⟨y, hy⟩ := nm (decide (cnt t 0 = some 1))
  rw [← hx] at cF
  rw [← hy] at cO
  have HF' : Hid (F = if x = true then (if y = true then 0 else 3) else 1) := by
   unfold Hid; rw [HF.out, hx, hy]; simp only [decide_eq_true_eq]
  clear HF hx hy
  have HP := hide cF
  have HQ := hide cO
  clear cF cO
  cases x <;> cases y
  all_goals
   go_enter Tryz.func68, Tryz.ntmps68
   go_wp2_with (first | (go_at_call 39; refine HP.out.mono ?_; rintro e w' ⟨rfl, rfl⟩) | (go_at_call 110; refine HQ.out.mono ?_; rintro e w' ⟨rfl, rfl⟩))
   go_ret
   exact ⟨back_v (by rw [HF'.out]; rfl), rfl⟩
theorem below_alloc1 (w : World) (o : Obj) : Below w.heap.size w (w.alloc o) := (Below.refl _ _).alloc (Nat.le_refl _) _
theorem errV_no {n : Int} (h : ¬ n = 0) : errV n = .iface 64 (.int .i64 n) := by unfold errV; rw [if_neg h]
end Go.Proofs.YtjmeakkmfeoigaaGreatDoor
namespace Go.Proofs.YtjmeakkmfeoigaaGreatDoor
open Go.ChangeShapes Go.WideShapes Go.ChangeAt Go.RowKit
theorem ret_int {k : IntKind} {a b : Int} (h : a = b) : Ending.returned (.int k a) = .returned (.int k b) := by rw [h]
theorem all_any (u : Int) (h0 : 0 ≤ u) (h1 : u ≤ 6) (w : World) :
    Calls Tryz.prog 57 #[.int .i64 u] w (Sk w (.int .i64 (allN u))) := by
 rcases seven h0 h1 with rfl | rfl | rfl | rfl | rfl | rfl | rfl
 all_goals
  go_enter Tryz.func57, Tryz.ntmps57
  go_wp2
  go_ret
  exact ⟨rfl, rfl⟩
theorem check_ok (u s : Int) (h : okB u s = true) (w : World) :
    Calls Tryz.prog 27 #[.int .i64 u, .int .i64 s] w (Sk w .nilIface) := by
 obtain ⟨h0, h1, h2, h3⟩ := okB_iff.1 h
 clear h
 go_enter Tryz.func27, Tryz.ntmps27
 go_wp2_with (go_at_call 57; refine (all_any _ h0 h1 _).mono ?_; rintro e w' ⟨rfl, rfl⟩)
 go_ret
 exact ⟨rfl, rfl⟩
theorem check_no (u s : Int) (h : okB u s = false) (w : World) :
    Calls Tryz.prog 27 #[.int .i64 u, .int .i64 s] w (Sk w (.iface 64 (.int .i64 1))) := by
 have h' := okB_not.1 h
 clear h
 by_cases h0 : u < 0
 ·clear h'
  go_enter Tryz.func27, Tryz.ntmps27
  go_wp2_with fail
  go_ret
  exact ⟨rfl, rfl⟩
 by_cases h1 : 6 < u
 ·clear h'
  go_enter Tryz.func27, Tryz.ntmps27
  go_wp2_with fail
  go_ret
  exact ⟨rfl, rfl⟩
 by_cases h2 : s < 0
 ·clear h'
  go_enter Tryz.func27, Tryz.ntmps27
  go_wp2_with fail
  go_ret
  exact ⟨rfl, rfl⟩
 have h3 : allN u < s := by omega
 have h0' : 0 ≤ u := by omega
 have h1' : u ≤ 6 := by omega
 clear h'
 go_enter Tryz.func27, Tryz.ntmps27
 go_wp2_with (go_at_call 57; refine (all_any _ h0' h1' _).mono ?_; rintro e w' ⟨rfl, rfl⟩)
 go_ret
 exact ⟨rfl, rfl⟩
theorem ret_two {k : IntKind} {a b : Int} {v : Value} (h : a = b) : Ending.returned (.tuple #[.int k a, v]) = .returned (.tuple #[.int k b, v]) := by rw [h]
theorem do_ok (what u a b : Int) (hl : 5 ≤ what) (hm : what ≤ 8) (ha : okB u a = true) (hb : okB u b = true) (w : World) :
    Calls Tryz.prog 185 #[.int .i64 what, .int .i64 u, .int .i64 a, .int .i64 b] w (Sk w (.tuple #[.int .i64 (doN what u a b), .nilIface])) := by
 obtain ⟨u0, u1, a0, a1⟩ := okB_lt ha
 obtain ⟨_, _, b0, b1⟩ := okB_lt hb
 have hd : what = 5 ∨ what = 6 ∨ what = 7 ∨ what = 8 := by omega
 clear hl hm
 rcases hd with rfl | rfl | rfl | rfl
 ·go_enter Tryz.func185, Tryz.ntmps185
  go_wp2_with (go_at_call 27; refine (check_ok _ _ ?_ _).mono ?_; assumption; rintro e w' ⟨rfl, rfl⟩)
  go_ret2
  exact ⟨ret_two (or_bits a b a0 a1 b0 b1), rfl⟩
 ·go_enter Tryz.func185, Tryz.ntmps185
  go_wp2_with (go_at_call 27; refine (check_ok _ _ ?_ _).mono ?_; assumption; rintro e w' ⟨rfl, rfl⟩)
  go_ret2
  exact ⟨ret_two (and_bits a b a0 a1 b0 b1), rfl⟩
 ·go_enter Tryz.func185, Tryz.ntmps185
  go_wp2_with (go_at_call 27; refine (check_ok _ _ ?_ _).mono ?_; assumption; rintro e w' ⟨rfl, rfl⟩)
  go_ret2
  exact ⟨ret_two (less_bits a b a0 a1 b0 b1), rfl⟩
 ·go_enter Tryz.func185, Tryz.ntmps185
  go_wp2_with (first | (go_at_call 27; refine (check_ok _ _ ?_ _).mono ?_; assumption; rintro e w' ⟨rfl, rfl⟩) | (go_at_call 57; refine (all_any _ u0 u1 _).mono ?_; rintro e w' ⟨rfl, rfl⟩))
  go_ret2
  have hu := allN_le u0 u1
  exact ⟨ret_two (less_bits (allN u) a hu.1 (by omega) a0 a1), rfl⟩
theorem do_no (what u a b : Int) (h : okB u a = false ∨ okB u b = false ∨ what < 5 ∨ 8 < what) (w : World) :
    Calls Tryz.prog 185 #[.int .i64 what, .int .i64 u, .int .i64 a, .int .i64 b] w (Sk w (.tuple #[.int .i64 0, .iface 64 (.int .i64 1)])) := by
 by_cases ha : okB u a = false
 ·clear h
  go_enter Tryz.func185, Tryz.ntmps185
  go_wp2_with (go_at_call 27; refine (check_no _ _ ha _).mono ?_; rintro e w' ⟨rfl, rfl⟩)
  go_ret2
  exact ⟨rfl, rfl⟩
 have ha' : okB u a = true := by simpa using ha
 by_cases hb : okB u b = false
 ·clear h ha
  go_enter Tryz.func185, Tryz.ntmps185
  go_wp2_with (go_at_call 27; (first | (refine (check_ok _ _ ?_ _).mono ?_; assumption) | (refine (check_no _ _ ?_ _).mono ?_; assumption)); rintro e w' ⟨rfl, rfl⟩)
  go_ret2
  exact ⟨rfl, rfl⟩
 have hb' : okB u b = true := by simpa using hb
 have hw : what < 5 ∨ 8 < what := by simpa [ha', hb'] using h
 clear ha hb h
 rcases hw with hw | hw
 all_goals
  go_enter Tryz.func185, Tryz.ntmps185
  go_wp2_with (go_at_call 27; refine (check_ok _ _ ?_ _).mono ?_; assumption; rintro e w' ⟨rfl, rfl⟩)
  go_ret2
  exact ⟨rfl, rfl⟩
end Go.Proofs.YtjmeakkmfeoigaaGreatDoor
namespace Go.Proofs.YtjmeakkmfeoigaaGreatDoor
open Go.ChangeShapes Go.WideShapes Go.ChangeAt Go.RowKit
theorem below_drewNs (w : World) : ∀ n, Below w.heap.size w (w.drewN n)
 | 0 => Below.refl _ _
 | n + 1 => (below_drewNs w n).drew
theorem back_two {k : IntKind} {a b : Int} {v : Value} (h : a = b) : Ending.returned (.tuple #[.int k a, v]) = .returned (.tuple #[.int k b, v]) := by rw [h]
set_option maxHeartbeats 1000000 in
theorem made_leaf_any (u a b c s : Int) (v : Value) (w : World) (h0 : 0 ≤ s) (h4 : s ≤ 4) (hw : (Wd.mk u a b c).ok = true) :
    Calls Tryz.prog 158 #[.int .i64 s, v, .agg #[.int .i64 u, .int .i64 a, .int .i64 b, .int .i64 c]] w (Bk w (.tuple #[.int .i64 ((Wd.mk u a b c).made s []), .nilIface])) := by
 have hd : s = 0 ∨ s = 1 ∨ s = 2 ∨ s = 3 ∨ s = 4 := by omega
 have z : okB u 0 = true := ok_zero (ok_u hw).1 (ok_u hw).2
 clear h0 h4 hw
 rcases hd with rfl | rfl | rfl | rfl | rfl
 ·go_enter Tryz.func158, Tryz.ntmps158
  go_wp2
  go_ret2
  exact ⟨rfl, below_alloc1 _ _⟩
 ·go_enter Tryz.func158, Tryz.ntmps158
  go_wp2
  go_ret2
  exact ⟨rfl, below_alloc1 _ _⟩
 ·go_enter Tryz.func158, Tryz.ntmps158
  go_wp2
  go_ret2
  exact ⟨rfl, below_alloc1 _ _⟩
 ·go_enter Tryz.func158, Tryz.ntmps158
  go_wp2
  go_ret2
  exact ⟨rfl, below_alloc1 _ _⟩
 ·go_enter Tryz.func158, Tryz.ntmps158
  go_wp2_with (go_at_call 185; refine (do_ok _ _ _ _ ?_ ?_ z z _).mono ?_; decide; decide; rintro e w' ⟨rfl, rfl⟩)
  go_ret2
  exact ⟨rfl, below_alloc1 _ _⟩
set_option maxHeartbeats 1000000 in
theorem made_one_any (u a b c s x : Int) (B off cap : Nat) (w : World) (h5 : 5 ≤ s) (h8 : s ≤ 8) (hx : okB u x = true) (hB : B < w.heap.size) (c0 : w.cell? ⟨B, off, none⟩ = some (.int .i64 x)) :
    Calls Tryz.prog 158 #[.int .i64 s, .slice (some ⟨B, off, none⟩) 1 cap, .agg #[.int .i64 u, .int .i64 a, .int .i64 b, .int .i64 c]] w (Bk w (.tuple #[.int .i64 (doN s u x x), .nilIface])) := by
 have g0 : (s == 0) = false := by simp; omega
 have g1 : (s == 1) = false := by simp; omega
 have g2 : (s == 2) = false := by simp; omega
 have g3 : (s == 3) = false := by simp; omega
 have g4 : (s == 4) = false := by simp; omega
 have HD : Hid (∀ W, Calls Tryz.prog 185 #[.int .i64 s, .int .i64 u, .int .i64 x, .int .i64 x] W fun e w' => e = .returned (.tuple #[.int .i64 (doN s u x x), .nilIface]) ∧ w' = W) := fun W => (do_ok s u x x h5 h8 hx hx W).mono fun _ _ h => (And.intro h.1 h.2.symm)
 clear hx
 have d0 : (w.alloc (.cells #[.int .i64 u, .int .i64 a, .int .i64 b, .int .i64 c] 55)).cell? ⟨B, off, none⟩ = some (.int .i64 x) := by
  rw [World.cell?_alloc_lt _ _ ⟨B, off, none⟩ hB]; exact c0
 clear c0 hB
 go_enter Tryz.func158, Tryz.ntmps158
 go_wp2_with fail
 go_quiet (first | (go_at_call 185; exact Calls.quiet_of_same (HD.out _)))
 go_wp2
 go_ret2
 exact ⟨rfl, (below_alloc1 _ _).trans ((below_drewNs _ _).mono (by simp))⟩
set_option maxHeartbeats 1000000 in
theorem made_two_any (u a b c s x y : Int) (B off cap : Nat) (w : World) (h5 : 5 ≤ s) (h8 : s ≤ 8) (hx : okB u x = true) (hy : okB u y = true) (hB : B < w.heap.size)
    (c0 : w.cell? ⟨B, off, none⟩ = some (.int .i64 x)) (c1 : w.cell? ⟨B, off + 1, none⟩ = some (.int .i64 y)) :
    Calls Tryz.prog 158 #[.int .i64 s, .slice (some ⟨B, off, none⟩) 2 cap, .agg #[.int .i64 u, .int .i64 a, .int .i64 b, .int .i64 c]] w (Bk w (.tuple #[.int .i64 (doN s u x y), .nilIface])) := by
 have g0 : (s == 0) = false := by simp; omega
 have g1 : (s == 1) = false := by simp; omega
 have g2 : (s == 2) = false := by simp; omega
 have g3 : (s == 3) = false := by simp; omega
 have g4 : (s == 4) = false := by simp; omega
 have HD : Hid (∀ W, Calls Tryz.prog 185 #[.int .i64 s, .int .i64 u, .int .i64 x, .int .i64 y] W fun e w' => e = .returned (.tuple #[.int .i64 (doN s u x y), .nilIface]) ∧ w' = W) := fun W => (do_ok s u x y h5 h8 hx hy W).mono fun _ _ h => (And.intro h.1 h.2.symm)
 clear hx hy
 have d0 : (w.alloc (.cells #[.int .i64 u, .int .i64 a, .int .i64 b, .int .i64 c] 55)).cell? ⟨B, off, none⟩ = some (.int .i64 x) := by
  rw [World.cell?_alloc_lt _ _ ⟨B, off, none⟩ hB]; exact c0
 have d1 : (w.alloc (.cells #[.int .i64 u, .int .i64 a, .int .i64 b, .int .i64 c] 55)).cell? ⟨B, off + 1, none⟩ = some (.int .i64 y) := by
  rw [World.cell?_alloc_lt _ _ ⟨B, off + 1, none⟩ hB]; exact c1
 clear c0 c1 hB
 go_enter Tryz.func158, Tryz.ntmps158
 go_wp2_with fail
 go_quiet (first | (go_at_call 185; exact Calls.quiet_of_same (HD.out _)))
 go_wp2
 go_ret2
 exact ⟨rfl, (below_alloc1 _ _).trans ((below_drewNs _ _).mono (by simp))⟩
end Go.Proofs.YtjmeakkmfeoigaaGreatDoor
namespace Go.Proofs.YtjmeakkmfeoigaaGreatDoor
open Go.ChangeShapes Go.WideShapes Go.ChangeAt Go.RowKit
set_option maxRecDepth 100000
def AtomAt (w : World) (b off : Nat) (a : At) : Prop :=
 ∃ vs vt, w.cell? ⟨b, off, none⟩ = some (.int .i64 a.k) ∧ w.cell? ⟨b, off + 1, none⟩ = some vs ∧ w.cell? ⟨b, off + 2, none⟩ = some vt ∧ w.cell? ⟨b, off + 3, none⟩ = some (.int .i64 a.n) ∧ Reads w vs a.s ∧ Reads w vt a.t
def ReadsA (w : World) (v : Value) (ats : List At) : Prop :=
 (∃ ao cap, v = .slice ao 0 cap ∧ ats = []) ∨ (∃ b off cap, v = .slice (some ⟨b, off, none⟩) ats.length cap ∧ b < w.heap.size ∧ 0 < ats.length ∧ (ats.length ≤ 9223372036854775807 ∧ ats.length ≤ cap) ∧ ∀ i a, ats[i]? = some a → AtomAt w b (off + i * 4) a)
theorem AtomAt.below {w w' : World} {b off : Nat} {a : At} (h : AtomAt w b off a) (hB : b < w.heap.size) (hb : Below w.heap.size w w') : AtomAt w' b off a := by
 obtain ⟨vs, vt, h1, h2, h3, h4, h5, h6⟩ := h
 exact ⟨vs, vt, by rw [hb.cell hB]; exact h1, by rw [hb.cell hB]; exact h2, by rw [hb.cell hB]; exact h3, by rw [hb.cell hB]; exact h4, h5.below hb, h6.below hb⟩
theorem ReadsA.below {w w' : World} {v : Value} {ats : List At} (h : ReadsA w v ats) (hb : Below w.heap.size w w') : ReadsA w' v ats := by
 rcases h with h | ⟨b, off, cap, h1, h2, h3, h4, h5⟩
 ·exact Or.inl h
 ·exact Or.inr ⟨b, off, cap, h1, Nat.lt_of_lt_of_le h2 hb.size, h3, h4, fun i a ha => (h5 i a ha).below h2 hb⟩
theorem ReadsA.slice {w : World} {v : Value} {ats : List At} (h : ReadsA w v ats) : ∃ ao cap, v = .slice ao ats.length cap ∧ ats.length ≤ 9223372036854775807 := by
 rcases h with ⟨ao, cap, rfl, rfl⟩ | ⟨b, off, cap, rfl, _, _, h, _⟩
 ·exact ⟨ao, cap, rfl, by decide⟩
 ·exact ⟨_, cap, rfl, h.1⟩
theorem ftakes_any (s : Int) (w : World) :
    Calls Tryz.prog 38 #[.int .i64 s] w (Sk w (.int .i64 (takesF s))) := by
 by_cases h5 : s = 10
 ·subst h5
  go_enter Tryz.func38, Tryz.ntmps38
  go_wp2
  go_ret
  exact ⟨rfl, rfl⟩
 by_cases h6 : s = 11
 ·subst h6
  go_enter Tryz.func38, Tryz.ntmps38
  go_wp2
  go_ret
  exact ⟨rfl, rfl⟩
 by_cases h7 : s = 13
 ·subst h7
  go_enter Tryz.func38, Tryz.ntmps38
  go_wp2
  go_ret
  exact ⟨rfl, rfl⟩
 by_cases h8 : s = 12
 ·subst h8
  go_enter Tryz.func38, Tryz.ntmps38
  go_wp2
  go_ret
  exact ⟨rfl, rfl⟩
 have e : takesF s = 0 := by unfold takesF; rw [if_neg (by omega), if_neg h8]
 rw [e]
 clear e
 have h5' : (s == 10) = false := by simpa using h5
 have h6' : (s == 11) = false := by simpa using h6
 have h7' : (s == 13) = false := by simpa using h7
 have h8' : (s == 12) = false := by simpa using h8
 clear h5 h6 h7 h8
 go_enter Tryz.func38, Tryz.ntmps38
 go_wp2
 go_ret
 exact ⟨rfl, rfl⟩
theorem tooMany_any (a s : Int) (w : World) :
    Calls Tryz.prog 35 #[.int .i64 a, .int .i64 s] w (Sk w (.bool (decide (6 < a) || decide (20 < s)))) := by
 by_cases h1 : 6 < a
 ·go_enter Tryz.func35, Tryz.ntmps35
  go_wp2
  go_ret
  exact ⟨by simp [h1], rfl⟩
 ·by_cases h2 : 20 < s
  ·go_enter Tryz.func35, Tryz.ntmps35
   go_wp2
   go_ret
   exact ⟨by simp, rfl⟩
  ·go_enter Tryz.func35, Tryz.ntmps35
   go_wp2
   go_ret
   exact ⟨by simp [h1, h2], rfl⟩
theorem fnoSign_any (m cap P : Nat) (ao : Option Addr) (s : Int) (w : World) (hP : w.cell? ⟨P, 0, none⟩ = some (.slice ao m cap)) :
    Calls Tryz.prog 37 #[.int .i64 s, .pointer (some ⟨P, 0, none⟩)] w (Sk w (.bool (!signF m s))) := by
 have HT : Hid (∀ W, Calls Tryz.prog 38 #[.int .i64 s] W (Sk W (.int .i64 (takesF s)))) := fun W => ftakes_any s W
 by_cases h0 : takesF s = 0
 ·rw [h0] at HT
  by_cases h1 : s < 0
  ·have e : signF m s = false := by simp [signF, h0, h1]
   rw [e]
   clear e h0
   go_enter Tryz.func37, Tryz.ntmps37
   go_wp2_with (go_at_call 38; refine (HT.out _).mono ?_; rintro e w' ⟨rfl, rfl⟩)
   go_ret
   exact ⟨rfl, rfl⟩
  ·by_cases h2 : (m : Int) ≤ s
   ·have e : signF m s = false := by simp [signF, h0, h2]
    rw [e]
    clear e h0
    go_enter Tryz.func37, Tryz.ntmps37
    go_wp2_with (go_at_call 38; refine (HT.out _).mono ?_; rintro e w' ⟨rfl, rfl⟩)
    go_ret
    exact ⟨rfl, rfl⟩
   ·have e : signF m s = true := by simp [signF, h1, h2]
    rw [e]
    clear e h0
    go_enter Tryz.func37, Tryz.ntmps37
    go_wp2_with (go_at_call 38; refine (HT.out _).mono ?_; rintro e w' ⟨rfl, rfl⟩)
    go_ret
    exact ⟨back_b (by simp; omega), rfl⟩
 ·have e : signF m s = true := by simp [signF, h0]
  rw [e]
  clear e
  have h0' : (takesF s == 0) = false := by simpa using h0
  clear h0
  go_enter Tryz.func37, Tryz.ntmps37
  go_wp2_with (go_at_call 38; refine (HT.out _).mono ?_; rintro e w' ⟨rfl, rfl⟩)
  go_ret
  exact ⟨rfl, rfl⟩
def firstBadF (m : Nat) : List Int → Nat → Int
 | [], _ => -1
 | s :: l, k => if signF m s = true then firstBadF m l (k + 1) else k
theorem firstBadF_lt (m : Nat) (t : List Int) (k : Nat) : (firstBadF m t k < 0 ↔ t.all (signF m) = true) ∧ -1 ≤ firstBadF m t k := by
 induction t generalizing k with
 | nil => exact ⟨⟨fun _ => rfl, fun _ => show (-1 : Int) < 0 by decide⟩, Int.le_refl _⟩
 | cons s l ih =>
  unfold firstBadF
  by_cases h : signF m s = true
  ·rw [if_pos h]; simpa [h] using ih (k + 1)
  ·rw [if_neg h]; simp only [List.all_cons, h]; simp
theorem firstBadF_drop (m : Nat) (t : List Int) {k : Nat} (hk : k < t.length) : firstBadF m (t.drop k) k = if signF m (t.getD k 0) = true then firstBadF m (t.drop (k + 1)) (k + 1) else k := by
 rw [List.drop_eq_getElem_cons hk]
 simp [firstBadF, List.getElem?_eq_getElem hk]
theorem findexFunc_any (m mcap P : Nat) (ao : Option Addr) (b off cap : Nat) (t : List Int) (w : World) (hl : t.length ≤ 9223372036854775807) (hP : w.cell? ⟨P, 0, none⟩ = some (.slice ao m mcap)) (hc : ∀ k, k < t.length → w.cell? ⟨b, off + k, none⟩ = some (.int .i64 (t.getD k 0))) :
    Calls Tryz.prog 70 #[.slice (some ⟨b, off, none⟩) t.length cap, .func (.func 37) #[] #[.pointer (some ⟨P, 0, none⟩)]] w (Sk w (.int .i64 (firstBadF m t 0))) := by
 have HF : Hid (∀ {k : Nat}, k < t.length → firstBadF m (t.drop k) k = if signF m (t.getD k 0) = true then firstBadF m (t.drop (k + 1)) (k + 1) else k) := fun {_} h => firstBadF_drop m t h
 have HC := hide hc
 clear hc
 have HP := hide hP
 clear hP
 obtain ⟨n, hn⟩ := nm t.length
 rw [← hn] at hl ⊢
 have HN := hide hn
 clear hn
 go_enter Tryz.func70, Tryz.ntmps70
 go_wp2
 go_loop [8] (fun i => ∃ k : Nat, k ≤ n ∧ i = .int .i64 k ∧ firstBadF m (t.drop k) k = firstBadF m t 0) (fun i => n - (intOf i).toNat)
 case atStart => exact ⟨0, Nat.zero_le _, rfl, rfl⟩
 case round =>
  obtain ⟨k, hk, rfl, hF⟩ := hrel
  have HK := hide hF
  clear hF
  by_cases hlt : k < n
  ·obtain ⟨s, hs⟩ := nm (t.getD k 0)
   have hc := HC.out k (by rw [← HN.out]; exact hlt)
   rw [← hs] at hc
   have HS := hide hs
   clear hs
   have HD : Hid (firstBadF m (t.drop k) k = if signF m s = true then firstBadF m (t.drop (k + 1)) (k + 1) else k) := by
    have := HF.out (k := k) (by rw [← HN.out]; exact hlt)
    rw [← HS.out] at this; exact this
   by_cases hb : signF m s = true
   ·have HD' : Hid (firstBadF m (t.drop (k + 1)) (k + 1) = firstBadF m t 0) := by
     have h1 := HD.out
     rw [if_pos hb] at h1
     exact h1.symm.trans HK.out
    go_wp2_with (go_at_call 37; refine (fnoSign_any m mcap P ao _ _ HP.out).mono ?_; rintro e w' ⟨rfl, rfl⟩)
    go_round
    case rel => exact ⟨k + 1, by omega, by go_num, HD'.out⟩
    case measure => simp [intOf]; omega
   ·have HD' : Hid ((k : Int) = firstBadF m t 0) := by
     have h1 := HD.out
     rw [if_neg hb] at h1
     exact h1.symm.trans HK.out
    have hb' : signF m s = false := by simpa using hb
    clear hb
    go_wp2_with (go_at_call 37; refine (fnoSign_any m mcap P ao _ _ HP.out).mono ?_; rintro e w' ⟨rfl, rfl⟩)
    go_ret
    exact ⟨back_i HD'.out, rfl⟩
  ·have HE : Hid (firstBadF m t 0 = -1) := by
    have h1 := HK.out
    rw [List.drop_eq_nil_of_le (by have := HN.out; omega)] at h1
    exact h1.symm
   go_wp2
   go_ret
   exact ⟨back_i HE.out.symm, rfl⟩
theorem fcontainsFunc_any (m mcap P : Nat) (ao : Option Addr) (b off cap : Nat) (t : List Int) (w : World) (hl : t.length ≤ 9223372036854775807) (hP : w.cell? ⟨P, 0, none⟩ = some (.slice ao m mcap)) (hc : ∀ k, k < t.length → w.cell? ⟨b, off + k, none⟩ = some (.int .i64 (t.getD k 0))) :
    Calls Tryz.prog 39 #[.slice (some ⟨b, off, none⟩) t.length cap, .func (.func 37) #[] #[.pointer (some ⟨P, 0, none⟩)]] w (Sk w (.bool (!t.all (signF m)))) := by
 have c := findexFunc_any m mcap P ao b off cap t w hl hP hc
 clear hc hP
 obtain ⟨h1, h2⟩ := firstBadF_lt m t 0
 obtain ⟨n, hn⟩ := nm (firstBadF m t 0)
 rw [← hn] at c h1 h2
 clear hn
 by_cases h : t.all (signF m) = true
 ·obtain rfl : n = -1 := by have := h1.2 h; omega
  rw [h]
  clear h1 h2 h
  go_enter Tryz.func39, Tryz.ntmps39
  go_wp2_with (go_at_call 70; refine c.mono ?_; rintro e w' ⟨rfl, rfl⟩)
  go_ret
  exact ⟨rfl, rfl⟩
 ·have h0 : 0 ≤ n := by
   rcases Int.lt_or_le n 0 with h' | h'
   ·exact absurd (h1.1 h') h
   ·exact h'
  have h' : t.all (signF m) = false := by simpa using h
  rw [h']
  clear h1 h2 h h'
  go_enter Tryz.func39, Tryz.ntmps39
  go_wp2_with (go_at_call 70; refine c.mono ?_; rintro e w' ⟨rfl, rfl⟩)
  go_ret
  exact ⟨rfl, rfl⟩
theorem fisOne_any (b off cap : Nat) (t : List Int) (w : World) (hl : t.length ≤ 20) (hc : ∀ k, k < t.length → w.cell? ⟨b, off + k, none⟩ = some (.int .i64 (t.getD k 0))) :
    Calls Tryz.prog 40 #[.slice (some ⟨b, off, none⟩) t.length cap] w (Sk w (.bool (decide (cntF t 0 = some 1)))) := by
 have HC := hide hc
 clear hc
 obtain ⟨n, hn⟩ := nm t.length
 rw [← hn] at hl ⊢
 have HN := hide hn
 clear hn
 obtain ⟨R, hR⟩ := nm (decide (cntF t 0 = some 1))
 rw [← hR]
 have HR := hide hR
 clear hR
 go_enter Tryz.func40, Tryz.ntmps40
 go_wp2
 go_loop [3, 8] (fun c i => ∃ (k : Nat) (m : Int), k ≤ n ∧ i = .int .i64 k ∧ c = .int .i64 m ∧ cntF (t.take k) 0 = some m) (fun _ i => n - (intOf i).toNat)
 case atStart => exact ⟨0, 0, Nat.zero_le _, rfl, rfl, rfl⟩
 case round =>
  obtain ⟨k, m, hk, rfl, rfl, hm⟩ := hrel
  have HM := hide hm
  have hm0 : 0 ≤ m ∧ m ≤ 20 := by
   have := cntF_nonneg (Int.le_refl 0) hm
   simp at this
   omega
  clear hm
  by_cases hlt : k < n
  ·obtain ⟨s, hs⟩ := nm (t.getD k 0)
   have hc := HC.out k (by rw [← HN.out]; exact hlt)
   rw [← hs] at hc
   have HD : Hid (cntF (t.take (k + 1)) 0 = if m < takesF s then none else some (m + 1 - takesF s)) := by
    have := cntF_take_succ t (k := k) (by rw [← HN.out]; exact hlt) HM.out
    rw [← hs] at this; exact this
   clear hs
   have ht := takesF_range s
   by_cases hb : m < takesF s
   ·have HE : Hid (R = false) := by
     have h1 := HD.out
     rw [if_pos hb] at h1
     have h2 := cntF_take_none t (k + 1) h1
     have h3 := HR.out
     rw [h2] at h3
     exact h3.trans (by decide)
    go_wp2_with (go_at_call 38; refine (ftakes_any _ _).mono ?_; rintro e w' ⟨rfl, rfl⟩)
    go_ret
    exact ⟨back_b HE.out.symm, rfl⟩
   ·have HE : Hid (cntF (t.take (k + 1)) 0 = some (m + (1 - takesF s))) := by
     have h1 := HD.out
     rw [if_neg hb] at h1
     rw [show m + (1 - takesF s) = m + 1 - takesF s by omega]
     exact h1
    go_wp2_with (go_at_call 38; refine (ftakes_any _ _).mono ?_; rintro e w' ⟨rfl, rfl⟩)
    go_round
    case rel => exact ⟨k + 1, _, by omega, by go_num, rfl, HE.out⟩
    case measure => simp [intOf]; omega
  ·have HE : Hid (R = (m == 1)) := by
    have h1 := HM.out
    rw [List.take_of_length_le (by have := HN.out; omega)] at h1
    have h3 := HR.out
    rw [h1] at h3
    rw [h3]
    by_cases h : m = 1
    ·subst h; rfl
    ·rw [decide_eq_false (by simpa using h)]; exact (beq_eq_false_iff_ne.2 h).symm
   go_wp2
   go_ret
   exact ⟨back_b HE.out.symm, rfl⟩
end Go.Proofs.YtjmeakkmfeoigaaGreatDoor
namespace Go.Proofs.YtjmeakkmfeoigaaGreatDoor
open Go.ChangeShapes Go.WideShapes Go.ChangeAt Go.RowKit
def FormAt (w : World) (b off : Nat) (f : Fm) : Prop :=
 ∃ va vc, w.cell? ⟨b, off, none⟩ = some va ∧ w.cell? ⟨b, off + 1, none⟩ = some vc ∧ ReadsA w va f.ats ∧ Reads w vc f.c
def ReadsF (w : World) (v : Value) (fs : List Fm) : Prop :=
 (∃ ao cap, v = .slice ao 0 cap ∧ fs = []) ∨ (∃ b off cap, v = .slice (some ⟨b, off, none⟩) fs.length cap ∧ b < w.heap.size ∧ 0 < fs.length ∧ (fs.length ≤ 9223372036854775807 ∧ fs.length ≤ cap) ∧ ∀ i f, fs[i]? = some f → FormAt w b (off + i * 2) f)
theorem FormAt.below {w w' : World} {b off : Nat} {f : Fm} (h : FormAt w b off f) (hB : b < w.heap.size) (hb : Below w.heap.size w w') : FormAt w' b off f := by
 obtain ⟨va, vc, h0, h1, h2, h3⟩ := h
 exact ⟨va, vc, (hb.cell hB).trans h0, (hb.cell hB).trans h1, h2.below hb, h3.below hb⟩
theorem ReadsF.below {w w' : World} {v : Value} {fs : List Fm} (h : ReadsF w v fs) (hb : Below w.heap.size w w') : ReadsF w' v fs := by
 rcases h with h | ⟨b, off, cap, h1, h2, h3, h4, h5⟩
 ·exact Or.inl h
 ·exact Or.inr ⟨b, off, cap, h1, Nat.lt_of_lt_of_le h2 hb.size, h3, h4, fun i f hf => (h5 i f hf).below h2 hb⟩
theorem ReadsF.slice {w : World} {v : Value} {fs : List Fm} (h : ReadsF w v fs) : ∃ ao cap, v = .slice ao fs.length cap ∧ fs.length ≤ 9223372036854775807 := by
 rcases h with ⟨ao, cap, rfl, rfl⟩ | ⟨b, off, cap, rfl, _, _, h, _⟩
 ·exact ⟨ao, cap, rfl, by decide⟩
 ·exact ⟨_, cap, rfl, h.1⟩
theorem ReadsF.at {w : World} {b off n cap : Nat} {fs : List Fm} (h : ReadsF w (.slice (some ⟨b, off, none⟩) n cap) fs) {i : Nat} {f : Fm} (hf : fs[i]? = some f) : b < w.heap.size ∧ FormAt w b (off + i * 2) f := by
 rcases h with ⟨ao, cap', hv, h0⟩ | ⟨b', off', cap', hv, h2, _, _, h5⟩
 ·rw [h0] at hf; simp at hf
 ·obtain ⟨h1, _, _⟩ := Value.slice.inj hv
  obtain ⟨rfl, rfl, _⟩ := Addr.mk.inj (Option.some.inj h1)
  exact ⟨h2, h5 i f hf⟩
theorem ReadsF.place {w : World} {v : Value} {fs : List Fm} (h : ReadsF w v fs) (h0 : 0 < fs.length) : ∃ b off cap, v = .slice (some ⟨b, off, none⟩) fs.length cap := by
 rcases h with ⟨ao, cap', _, hz⟩ | ⟨b', off', cap', hv, _⟩
 ·rw [hz] at h0; simp at h0
 ·exact ⟨b', off', cap', hv⟩
end Go.Proofs.YtjmeakkmfeoigaaGreatDoor
namespace Go.Proofs.YtjmeakkmfeoigaaGreatDoor
open Go.ChangeShapes Go.WideShapes Go.ChangeAt Go.RowKit
theorem infoInt : (Tryz.prog.info? 3).map (fun i => (i.zero, i.size, i.bytes)) = some (some (.int .i64 0), 1, 8) := by kernel_rfl
theorem ownsRow_below {w w' : World} {base : Nat} {e : TypeId} {size : Nat} {v : Value} {n : Nat} {xs : List Value} (h : w.ownsRow base e size v n xs) (hb : Below w.heap.size w w') : w'.ownsRow base e size v n xs := by
 obtain ⟨h1, h2⟩ := h
 refine ⟨h1, ?_⟩
 rcases h2 with h2 | ⟨g, cap, cur, hv, hg, hh, r⟩
 ·exact .inl h2
 ·refine .inr ⟨g, cap, cur, hv, hg, ?_, r⟩
  rw [hb.block g (Array.getElem?_eq_some_iff.1 hh).1]; exact hh
theorem ownsRow_take {w : World} {base : Nat} {e : TypeId} {g cap n r : Nat} {xs : List Value} (h : w.ownsRow base e 1 (.slice (some ⟨g, 0, none⟩) n cap) n xs) (hr : r ≤ n) : w.ownsRow base e 1 (.slice (some ⟨g, 0, none⟩) r cap) r (xs.take r) := by
 obtain ⟨h1, h2⟩ := h
 rcases h2 with ⟨h0, _⟩ | ⟨g', cap', cur, hv, hg, hh, hn, hcap, hsz, htake⟩
 ·cases h0
 ·cases hv
  refine ⟨by rw [List.length_take]; omega, .inr ⟨g, cap, cur, rfl, hg, hh, by omega, hcap, hsz, ?_⟩⟩
  rw [← htake, List.take_take]
  congr 1
  omega
theorem ownsRow_int {w : World} {base : Nat} {e : TypeId} {g cap : Nat} {p : List Int} (h : w.ownsRow base e 1 (.slice (some ⟨g, 0, none⟩) p.length cap) p.length (p.map (Value.int .i64))) {j : Nat} (hj : j < p.length) : w.cell? ⟨g, j, none⟩ = some (.int .i64 (p.getD j 0)) := by
 rw [h.cellAt j (by omega)]
 simp [List.getElem?_eq_getElem hj]
theorem ownsRow_block {w : World} {base : Nat} {e : TypeId} {size g n cap : Nat} {xs : List Value} (h : w.ownsRow base e size (.slice (some ⟨g, 0, none⟩) n cap) n xs) : base ≤ g ∧ g < w.heap.size ∧ n ≤ cap := by
 rcases h.2 with ⟨h0, _⟩ | ⟨g', cap', cur, hv, hg, hh, hn, _⟩
 ·cases h0
 ·cases hv
  exact ⟨hg, (Array.getElem?_eq_some_iff.1 hh).1, hn⟩
theorem step_leaf (w : Wd) (p : List Int) (s : Int) (h : s ≤ 4) : w.step p s = p.take p.length ++ [w.made s []] := by
 unfold Wd.step restN
 rw [takes5 s (by omega), made_leaf w s _ h]; rfl
theorem step_one (w : Wd) (p : List Int) (h : 1 ≤ p.length) : w.step p 8 = p.take (p.length - 1) ++ [doN 8 w.u (p.getD (p.length - 1) 0) (p.getD (p.length - 1) 0)] := by
 unfold Wd.step restN
 rw [takes1, made_do w 8 _ (by omega)]
 have e : (p.drop (p.length - 1)) = [p.getD (p.length - 1) 0] := by
  rw [List.drop_eq_getElem_cons (by omega), List.drop_eq_nil_of_le (by omega)]
  simp [List.getElem?_eq_getElem (show p.length - 1 < p.length by omega)]
 simp only [show (1 : Int).toNat = 1 from rfl, e]; rfl
theorem step_two (w : Wd) (p : List Int) (s : Int) (h5 : 5 ≤ s) (h7 : s ≤ 7) (h : 2 ≤ p.length) : w.step p s = p.take (p.length - 2) ++ [doN s w.u (p.getD (p.length - 2) 0) (p.getD (p.length - 2 + 1) 0)] := by
 unfold Wd.step restN
 rw [takes2 s h5 h7, made_do w s _ h5]
 have e : (p.drop (p.length - 2)) = [p.getD (p.length - 2) 0, p.getD (p.length - 2 + 1) 0] := by
  rw [List.drop_eq_getElem_cons (by omega), List.drop_eq_getElem_cons (by omega), List.drop_eq_nil_of_le (by omega)]
  simp [List.getElem?_eq_getElem (show p.length - 2 < p.length by omega), List.getElem?_eq_getElem (show p.length - 2 + 1 < p.length by omega)]
 simp only [show (2 : Int).toNat = 2 from rfl, e]; rfl
theorem work_rel {w1 wr wm w2 : World} {K : Nat} {v v' : Value} {p q : List Int} {r : Nat} {X : Int} (hK : K ≤ wr.heap.size) (hb : Below K w1 wr) (hm : Below wr.heap.size wr wm)
    (hown : w2.ownsRow K 3 1 v' (r + 1) (((p.take r).map (Value.int .i64)) ++ [.int .i64 X])) (hv : ∀ k, v.ownBlock = some k → K ≤ k)
    (hg : (wm.alloc (.cells #[.int .i64 X] 3)).grownBy w2 v.ownBlock) (hr : r ≤ p.length) (hq : q = p.take r ++ [X]) :
    w2.ownsRow K 3 1 v' q.length (q.map (Value.int .i64)) ∧ Below K w1 w2 ∧ K ≤ w2.heap.size := by
 have hs : wr.heap.size ≤ wm.heap.size := hm.size
 have e1 : q.length = r + 1 := by rw [hq]; simp; omega
 have e2 : q.map (Value.int .i64) = ((p.take r).map (Value.int .i64)) ++ [.int .i64 X] := by rw [hq]; simp
 have b1 : Below K w1 (wm.alloc (.cells #[.int .i64 X] 3)) := (hb.trans (hm.mono hK)).alloc (by omega) _
 have b2 : Below K w1 w2 := b1.grown hg (by simp; omega) hv
 refine ⟨by rw [e1, e2]; exact hown, b2, ?_⟩
 have := hg.size
 simp at this
 omega
end Go.Proofs.YtjmeakkmfeoigaaGreatDoor
namespace Go.Proofs.YtjmeakkmfeoigaaGreatDoor
open Go.ChangeShapes Go.WideShapes Go.ChangeAt Go.RowKit
theorem below_of_drew {w wm : World} (h : Below w.drew.heap.size w.drew wm) : Below w.heap.size w wm := ((Below.refl _ w).drew).trans h
set_option maxRecDepth 100000 in
set_option maxHeartbeats 4000000 in
theorem work_any (u a b c : Int) (t : List Int) (B off cap : Nat) (w : World) (hw : (Wd.mk u a b c).ok = true) (hs : t.all signB = true) (hone : cnt t 0 = some 1) (hl : t.length ≤ 12) (hB : B < w.heap.size)
    (hc : ∀ k, k < t.length → w.cell? ⟨B, off + k, none⟩ = some (.int .i64 (t.getD k 0))) :
    Calls Tryz.prog 126 #[.slice (some ⟨B, off, none⟩) t.length cap, .agg #[.int .i64 u, .int .i64 a, .int .i64 b, .int .i64 c]] w (Bk w (.tuple #[.int .i64 ((Wd.mk u a b c).val t), .nilIface])) := by
 obtain ⟨i0, hi, hz0, hz1, hz2⟩ := info_parts infoInt
 obtain ⟨w1, hw1⟩ := nm (w.alloc (.cells #[.int .i64 u, .int .i64 a, .int .i64 b, .int .i64 c] 55))
 obtain ⟨K, hK⟩ := nm (w.heap.size + 1)
 have HK1 : Hid (w1.heap.size = K) := by unfold Hid; rw [hw1, hK]; simp
 have HC : Hid (∀ k, k < t.length → w1.cell? ⟨B, off + k, none⟩ = some (.int .i64 (t.getD k 0))) := fun k hk => by
  rw [hw1, World.cell?_alloc_lt _ _ ⟨B, off + k, none⟩ hB]; exact hc k hk
 have HX : Hid (w1.cell? ⟨w.heap.size, 0, none⟩ = some (.int .i64 u) ∧ w1.cell? ⟨w.heap.size, 1, none⟩ = some (.int .i64 a) ∧ w1.cell? ⟨w.heap.size, 2, none⟩ = some (.int .i64 b) ∧ w1.cell? ⟨w.heap.size, 3, none⟩ = some (.int .i64 c)) := by
  unfold Hid; rw [hw1]; simp
 have HBK : Hid (B < K ∧ w.heap.size < K) := ⟨by omega, by omega⟩
 have HW : Hid (Below w.heap.size w w1) := by unfold Hid; rw [hw1]; exact below_alloc1 _ _
 have HKs : Hid (w.heap.size ≤ K) := by unfold Hid; omega
 clear hc hB hK
 obtain ⟨n, hn⟩ := nm t.length
 rw [← hn] at hl ⊢
 have HN := hide hn
 clear hn
 have HOK := hide hw
 have HS := hide hs
 have HO := hide hone
 clear hw hs hone
 obtain ⟨V, hV⟩ := nm ((Wd.mk u a b c).val t)
 rw [← hV]
 have HV := hide hV
 clear hV
 go_enter Tryz.func126, Tryz.ntmps126
 go_wp2
 rw [← hw1]
 clear hw1
 go_loopw [6, 14] (fun v i wr => ∃ (k : Nat) (p : List Int), k ≤ n ∧ i = .int .i64 k ∧ wr.ownsRow K 3 1 v p.length (p.map (Value.int .i64)) ∧ Below K w1 wr ∧ K ≤ wr.heap.size ∧ p = (Wd.mk u a b c).pile (t.take k) [])
  (fun _ i _ => n - (intOf i).toNat)
 case atStart => exact ⟨0, [], Nat.zero_le _, rfl, World.ownsRow_nil _ _ _ _, Below.refl _ _, by rw [HK1.out]; exact Nat.le_refl _, rfl⟩
 case round =>
  obtain ⟨k, p, hk, rfl, hown0, hbel0, hKw0, hp0⟩ := hrel
  have hkt0 : cnt (t.take k) 0 = some (p.length : Int) := by
   obtain ⟨m, hm⟩ := cnt_take_some t k HO.out
   have := pile_length (Wd.mk u a b c) (t.take k) [] hm
   rw [← hp0] at this
   rw [this]; exact hm
  by_cases hlt : k < n
  ·obtain ⟨s, hs⟩ := nm (t.getD k 0)
   have hkt : k < t.length := by rw [← HN.out]; exact hlt
   have hcell : wr.cell? ⟨B, off + k, none⟩ = some (.int .i64 s) := by rw [hs, hbel0.cell HBK.out.1]; exact HC.out k hkt
   have x0 : wr.cell? ⟨w.heap.size, 0, none⟩ = some (.int .i64 u) := by rw [hbel0.cell HBK.out.2]; exact HX.out.1
   have x1 : wr.cell? ⟨w.heap.size, 1, none⟩ = some (.int .i64 a) := by rw [hbel0.cell HBK.out.2]; exact HX.out.2.1
   have x2 : wr.cell? ⟨w.heap.size, 2, none⟩ = some (.int .i64 b) := by rw [hbel0.cell HBK.out.2]; exact HX.out.2.2.1
   have x3 : wr.cell? ⟨w.heap.size, 3, none⟩ = some (.int .i64 c) := by rw [hbel0.cell HBK.out.2]; exact HX.out.2.2.2
   have hsg : 0 ≤ s ∧ s ≤ 8 := by
    refine signB_iff.1 (List.all_eq_true.1 HS.out s ?_)
    rw [hs, List.getD_eq_getElem?_getD, List.getElem?_eq_getElem hkt]; exact List.getElem_mem hkt
   have htk : takesN s ≤ p.length := by
    have h1 := cnt_take_succ t hkt hkt0
    rw [← hs] at h1
    obtain ⟨m, hm⟩ := cnt_take_some t (k + 1) HO.out
    by_cases h2 : (p.length : Int) < takesN s
    ·rw [if_pos h2] at h1; rw [h1] at hm; cases hm
    ·omega
   have HP : Hid ((Wd.mk u a b c).step p s = (Wd.mk u a b c).pile (t.take (k + 1)) []) := by
    unfold Hid; rw [pile_succ _ t [] hkt, ← hs, ← hp0]
   have hpl : p.length ≤ 12 := by
    have := (cnt_nonneg (Int.le_refl 0) hkt0).2
    simp at this; omega
   have HOKP : Hid (∀ j, okB u (p.getD j 0) = true) := fun j => by
    rw [hp0]
    exact ok_getD HOK.out (ok_pile HOK.out (t.take k) (p := []) (by intro x hx; cases hx)) j
   clear hs hkt hkt0 hp0
   have HBEL := hide hbel0
   have HKW := hide hKw0
   clear hbel0 hKw0
   by_cases h4 : s ≤ 4
   ·have ht : takesN s = 0 := takes5 s (by omega)
    have HM : Hid (∀ v W, Calls Tryz.prog 158 #[.int .i64 s, v, .agg #[.int .i64 u, .int .i64 a, .int .i64 b, .int .i64 c]] W (Bk W (.tuple #[.int .i64 ((Wd.mk u a b c).made s []), .nilIface]))) := fun v W => made_leaf_any u a b c s v W hsg.1 h4 HOK.out
    have HQ : Hid ((Wd.mk u a b c).step p s = p.take p.length ++ [(Wd.mk u a b c).made s []]) := step_leaf _ p s h4
    obtain ⟨X, hX⟩ := nm ((Wd.mk u a b c).made s [])
    rw [← hX] at HM HQ
    clear hX htk hsg h4
    rcases hown0.2 with ⟨rfl, hp0⟩ | ⟨g, cap', cur, rfl, hg, hh, hm, hmax, _, _⟩
    ·obtain rfl : p = [] := List.eq_nil_of_length_eq_zero hp0
     clear hown0 hp0
     go_wp2_with (go_at_call 146; refine (takes_any _ _).mono ?_; rintro e w' ⟨rfl, rfl⟩)
     go_region_with (first | (go_at_call 158; refine (HM.out _ _).mono ?_; rintro e wm ⟨rfl, hbm⟩))
     go_wp2_with (first | (at_builtin; refine wpList_append_own _ rfl (.tmp 37) (.tmp 39) 27 rfl K 3 i0 (.int .i64 0) 1 8 Tryz.underlying27 hi hz0 hz1 hz2 rfl (by decide) (.slice none 0 0) 0 [] rfl (World.ownsRow_nil _ _ _ _) ⟨wm.heap.size, 0, none⟩ 1 1 [.int .i64 X] rfl rfl ?a1 ?a2 ?a3 ?a4 ?a5 ?_))
     case a1 =>
      intro j y hj
      match j, hj with
      | 0, hj => simp at hj; subst hj; simp [Addr.add]
     case a2 => intro y hy; simp at hy; subst hy; rfl
     case a3 => unfold maxLen; omega
     case a4 => omega
     case a5 => have h1 := hbm.size; have h2 := HKW.out; simp at h1 ⊢; omega
     intro v' w2 hown' hgrow _
     have R := work_rel (q := (Wd.mk u a b c).pile (t.take (k + 1)) []) HKW.out HBEL.out (below_of_drew hbm) hown' (by intro k hk; cases hk) hgrow (Nat.le_refl _) (HP.out.symm.trans HQ.out)
     clear hown' hgrow hbm
     go_wp2
     go_roundw
     case rel => exact ⟨k + 1, _, by omega, by go_num, R.1, R.2.1, R.2.2, rfl⟩
     case measure => simp [intOf]; omega
    ·obtain ⟨m, hm0⟩ := nm p.length
     have HOW : Hid (wr.ownsRow K 3 1 (.slice (some ⟨g, 0, none⟩) m cap') m (p.map (Value.int .i64))) := by
      unfold Hid; rw [hm0]; exact hown0
     rw [← hm0] at HQ hm hpl ⊢
     have HM0 := hide hm0
     clear hown0 hm0 hh
     by_cases hcap : cap' = m
     ·subst hcap
      go_wp2_with (go_at_call 146; refine (takes_any _ _).mono ?_; rintro e w' ⟨rfl, rfl⟩)
      go_region_with (first | (go_at_call 158; refine (HM.out _ _).mono ?_; rintro e wm ⟨rfl, hbm⟩))
      have HOm := ownsRow_below HOW.out (below_of_drew hbm)
      go_wp2_with (first | (at_builtin; refine wpList_append_own _ rfl (.tmp 37) (.tmp 39) 27 rfl K 3 i0 (.int .i64 0) 1 8 Tryz.underlying27 hi hz0 hz1 hz2 rfl (by decide) (.slice (some ⟨g, 0, none⟩) cap' cap') cap' ((p.map (Value.int .i64)).take cap') rfl ((ownsRow_take HOm (by have := HM0.out; omega)).alloc _) ⟨wm.heap.size, 0, none⟩ 1 1 [.int .i64 X] rfl rfl ?e1 ?e2 ?e3 ?e4 ?e5 ?_))
      case e1 =>
       intro j y hj
       match j, hj with
       | 0, hj => simp at hj; subst hj; simp [Addr.add]
      case e2 => intro y hy; simp at hy; subst hy; rfl
      case e3 => unfold maxLen; omega
      case e4 => omega
      case e5 => have h1 := hbm.size; have h2 := HKW.out; simp at h1 ⊢; omega
      intro v' w2 hown' hgrow _
      have R := work_rel (q := (Wd.mk u a b c).pile (t.take (k + 1)) []) HKW.out HBEL.out (below_of_drew hbm) (by rw [List.map_take]; exact hown') (by intro k hk; cases hk; exact hg) hgrow (by have := HM0.out; omega) (HP.out.symm.trans HQ.out)
      clear hown' hgrow hbm HOm
      go_wp2
      go_roundw
      case rel => exact ⟨k + 1, _, by omega, by go_num, R.1, R.2.1, R.2.2, rfl⟩
      case measure => simp [intOf]; omega
     ·go_wp2_with (go_at_call 146; refine (takes_any _ _).mono ?_; rintro e w' ⟨rfl, rfl⟩)
      go_region_with (first | (go_at_call 158; refine (HM.out _ _).mono ?_; rintro e wm ⟨rfl, hbm⟩))
      have HOm := ownsRow_below HOW.out (below_of_drew hbm)
      go_wp2_with (first | (at_builtin; refine wpList_append_own _ rfl (.tmp 37) (.tmp 39) 27 rfl K 3 i0 (.int .i64 0) 1 8 Tryz.underlying27 hi hz0 hz1 hz2 rfl (by decide) (.slice (some ⟨g, 0, none⟩) m cap') m ((p.map (Value.int .i64)).take m) rfl ((ownsRow_take HOm (by have := HM0.out; omega)).alloc _) ⟨wm.heap.size, 0, none⟩ 1 1 [.int .i64 X] rfl rfl ?b1 ?b2 ?b3 ?b4 ?b5 ?_))
      case b1 =>
       intro j y hj
       match j, hj with
       | 0, hj => simp at hj; subst hj; simp [Addr.add]
      case b2 => intro y hy; simp at hy; subst hy; rfl
      case b3 => unfold maxLen; omega
      case b4 => omega
      case b5 => have h1 := hbm.size; have h2 := HKW.out; simp at h1 ⊢; omega
      intro v' w2 hown' hgrow _
      have R := work_rel (q := (Wd.mk u a b c).pile (t.take (k + 1)) []) HKW.out HBEL.out (below_of_drew hbm) (by rw [List.map_take]; exact hown') (by intro k hk; cases hk; exact hg) hgrow (by have := HM0.out; omega) (HP.out.symm.trans HQ.out)
      clear hown' hgrow hbm HOm
      go_wp2
      go_roundw
      case rel => exact ⟨k + 1, _, by omega, by go_num, R.1, R.2.1, R.2.2, rfl⟩
      case measure => simp [intOf]; omega
   by_cases h8 : s = 8
   ·subst h8
    rw [takes1] at htk
    have ht : takesN 8 = 1 := takes1
    rcases hown0.2 with ⟨rfl, hp0⟩ | ⟨g, cap', cur, rfl, hg, hh, hm, hmax, _, _⟩
    ·omega
    ·obtain ⟨r, hr⟩ : ∃ r, p.length = r + 1 := ⟨p.length - 1, by omega⟩
     have HM0 := hide hr
     have HOW : Hid (wr.ownsRow K 3 1 (.slice (some ⟨g, 0, none⟩) (r + 1) cap') (r + 1) (p.map (Value.int .i64))) := by
      unfold Hid; rw [← hr]; exact hown0
     have hcx : Hid (∀ W, Below wr.heap.size wr W → W.cell? ⟨g, r, none⟩ = some (.int .i64 (p.getD r 0))) := fun W hb => by
      rw [hb.cell (ownsRow_block hown0).2.1]; exact ownsRow_int hown0 (by omega)
     have HG : Hid (g < wr.heap.size) := (ownsRow_block hown0).2.1
     obtain ⟨x, hx⟩ := nm (p.getD r 0)
     have HX' : Hid (okB u x = true) := by unfold Hid; rw [hx]; exact HOKP.out r
     rw [← hx] at hcx
     have HM : Hid (∀ W c', Below wr.heap.size wr W → Calls Tryz.prog 158 #[.int .i64 8, .slice (some ⟨g, r, none⟩) 1 c', .agg #[.int .i64 u, .int .i64 a, .int .i64 b, .int .i64 c]] W (Bk W (.tuple #[.int .i64 (doN 8 u x x), .nilIface]))) := fun W c' hb => made_one_any u a b c 8 x g r c' W (by omega) (by omega) HX'.out (Nat.lt_of_lt_of_le HG.out hb.size) (hcx.out W hb)
     have HQ : Hid ((Wd.mk u a b c).step p 8 = p.take r ++ [doN 8 u x x]) := by
      have := step_one (Wd.mk u a b c) p (by omega)
      rw [hr, Nat.add_sub_cancel, ← hx] at this; exact this
     obtain ⟨X, hX⟩ := nm (doN 8 u x x)
     rw [← hX] at HM HQ
     have hle : (r : Int) ≤ (r : Int) + 1 := by omega
     have hcap : ¬ cap' = r := by omega
     have hcap2 : r < cap' := by omega
     rw [hr] at hm hpl ⊢
     clear hX hx hcx hown0 hh hr htk
     go_wp2_with (go_at_call 146; refine (takes_any _ _).mono ?_; rintro e w' ⟨rfl, rfl⟩)
     go_region_with (first | (go_at_call 158; refine (HM.out _ _ ((Below.refl _ wr).drew)).mono ?_; rintro e wm ⟨rfl, hbm⟩))
     have HOm := ownsRow_below HOW.out (below_of_drew hbm)
     go_wp2_with (first | (at_builtin; refine wpList_append_own _ rfl (.tmp 37) (.tmp 39) 27 rfl K 3 i0 (.int .i64 0) 1 8 Tryz.underlying27 hi hz0 hz1 hz2 rfl (by decide) (.slice (some ⟨g, 0, none⟩) r cap') r ((p.map (Value.int .i64)).take r) rfl ((ownsRow_take HOm (by have := HM0.out; omega)).alloc _) ⟨wm.heap.size, 0, none⟩ 1 1 [.int .i64 X] rfl rfl ?c1 ?c2 ?c3 ?c4 ?c5 ?_))
     case c1 =>
      intro j y hj
      match j, hj with
      | 0, hj => simp at hj; subst hj; simp [Addr.add]
     case c2 => intro y hy; simp at hy; subst hy; rfl
     case c3 => unfold maxLen; omega
     case c4 => omega
     case c5 => have h1 := hbm.size; have h2 := HKW.out; simp at h1 ⊢; omega
     intro v' w2 hown' hgrow _
     have R := work_rel (q := (Wd.mk u a b c).pile (t.take (k + 1)) []) HKW.out HBEL.out (below_of_drew hbm) (by rw [List.map_take]; exact hown') (by intro k hk; cases hk; exact hg) hgrow (by have := HM0.out; omega) (HP.out.symm.trans HQ.out)
     clear hown' hgrow hbm HOm
     go_wp2
     go_roundw
     case rel => exact ⟨k + 1, _, by omega, by go_num, R.1, R.2.1, R.2.2, rfl⟩
     case measure => simp [intOf]; omega
   ·have h7 : s ≤ 7 := by omega
    have h5 : 5 ≤ s := by omega
    have ht : takesN s = 2 := takes2 s h5 h7
    rw [ht] at htk
    rcases hown0.2 with ⟨rfl, hp0⟩ | ⟨g, cap', cur, rfl, hg, hh, hm, hmax, _, _⟩
    ·omega
    ·obtain ⟨r, hr⟩ : ∃ r, p.length = r + 2 := ⟨p.length - 2, by omega⟩
     have HM0 := hide hr
     have HOW : Hid (wr.ownsRow K 3 1 (.slice (some ⟨g, 0, none⟩) (r + 2) cap') (r + 2) (p.map (Value.int .i64))) := by
      unfold Hid; rw [← hr]; exact hown0
     have hcx : Hid (∀ W, Below wr.heap.size wr W → W.cell? ⟨g, r, none⟩ = some (.int .i64 (p.getD r 0))) := fun W hb => by
      rw [hb.cell (ownsRow_block hown0).2.1]; exact ownsRow_int hown0 (by omega)
     have hcy : Hid (∀ W, Below wr.heap.size wr W → W.cell? ⟨g, r + 1, none⟩ = some (.int .i64 (p.getD (r + 1) 0))) := fun W hb => by
      rw [hb.cell (ownsRow_block hown0).2.1]; exact ownsRow_int hown0 (by omega)
     have HG : Hid (g < wr.heap.size) := (ownsRow_block hown0).2.1
     obtain ⟨x, hx⟩ := nm (p.getD r 0)
     obtain ⟨y, hy⟩ := nm (p.getD (r + 1) 0)
     have HX' : Hid (okB u x = true) := by unfold Hid; rw [hx]; exact HOKP.out r
     have HY' : Hid (okB u y = true) := by unfold Hid; rw [hy]; exact HOKP.out (r + 1)
     rw [← hx] at hcx
     rw [← hy] at hcy
     have HM : Hid (∀ W c', Below wr.heap.size wr W → Calls Tryz.prog 158 #[.int .i64 s, .slice (some ⟨g, r, none⟩) 2 c', .agg #[.int .i64 u, .int .i64 a, .int .i64 b, .int .i64 c]] W (Bk W (.tuple #[.int .i64 (doN s u x y), .nilIface]))) := fun W c' hb => made_two_any u a b c s x y g r c' W (by omega) (by omega) HX'.out HY'.out (Nat.lt_of_lt_of_le HG.out hb.size) (hcx.out W hb) (hcy.out W hb)
     have HQ : Hid ((Wd.mk u a b c).step p s = p.take r ++ [doN s u x y]) := by
      have := step_two (Wd.mk u a b c) p s h5 h7 (by omega)
      rw [hr, Nat.add_sub_cancel, ← hx, ← hy] at this; exact this
     obtain ⟨X, hX⟩ := nm (doN s u x y)
     rw [← hX] at HM HQ
     have hle : (r : Int) ≤ (r : Int) + 2 := by omega
     have hcap : ¬ cap' = r := by omega
     have hcap2 : r < cap' := by omega
     rw [hr] at hm hpl ⊢
     clear hX hx hy hcx hcy hown0 hh hr htk h4 h8
     go_wp2_with (go_at_call 146; refine (takes_any _ _).mono ?_; rintro e w' ⟨rfl, rfl⟩)
     go_region_with (first | (go_at_call 158; refine (HM.out _ _ ((Below.refl _ wr).drew)).mono ?_; rintro e wm ⟨rfl, hbm⟩))
     have HOm := ownsRow_below HOW.out (below_of_drew hbm)
     go_wp2_with (first | (at_builtin; refine wpList_append_own _ rfl (.tmp 37) (.tmp 39) 27 rfl K 3 i0 (.int .i64 0) 1 8 Tryz.underlying27 hi hz0 hz1 hz2 rfl (by decide) (.slice (some ⟨g, 0, none⟩) r cap') r ((p.map (Value.int .i64)).take r) rfl ((ownsRow_take HOm (by have := HM0.out; omega)).alloc _) ⟨wm.heap.size, 0, none⟩ 1 1 [.int .i64 X] rfl rfl ?d1 ?d2 ?d3 ?d4 ?d5 ?_))
     case d1 =>
      intro j y hj
      match j, hj with
      | 0, hj => simp at hj; subst hj; simp [Addr.add]
     case d2 => intro y hy; simp at hy; subst hy; rfl
     case d3 => unfold maxLen; omega
     case d4 => omega
     case d5 => have h1 := hbm.size; have h2 := HKW.out; simp at h1 ⊢; omega
     intro v' w2 hown' hgrow _
     have R := work_rel (q := (Wd.mk u a b c).pile (t.take (k + 1)) []) HKW.out HBEL.out (below_of_drew hbm) (by rw [List.map_take]; exact hown') (by intro k hk; cases hk; exact hg) hgrow (by have := HM0.out; omega) (HP.out.symm.trans HQ.out)
     clear hown' hgrow hbm HOm
     go_wp2
     go_roundw
     case rel => exact ⟨k + 1, _, by omega, by go_num, R.1, R.2.1, R.2.2, rfl⟩
     case measure => simp [intOf]; omega
  ·obtain rfl : k = n := by omega
   rw [List.take_of_length_le (by rw [← HN.out]; exact Nat.le_refl _)] at hkt0 hp0
   have h1 : p.length = 1 := by
    rw [HO.out] at hkt0
    have := Option.some.inj hkt0
    omega
   have HVp : Hid (p.getD 0 0 = V) := by unfold Hid; rw [HV.out, hp0]; rfl
   have HF := hide (HW.out.trans (hbel0.mono HKs.out))
   rcases hown0.2 with ⟨rfl, hp0⟩ | ⟨g, cap', cur, rfl, hg, hh, hm, hmax, _, _⟩
   ·omega
   ·have hcx : wr.cell? ⟨g, 0, none⟩ = some (.int .i64 V) := by rw [← HVp.out]; exact ownsRow_int hown0 (by omega)
    rw [h1]
    clear hown0 hh hkt0 hp0 hbel0 hKw0
    go_wp2
    go_ret2
    exact ⟨rfl, HF.out⟩
end Go.Proofs.YtjmeakkmfeoigaaGreatDoor