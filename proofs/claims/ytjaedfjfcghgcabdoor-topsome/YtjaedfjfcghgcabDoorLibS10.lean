/-
  Proved: what term.CheckWorld and term.Value return, of any row of signs and any world; what was in memory is as it was (a contract that the statements lean on).
  Proved: what math/bits.OnesCount returns, of a number of at most six bits, and that it leaves memory as it was (a contract that the statements lean on).
  Proved: what atom.says and atom.Holds return, of any atom and any world; what was in memory is as it was (contracts that the statements lean on).
  Plain facts on a row of cells that is filled one by one.
-/
import Derived.Test.YtjaedfjfcghgcabDoorLibS9
import Derived.Test.YtjaedfjfcghgcabDoorLibS6
import Derived.Test.YtjaedfjfcghgcabDoorLibS8
import Derived.Test.YtjaedfjfcghgcabDoorLibS1
namespace Go.Proofs.YtjaedfjfcghgcabDoor
open Go.ChangeShapes Go.WideShapes Go.ChangeAt Go.RowKit

theorem quiet_check_ok (u s : Int) (h : okB u s = true) (W : World) : Calls Tryd.prog 27 #[.int .i64 u, .int .i64 s] W fun e w' => e = .returned .nilIface ∧ w' = W := (check_ok u s h W).mono fun _ _ h => (And.intro h.1 h.2.symm)
theorem quiet_check_no (u s : Int) (h : okB u s = false) (W : World) : Calls Tryd.prog 27 #[.int .i64 u, .int .i64 s] W fun e w' => e = .returned (.iface 58 (.int .i64 1)) ∧ w' = W := (check_no u s h W).mono fun _ _ h => (And.intro h.1 h.2.symm)

set_option maxRecDepth 100000 in
set_option maxHeartbeats 4000000 in
theorem checkWorld_any (u a b c : Int) (w : World) :
    Calls Tryd.prog 12 #[.agg #[.int .i64 u, .int .i64 a, .int .i64 b, .int .i64 c]] w fun e w' => e = .returned (if (Wd.mk u a b c).ok = true then .nilIface else .iface 58 (.int .i64 1)) ∧ Below w.heap.size w w' := by
  obtain ⟨w1, hw1⟩ : ∃ w1, w1 = w.alloc (.cells #[.int .i64 u, .int .i64 a, .int .i64 b, .int .i64 c] 28) := ⟨_, rfl⟩
  obtain ⟨K, hK⟩ : ∃ K, K = w.heap.size + 1 := ⟨_, rfl⟩
  have HK1 : Hid (w1.heap.size = K) := by unfold Hid; rw [hw1, hK]; simp
  have HX : Hid (w1.cell? ⟨w.heap.size, 0, none⟩ = some (.int .i64 u) ∧ w1.cell? ⟨w.heap.size, 1, none⟩ = some (.int .i64 a) ∧ w1.cell? ⟨w.heap.size, 2, none⟩ = some (.int .i64 b) ∧ w1.cell? ⟨w.heap.size, 3, none⟩ = some (.int .i64 c)) := by
    unfold Hid; rw [hw1]; simp
  have HBK : Hid (w.heap.size < K) := by unfold Hid; omega
  have HW : Hid (Below w.heap.size w w1) := by unfold Hid; rw [hw1]; exact below_alloc1 _ _
  have HKs : Hid (w.heap.size ≤ K) := by unfold Hid; omega
  clear hK
  obtain ⟨E, hE⟩ : ∃ E, E = if (Wd.mk u a b c).ok = true then Value.nilIface else .iface 58 (.int .i64 1) := ⟨_, rfl⟩
  rw [← hE]
  have HE : Hid ((okB u a = true → okB u b = true → okB u c = true → E = .nilIface) ∧ ((okB u a = false ∨ okB u b = false ∨ okB u c = false) → E = .iface 58 (.int .i64 1))) := by
    refine ⟨fun h1 h2 h3 => ?_, fun h => ?_⟩
    · have ho : (Wd.mk u a b c).ok = true := Wd.ok_iff.2 ⟨h1, h2, h3⟩
      rw [if_pos ho] at hE
      exact hE
    · have ho : ¬ (Wd.mk u a b c).ok = true := by
        intro ho
        obtain ⟨h1, h2, h3⟩ := Wd.ok_iff.1 ho
        simp only at h1 h2 h3
        rw [h1, h2, h3] at h
        simp at h
      rw [if_neg ho] at hE
      exact hE
  clear hE
  go_enter Tryd.func12, Tryd.ntmps12
  go_wp2_with fail
  rw [← hw1]
  clear hw1
  go_loopw [5] (fun i wr => ∃ k : Nat, k ≤ 3 ∧ i = .int .i64 k ∧ Below K w1 wr ∧ (1 ≤ k → okB u a = true) ∧ (2 ≤ k → okB u b = true) ∧ (3 ≤ k → okB u c = true)) (fun i _ => 3 - (intOf i).toNat)
  case atStart => exact ⟨0, Nat.zero_le _, rfl, Below.refl _ _, by omega, by omega, by omega⟩
  case round =>
    obtain ⟨k, hk, rfl, hbel, k1, k2, k3⟩ := hrel
    have x0 : wr.cell? ⟨w.heap.size, 0, none⟩ = some (.int .i64 u) := by rw [hbel.cell HBK.out]; exact HX.out.1
    have x1 : wr.cell? ⟨w.heap.size, 1, none⟩ = some (.int .i64 a) := by rw [hbel.cell HBK.out]; exact HX.out.2.1
    have x2 : wr.cell? ⟨w.heap.size, 2, none⟩ = some (.int .i64 b) := by rw [hbel.cell HBK.out]; exact HX.out.2.2.1
    have x3 : wr.cell? ⟨w.heap.size, 3, none⟩ = some (.int .i64 c) := by rw [hbel.cell HBK.out]; exact HX.out.2.2.2
    have HB : Hid (Below K w1 wr) := hbel
    have HKw : Hid (K ≤ wr.heap.size) := by unfold Hid; rw [← HK1.out]; exact hbel.size
    clear hbel
    obtain rfl | rfl | rfl | rfl : k = 0 ∨ k = 1 ∨ k = 2 ∨ k = 3 := by omega
    · clear k1 k2 k3 hk
      rcases (Bool.eq_false_or_eq_true (okB u a)).symm with ho | ho
      · have HO : Hid (okB u a = false) := ho
        clear ho
        go_wp2_with fail
        go_quiet (first | (go_at_call 27; exact Calls.quiet_of_same (quiet_check_no _ _ HO.out _)))
        go_wp2
        go_ret
        exact ⟨back_v (HE.out.2 (Or.inl HO.out)).symm, HW.out.trans ((HB.out.mono HKs.out).trans ((below_drewNs _ _).mono (Nat.le_trans HKs.out HKw.out)))⟩
      · have HO : Hid (okB u a = true) := ho
        clear ho
        go_wp2_with fail
        go_quiet (first | (go_at_call 27; exact Calls.quiet_of_same (quiet_check_ok _ _ HO.out _)))
        go_wp2
        go_roundw
        case rel => exact ⟨1, by omega, by go_num, HB.out.trans ((below_drewNs _ _).mono HKw.out), fun _ => HO.out, fun h => by omega, fun h => by omega⟩
        case measure => simp [intOf]
    · have HO1 : Hid (okB u a = true) := k1 (by omega)
      clear k1 k2 k3 hk
      rcases (Bool.eq_false_or_eq_true (okB u b)).symm with ho | ho
      · have HO : Hid (okB u b = false) := ho
        clear ho
        go_wp2_with fail
        go_quiet (first | (go_at_call 27; exact Calls.quiet_of_same (quiet_check_no _ _ HO.out _)))
        go_wp2
        go_ret
        exact ⟨back_v (HE.out.2 (Or.inr (Or.inl HO.out))).symm, HW.out.trans ((HB.out.mono HKs.out).trans ((below_drewNs _ _).mono (Nat.le_trans HKs.out HKw.out)))⟩
      · have HO : Hid (okB u b = true) := ho
        clear ho
        go_wp2_with fail
        go_quiet (first | (go_at_call 27; exact Calls.quiet_of_same (quiet_check_ok _ _ HO.out _)))
        go_wp2
        go_roundw
        case rel => exact ⟨2, by omega, by go_num, HB.out.trans ((below_drewNs _ _).mono HKw.out), fun _ => HO1.out, fun _ => HO.out, fun h => by omega⟩
        case measure => simp [intOf]
    · have HO1 : Hid (okB u a = true) := k1 (by omega)
      have HO2 : Hid (okB u b = true) := k2 (by omega)
      clear k1 k2 k3 hk
      rcases (Bool.eq_false_or_eq_true (okB u c)).symm with ho | ho
      · have HO : Hid (okB u c = false) := ho
        clear ho
        go_wp2_with fail
        go_quiet (first | (go_at_call 27; exact Calls.quiet_of_same (quiet_check_no _ _ HO.out _)))
        go_wp2
        go_ret
        exact ⟨back_v (HE.out.2 (Or.inr (Or.inr HO.out))).symm, HW.out.trans ((HB.out.mono HKs.out).trans ((below_drewNs _ _).mono (Nat.le_trans HKs.out HKw.out)))⟩
      · have HO : Hid (okB u c = true) := ho
        clear ho
        go_wp2_with fail
        go_quiet (first | (go_at_call 27; exact Calls.quiet_of_same (quiet_check_ok _ _ HO.out _)))
        go_wp2
        go_roundw
        case rel => exact ⟨3, by omega, by go_num, HB.out.trans ((below_drewNs _ _).mono HKw.out), fun _ => HO1.out, fun _ => HO2.out, fun _ => HO.out⟩
        case measure => simp [intOf]
    · have HO : Hid (okB u a = true ∧ okB u b = true ∧ okB u c = true) := ⟨k1 (by omega), k2 (by omega), k3 (by omega)⟩
      clear k1 k2 k3 hk
      go_wp2
      go_ret
      exact ⟨back_v (HE.out.1 HO.out.1 HO.out.2.1 HO.out.2.2).symm, HW.out.trans (HB.out.mono HKs.out)⟩

/-- what Value answers: the set, and the number of the error. -/
def Wd.answer (w : Wd) (t : List Int) : Int := if faultN t = 0 then (if w.ok = true then w.val t else 0) else 0
def Wd.fault (w : Wd) (t : List Int) : Int := if faultN t = 0 then (if w.ok = true then 0 else 1) else faultN t

theorem back_2 {a b x y : Value} (h : a = b) (h' : x = y) : Ending.returned (.tuple #[a, x]) = .returned (.tuple #[b, y]) := by rw [h, h']

theorem value_bad (t : List Int) (v : Value) (u a b c : Int) (w : World) (h : Reads w v t) (hf : ¬ faultN t = 0) :
    Calls Tryd.prog 35 #[v, .agg #[.int .i64 u, .int .i64 a, .int .i64 b, .int .i64 c]] w fun e w' => e = .returned (.tuple #[.int .i64 0, .iface 58 (.int .i64 (faultN t))]) ∧ Below w.heap.size w w' := by
  have HC : Hid (Calls Tryd.prog 44 #[v] (w.alloc (.cells #[.int .i64 u, .int .i64 a, .int .i64 b, .int .i64 c] 28)) fun e w' => e = .returned (.iface 58 (.int .i64 (faultN t))) ∧ (w.alloc (.cells #[.int .i64 u, .int .i64 a, .int .i64 b, .int .i64 c] 28)) = w') := by
    have := tcheck_any t v _ (h.below (below_alloc1 w (.cells #[.int .i64 u, .int .i64 a, .int .i64 b, .int .i64 c] 28)))
    unfold errV at this
    rw [if_neg hf] at this
    exact this
  clear h hf
  obtain ⟨F, hF⟩ : ∃ F, F = faultN t := ⟨_, rfl⟩
  rw [← hF] at HC ⊢
  clear hF
  go_enter Tryd.func35, Tryd.ntmps35
  go_wp2_with (go_at_call 44; refine HC.out.mono ?_; rintro e w' ⟨rfl, rfl⟩)
  go_ret2
  exact ⟨rfl, below_alloc1 _ _⟩

set_option maxRecDepth 100000 in
set_option maxHeartbeats 4000000 in
theorem value_good (t : List Int) (B off cap : Nat) (u a b c : Int) (w : World) (hB : B < w.heap.size) (hcap : t.length ≤ cap) (hf : faultN t = 0) (hc : ∀ k, k < t.length → w.cell? ⟨B, off + k, none⟩ = some (.int .i64 (t.getD k 0))) :
    Calls Tryd.prog 35 #[.slice (some ⟨B, off, none⟩) t.length cap, .agg #[.int .i64 u, .int .i64 a, .int .i64 b, .int .i64 c]] w fun e w' => e = .returned (.tuple #[.int .i64 (if (Wd.mk u a b c).ok = true then (Wd.mk u a b c).val t else 0), if (Wd.mk u a b c).ok = true then .nilIface else .iface 58 (.int .i64 1)]) ∧ Below w.heap.size w w' := by
  obtain ⟨f1, f2, f3, f4⟩ := fault_zero.1 hf
  obtain ⟨w1, hw1⟩ : ∃ w1, w1 = w.alloc (.cells #[.int .i64 u, .int .i64 a, .int .i64 b, .int .i64 c] 28) := ⟨_, rfl⟩
  obtain ⟨K, hK⟩ : ∃ K, K = w.heap.size + 1 := ⟨_, rfl⟩
  have HK1 : Hid (w1.heap.size = K) := by unfold Hid; rw [hw1, hK]; simp
  have HC1 : Hid (∀ k, k < t.length → w1.cell? ⟨B, off + k, none⟩ = some (.int .i64 (t.getD k 0))) := fun k hk => by
    rw [hw1, World.cell?_alloc_lt _ _ ⟨B, off + k, none⟩ hB]; exact hc k hk
  have HBK : Hid (B < K ∧ w.heap.size < K) := ⟨by omega, by omega⟩
  have HW : Hid (Below w.heap.size w w1) := by unfold Hid; rw [hw1]; exact below_alloc1 _ _
  have HKs : Hid (w.heap.size ≤ K) := by unfold Hid; omega
  have HC : Hid (Calls Tryd.prog 44 #[.slice (some ⟨B, off, none⟩) t.length cap] w1 fun e w' => e = .returned .nilIface ∧ w1 = w') := by
    have := tcheck_any t (.slice (some ⟨B, off, none⟩) t.length cap) w1 (Or.inr ⟨B, off, cap, rfl, by have := HK1.out; have := HBK.out.1; omega, by omega, ⟨by omega, hcap⟩, HC1.out⟩)
    rw [hf] at this
    exact this
  clear hc hB hK hcap
  have HWK : Hid (∀ W, Below K w1 W → (Wd.mk u a b c).ok = true → Calls Tryd.prog 47 #[.slice (some ⟨B, off, none⟩) t.length cap, .agg #[.int .i64 u, .int .i64 a, .int .i64 b, .int .i64 c]] W fun e w' => e = .returned (.tuple #[.int .i64 ((Wd.mk u a b c).val t), .nilIface]) ∧ Below W.heap.size W w') := fun W hb hok =>
    work_any u a b c t B off cap W hok f3 f4 f2 (by have := hb.size; have := HK1.out; have := HBK.out.1; omega) (fun k hk => by rw [hb.cell HBK.out.1]; exact HC1.out k hk)
  clear HC1 f1 f2 f3 f4 hf
  obtain ⟨V, hV⟩ : ∃ V, V = (Wd.mk u a b c).val t := ⟨_, rfl⟩
  rw [← hV] at HWK ⊢
  clear hV
  obtain ⟨n, hn⟩ : ∃ n, n = t.length := ⟨_, rfl⟩
  rw [← hn] at HWK HC ⊢
  clear hn
  have HCW : Hid (Calls Tryd.prog 12 #[.agg #[.int .i64 u, .int .i64 a, .int .i64 b, .int .i64 c]] w1 fun e w' => e = .returned (if (Wd.mk u a b c).ok = true then .nilIface else .iface 58 (.int .i64 1)) ∧ Below w1.heap.size w1 w') := checkWorld_any u a b c w1
  have HX : Hid (∀ W, Below w1.heap.size w1 W → W.cell? ⟨w.heap.size, 0, none⟩ = some (.int .i64 u) ∧ W.cell? ⟨w.heap.size, 1, none⟩ = some (.int .i64 a) ∧ W.cell? ⟨w.heap.size, 2, none⟩ = some (.int .i64 b) ∧ W.cell? ⟨w.heap.size, 3, none⟩ = some (.int .i64 c)) := fun W hc => by
    have hlt : w.heap.size < w1.heap.size := by rw [hw1]; simp
    rw [hc.cell (p := ⟨w.heap.size, 0, none⟩) hlt, hc.cell (p := ⟨w.heap.size, 1, none⟩) hlt, hc.cell (p := ⟨w.heap.size, 2, none⟩) hlt, hc.cell (p := ⟨w.heap.size, 3, none⟩) hlt, hw1]
    simp
  rcases (Bool.eq_false_or_eq_true (Wd.mk u a b c).ok).symm with ho | ho
  · rw [if_neg (by rw [ho]; decide), if_neg (by rw [ho]; decide)]
    have HCE : Hid (Calls Tryd.prog 12 #[.agg #[.int .i64 u, .int .i64 a, .int .i64 b, .int .i64 c]] w1 fun e w' => e = .returned (.iface 58 (.int .i64 1)) ∧ Below w1.heap.size w1 w') := by
      have := HCW.out
      rw [if_neg (by rw [ho]; decide)] at this
      exact this
    clear HCW ho HWK
    go_enter Tryd.func35, Tryd.ntmps35
    go_wp2_with fail
    rw [← hw1]
    clear hw1
    obtain ⟨y0, y1, y2, y3⟩ := HX.out w1 (Below.refl _ _)
    go_wp2_with fail
    go_at_call 44
    refine HC.out.mono ?_
    rintro e w' ⟨rfl, rfl⟩
    go_wp2_with fail
    go_at_call 12
    refine HCE.out.mono ?_
    rintro e w2 ⟨rfl, hb⟩
    have HB : Hid (Below w1.heap.size w1 w2) := hb
    clear hb y0 y1 y2 y3
    go_wp2
    go_ret2
    exact ⟨rfl, HW.out.trans (HB.out.mono (by have := HK1.out; have := HKs.out; omega))⟩
  · rw [if_pos ho, if_pos ho]
    have HCE : Hid (Calls Tryd.prog 12 #[.agg #[.int .i64 u, .int .i64 a, .int .i64 b, .int .i64 c]] w1 fun e w' => e = .returned .nilIface ∧ Below w1.heap.size w1 w') := by
      have := HCW.out
      rw [if_pos ho] at this
      exact this
    have HO : Hid ((Wd.mk u a b c).ok = true) := ho
    clear HCW ho
    go_enter Tryd.func35, Tryd.ntmps35
    go_wp2_with fail
    rw [← hw1]
    clear hw1
    obtain ⟨y0, y1, y2, y3⟩ := HX.out w1 (Below.refl _ _)
    go_wp2_with fail
    go_at_call 44
    refine HC.out.mono ?_
    rintro e w' ⟨rfl, rfl⟩
    go_wp2_with fail
    go_at_call 12
    refine HCE.out.mono ?_
    rintro e w2 ⟨rfl, hb⟩
    have HB : Hid (Below w1.heap.size w1 w2) := hb
    obtain ⟨x0, x1, x2, x3⟩ := HX.out w2 hb
    clear hb y0 y1 y2 y3
    go_wp2_with fail
    go_at_call 47
    refine (HWK.out w2 (by rw [← HK1.out]; exact HB.out) HO.out).mono ?_
    rintro e w3 ⟨rfl, hb⟩
    have HB3 : Hid (Below w2.heap.size w2 w3) := hb
    clear hb x0 x1 x2 x3
    go_wp2
    go_ret2
    have hs : w.heap.size ≤ w1.heap.size := by have := HK1.out; have := HKs.out; omega
    exact ⟨rfl, HW.out.trans ((HB.out.mono hs).trans (HB3.out.mono (Nat.le_trans hs HB.out.size)))⟩

/-- Value, whatever the row of signs and the world. -/
theorem value_any (t : List Int) (v : Value) (u a b c : Int) (w : World) (h : Reads w v t) :
    Calls Tryd.prog 35 #[v, .agg #[.int .i64 u, .int .i64 a, .int .i64 b, .int .i64 c]] w fun e w' => e = .returned (.tuple #[.int .i64 ((Wd.mk u a b c).answer t), errV ((Wd.mk u a b c).fault t)]) ∧ Below w.heap.size w w' := by
  by_cases hf : faultN t = 0
  · have e1 : (Wd.mk u a b c).answer t = if (Wd.mk u a b c).ok = true then (Wd.mk u a b c).val t else 0 := by unfold Wd.answer; rw [if_pos hf]
    have e2 : errV ((Wd.mk u a b c).fault t) = if (Wd.mk u a b c).ok = true then .nilIface else .iface 58 (.int .i64 1) := by
      unfold Wd.fault; rw [if_pos hf]
      by_cases ho : (Wd.mk u a b c).ok = true
      · rw [if_pos ho, if_pos ho]; rfl
      · rw [if_neg ho, if_neg ho]; rfl
    rw [e1, e2]
    rcases h with ⟨ao, cap, rfl, rfl⟩ | ⟨B, off, cap, rfl, hB, _, ⟨_, hcap⟩, hc⟩
    · exact absurd hf (by decide)
    · exact value_good t B off cap u a b c w hB hcap hf hc
  · have e1 : (Wd.mk u a b c).answer t = 0 := by unfold Wd.answer; rw [if_neg hf]
    have e2 : errV ((Wd.mk u a b c).fault t) = .iface 58 (.int .i64 (faultN t)) := by
      unfold Wd.fault errV; rw [if_neg hf, if_neg hf]
    rw [e1, e2]
    exact value_bad t v u a b c w h hf
end Go.Proofs.YtjaedfjfcghgcabDoor

namespace Go.Proofs.YtjaedfjfcghgcabDoor
open Go.ChangeShapes Go.WideShapes Go.ChangeAt Go.RowKit

theorem ones64_any (x : Int) (h0 : 0 ≤ x) (h1 : x < 64) (w : World) :
    Calls Tryd.prog 54 #[.int .u64 x] w fun e w' => e = .returned (.int .i64 (pcN x)) ∧ w = w' := by
  go_enter Tryd.func54, Tryd.ntmps54
  go_wp2
  go_ret
  refine ⟨ret_int ?_, rfl⟩
  revert h1 h0
  intro h0 h1
  obtain ⟨n, rfl⟩ := Int.eq_ofNat_of_zero_le h0
  have h : n < 64 := by omega
  clear h0 h1
  revert n
  decide +kernel

theorem ones_any (x : Int) (h0 : 0 ≤ x) (h1 : x < 64) (w : World) :
    Calls Tryd.prog 48 #[.int .u64 x] w fun e w' => e = .returned (.int .i64 (pcN x)) ∧ w = w' := by
  go_enter Tryd.func48, Tryd.ntmps48
  go_wp2_with (go_at_call 54; refine (ones64_any _ h0 h1 _).mono ?_; rintro e w' ⟨rfl, rfl⟩)
  go_ret
  exact ⟨rfl, rfl⟩
end Go.Proofs.YtjaedfjfcghgcabDoor

namespace Go.Proofs.YtjaedfjfcghgcabDoor
open Go.ChangeShapes Go.WideShapes Go.ChangeAt Go.RowKit
set_option maxRecDepth 100000

theorem quiet_ones (x : Int) (h0 : 0 ≤ x) (h1 : x < 64) (W : World) : Calls Tryd.prog 48 #[.int .u64 x] W fun e w' => e = .returned (.int .i64 (pcN x)) ∧ w' = W := (ones_any x h0 h1 W).mono fun _ _ h => And.intro h.1 h.2.symm

set_option maxHeartbeats 1000000 in
theorem says_1 (n x y : Int) (sao tao : Option Addr) (sl scap tl tcap : Nat) (w : World) (x0 : 0 ≤ x) (x1 : x < 64) (y0 : 0 ≤ y) (y1 : y < 64) :
    Calls Tryd.prog 36 #[.agg #[.int .i64 1, .slice sao sl scap, .slice tao tl tcap, .int .i64 n], .int .i64 x, .int .i64 y] w fun e w' => e = .returned (.bool (saysB 1 n x y)) ∧ Below w.heap.size w w' := by
  have HB : Hid (Below w.heap.size w (w.alloc (.cells #[.int .i64 1, .slice sao sl scap, .slice tao tl tcap, .int .i64 n] 45))) := below_alloc1 w _
  have hp := pcN_le x
  have hq := pcN_le y
  have HR : Hid (saysB 1 n x y = (bits .andNot .i64 x y == 0)) := by
    unfold Hid saysB
    rw [less_bits x y x0 x1 y0 y1]; simp; rfl
  obtain ⟨R, hR⟩ : ∃ R, R = saysB 1 n x y := ⟨_, rfl⟩
  rw [← hR] at HR ⊢
  clear hR
  go_enter Tryd.func36, Tryd.ntmps36
  go_wp2_with (go_at_call 48; refine (ones_any _ ?_ ?_ _).mono ?_; omega; omega; rintro e w' ⟨rfl, rfl⟩)
  go_ret
  exact ⟨back_b HR.out.symm, HB.out⟩

set_option maxHeartbeats 1000000 in
theorem says_2 (n x y : Int) (sao tao : Option Addr) (sl scap tl tcap : Nat) (w : World) (x0 : 0 ≤ x) (x1 : x < 64) (y0 : 0 ≤ y) (y1 : y < 64) :
    Calls Tryd.prog 36 #[.agg #[.int .i64 2, .slice sao sl scap, .slice tao tl tcap, .int .i64 n], .int .i64 x, .int .i64 y] w fun e w' => e = .returned (.bool (saysB 2 n x y)) ∧ Below w.heap.size w w' := by
  have HB : Hid (Below w.heap.size w (w.alloc (.cells #[.int .i64 2, .slice sao sl scap, .slice tao tl tcap, .int .i64 n] 45))) := below_alloc1 w _
  have hp := pcN_le x
  have hq := pcN_le y
  have HR : Hid (saysB 2 n x y = (x == y)) := by
    unfold Hid saysB
    simp; rfl
  obtain ⟨R, hR⟩ : ∃ R, R = saysB 2 n x y := ⟨_, rfl⟩
  rw [← hR] at HR ⊢
  clear hR
  go_enter Tryd.func36, Tryd.ntmps36
  go_wp2_with (go_at_call 48; refine (ones_any _ ?_ ?_ _).mono ?_; omega; omega; rintro e w' ⟨rfl, rfl⟩)
  go_ret
  exact ⟨back_b HR.out.symm, HB.out⟩

set_option maxHeartbeats 1000000 in
theorem says_3 (n x y : Int) (sao tao : Option Addr) (sl scap tl tcap : Nat) (w : World) (x0 : 0 ≤ x) (x1 : x < 64) (y0 : 0 ≤ y) (y1 : y < 64) :
    Calls Tryd.prog 36 #[.agg #[.int .i64 3, .slice sao sl scap, .slice tao tl tcap, .int .i64 n], .int .i64 x, .int .i64 y] w fun e w' => e = .returned (.bool (saysB 3 n x y)) ∧ Below w.heap.size w w' := by
  have HB : Hid (Below w.heap.size w (w.alloc (.cells #[.int .i64 3, .slice sao sl scap, .slice tao tl tcap, .int .i64 n] 45))) := below_alloc1 w _
  have hp := pcN_le x
  have hq := pcN_le y
  have HR : Hid (saysB 3 n x y = decide (n ≤ pcN x)) := by
    unfold Hid saysB
    simp
  obtain ⟨R, hR⟩ : ∃ R, R = saysB 3 n x y := ⟨_, rfl⟩
  rw [← hR] at HR ⊢
  clear hR
  go_enter Tryd.func36, Tryd.ntmps36
  go_wp2_with (go_at_call 48; refine (ones_any _ ?_ ?_ _).mono ?_; omega; omega; rintro e w' ⟨rfl, rfl⟩)
  go_ret
  exact ⟨back_b HR.out.symm, HB.out⟩

set_option maxHeartbeats 1000000 in
theorem says_4 (n x y : Int) (sao tao : Option Addr) (sl scap tl tcap : Nat) (w : World) (x0 : 0 ≤ x) (x1 : x < 64) (y0 : 0 ≤ y) (y1 : y < 64) :
    Calls Tryd.prog 36 #[.agg #[.int .i64 4, .slice sao sl scap, .slice tao tl tcap, .int .i64 n], .int .i64 x, .int .i64 y] w fun e w' => e = .returned (.bool (saysB 4 n x y)) ∧ Below w.heap.size w w' := by
  have HB : Hid (Below w.heap.size w (w.alloc (.cells #[.int .i64 4, .slice sao sl scap, .slice tao tl tcap, .int .i64 n] 45))) := below_alloc1 w _
  have hp := pcN_le x
  have hq := pcN_le y
  have HR : Hid (saysB 4 n x y = decide (pcN x ≤ n)) := by
    unfold Hid saysB
    simp
  obtain ⟨R, hR⟩ : ∃ R, R = saysB 4 n x y := ⟨_, rfl⟩
  rw [← hR] at HR ⊢
  clear hR
  go_enter Tryd.func36, Tryd.ntmps36
  go_wp2_with (go_at_call 48; refine (ones_any _ ?_ ?_ _).mono ?_; omega; omega; rintro e w' ⟨rfl, rfl⟩)
  go_ret
  exact ⟨back_b HR.out.symm, HB.out⟩

set_option maxHeartbeats 1000000 in
theorem says_5 (n x y : Int) (sao tao : Option Addr) (sl scap tl tcap : Nat) (w : World) (x0 : 0 ≤ x) (x1 : x < 64) (y0 : 0 ≤ y) (y1 : y < 64) (n0 : -20 ≤ n) (n1 : n ≤ 20) :
    Calls Tryd.prog 36 #[.agg #[.int .i64 5, .slice sao sl scap, .slice tao tl tcap, .int .i64 n], .int .i64 x, .int .i64 y] w fun e w' => e = .returned (.bool (saysB 5 n x y)) ∧ Below w.heap.size w w' := by
  have HB : Hid (Below w.heap.size w (w.alloc (.cells #[.int .i64 5, .slice sao sl scap, .slice tao tl tcap, .int .i64 n] 45))) := below_alloc1 w _
  have hp := pcN_le x
  have hq := pcN_le y
  have HR : Hid (saysB 5 n x y = decide (pcN x ≤ pcN y + n)) := by
    unfold Hid saysB
    simp
  obtain ⟨R, hR⟩ : ∃ R, R = saysB 5 n x y := ⟨_, rfl⟩
  rw [← hR] at HR ⊢
  clear hR
  go_enter Tryd.func36, Tryd.ntmps36
  go_wp2_with (go_at_call 48; refine (ones_any _ ?_ ?_ _).mono ?_; omega; omega; rintro e w' ⟨rfl, rfl⟩)
  go_ret
  exact ⟨back_b HR.out.symm, HB.out⟩


theorem says_any (k n x y : Int) (sao tao : Option Addr) (sl scap tl tcap : Nat) (w : World) (hk : 1 ≤ k ∧ k ≤ 5) (x0 : 0 ≤ x) (x1 : x < 64) (y0 : 0 ≤ y) (y1 : y < 64) (n0 : -20 ≤ n) (n1 : n ≤ 20) :
    Calls Tryd.prog 36 #[.agg #[.int .i64 k, .slice sao sl scap, .slice tao tl tcap, .int .i64 n], .int .i64 x, .int .i64 y] w fun e w' => e = .returned (.bool (saysB k n x y)) ∧ Below w.heap.size w w' := by
  rcases five hk.1 hk.2 with rfl | rfl | rfl | rfl | rfl
  · exact says_1 n x y sao tao sl scap tl tcap w x0 x1 y0 y1
  · exact says_2 n x y sao tao sl scap tl tcap w x0 x1 y0 y1
  · exact says_3 n x y sao tao sl scap tl tcap w x0 x1 y0 y1
  · exact says_4 n x y sao tao sl scap tl tcap w x0 x1 y0 y1
  · exact says_5 n x y sao tao sl scap tl tcap w x0 x1 y0 y1 n0 n1

/-- the two boxes: the atom and the world. -/
def Boxes (w : World) (B : Nat) (k n : Int) (vs vt : Value) (u a b c : Int) : Prop :=
  w.cell? ⟨B, 0, none⟩ = some (.int .i64 k) ∧ w.cell? ⟨B, 1, none⟩ = some vs ∧ w.cell? ⟨B, 2, none⟩ = some vt ∧ w.cell? ⟨B, 3, none⟩ = some (.int .i64 n) ∧ w.cell? ⟨B + 1, 0, none⟩ = some (.int .i64 u) ∧ w.cell? ⟨B + 1, 1, none⟩ = some (.int .i64 a) ∧ w.cell? ⟨B + 1, 2, none⟩ = some (.int .i64 b) ∧ w.cell? ⟨B + 1, 3, none⟩ = some (.int .i64 c)
theorem Boxes.below {w w' : World} {B K : Nat} {k n : Int} {vs vt : Value} {u a b c : Int} (h : Boxes w B k n vs vt u a b c) (hb : Below K w w') (hK : B + 1 < K) : Boxes w' B k n vs vt u a b c := by
  obtain ⟨x0, x1, x2, x3, x4, x5, x6, x7⟩ := h
  have h0 : B < K := by omega
  refine ⟨?_, ?_, ?_, ?_, ?_, ?_, ?_, ?_⟩
  · rw [hb.cell h0]; exact x0
  · rw [hb.cell h0]; exact x1
  · rw [hb.cell h0]; exact x2
  · rw [hb.cell h0]; exact x3
  · rw [hb.cell hK]; exact x4
  · rw [hb.cell hK]; exact x5
  · rw [hb.cell hK]; exact x6
  · rw [hb.cell hK]; exact x7
theorem boxes_alloc (w : World) (k n : Int) (vs vt : Value) (u a b c : Int) : Boxes ((w.alloc (.cells #[.int .i64 k, vs, vt, .int .i64 n] 45)).alloc (.cells #[.int .i64 u, .int .i64 a, .int .i64 b, .int .i64 c] 28)) w.heap.size k n vs vt u a b c := by
  have h : ∀ j, ((w.alloc (.cells #[.int .i64 k, vs, vt, .int .i64 n] 45)).alloc (.cells #[.int .i64 u, .int .i64 a, .int .i64 b, .int .i64 c] 28)).cell? ⟨w.heap.size, j, none⟩ = (w.alloc (.cells #[.int .i64 k, vs, vt, .int .i64 n] 45)).cell? ⟨w.heap.size, j, none⟩ := fun j => World.cell?_alloc_lt _ _ ⟨w.heap.size, j, none⟩ (by simp)
  have e : w.heap.size + 1 = (w.alloc (.cells #[.int .i64 k, vs, vt, .int .i64 n] 45)).heap.size := by simp
  refine ⟨?_, ?_, ?_, ?_, ?_, ?_, ?_, ?_⟩
  · rw [h]; simp
  · rw [h]; simp
  · rw [h]; simp
  · rw [h]; simp
  · rw [e]; simp
  · rw [e]; simp
  · rw [e]; simp
  · rw [e]; simp


theorem holds_bad (k F : Int) (n : Int) (sao tao : Option Addr) (sl scap tl tcap : Nat) (u a b c : Int) (w : World)
    (hC : ∀ W, Below w.heap.size w W → Calls Tryd.prog 30 #[.agg #[.int .i64 k, .slice sao sl scap, .slice tao tl tcap, .int .i64 n]] W fun e w' => e = .returned (.iface 58 (.int .i64 F)) ∧ Below W.heap.size W w') :
    Calls Tryd.prog 18 #[.agg #[.int .i64 k, .slice sao sl scap, .slice tao tl tcap, .int .i64 n], .agg #[.int .i64 u, .int .i64 a, .int .i64 b, .int .i64 c]] w fun e w' => e = .returned (.tuple #[.bool false, (.iface 58 (.int .i64 F))]) ∧ Below w.heap.size w w' := by
  obtain ⟨w1, hw1⟩ : ∃ w1, w1 = (w.alloc (.cells #[.int .i64 k, .slice sao sl scap, .slice tao tl tcap, .int .i64 n] 45)).alloc (.cells #[.int .i64 u, .int .i64 a, .int .i64 b, .int .i64 c] 28) := ⟨_, rfl⟩
  have HB1 : Hid (Below w.heap.size w w1) := by unfold Hid; rw [hw1]; exact (below_alloc1 w _).trans ((below_alloc1 _ _).mono (by simp))
  have HX : Hid (Boxes w1 w.heap.size k n (.slice sao sl scap) (.slice tao tl tcap) u a b c) := by rw [hw1]; exact boxes_alloc w _ _ _ _ _ _ _ _
  have HK1 : Hid (w.heap.size + 1 < w1.heap.size) := by unfold Hid; rw [hw1]; simp
  have HC : Hid (Calls Tryd.prog 30 #[.agg #[.int .i64 k, .slice sao sl scap, .slice tao tl tcap, .int .i64 n]] w1 fun e w' => e = .returned (.iface 58 (.int .i64 F)) ∧ Below w1.heap.size w1 w') := hC w1 HB1.out
  clear hC
  obtain ⟨x0, x1, x2, x3, x4, x5, x6, x7⟩ := HX.out
  go_enter Tryd.func18, Tryd.ntmps18
  go_wp2_with fail
  rw [← hw1]
  clear hw1
  go_wp2_with (go_at_call 30; refine HC.out.mono ?_; rintro e w2 ⟨rfl, hb⟩; have HB2 : Hid (Below w.heap.size w w2) := HB1.out.trans (hb.mono (Nat.le_of_lt (Nat.lt_of_succ_lt HK1.out))); clear hb)
  go_ret2
  exact ⟨rfl, HB2.out⟩


theorem holds_world (k : Int) (n : Int) (sao tao : Option Addr) (sl scap tl tcap : Nat) (u a b c : Int) (w : World)
    (hC : ∀ W, Below w.heap.size w W → (Calls Tryd.prog 30 #[.agg #[.int .i64 k, .slice sao sl scap, .slice tao tl tcap, .int .i64 n]] W fun e w' => e = .returned .nilIface ∧ Below W.heap.size W w'))
    (hV : ∀ W, Below w.heap.size w W → Calls Tryd.prog 35 #[.slice sao sl scap, .agg #[.int .i64 u, .int .i64 a, .int .i64 b, .int .i64 c]] W fun e w' => e = .returned (.tuple #[.int .i64 0, (.iface 58 (.int .i64 1))]) ∧ Below W.heap.size W w') :
    Calls Tryd.prog 18 #[.agg #[.int .i64 k, .slice sao sl scap, .slice tao tl tcap, .int .i64 n], .agg #[.int .i64 u, .int .i64 a, .int .i64 b, .int .i64 c]] w fun e w' => e = .returned (.tuple #[.bool false, (.iface 58 (.int .i64 1))]) ∧ Below w.heap.size w w' := by
  obtain ⟨w1, hw1⟩ : ∃ w1, w1 = (w.alloc (.cells #[.int .i64 k, .slice sao sl scap, .slice tao tl tcap, .int .i64 n] 45)).alloc (.cells #[.int .i64 u, .int .i64 a, .int .i64 b, .int .i64 c] 28) := ⟨_, rfl⟩
  have HB1 : Hid (Below w.heap.size w w1) := by unfold Hid; rw [hw1]; exact (below_alloc1 w _).trans ((below_alloc1 _ _).mono (by simp))
  have HX : Hid (Boxes w1 w.heap.size k n (.slice sao sl scap) (.slice tao tl tcap) u a b c) := by rw [hw1]; exact boxes_alloc w _ _ _ _ _ _ _ _
  have HK1 : Hid (w.heap.size + 1 < w1.heap.size) := by unfold Hid; rw [hw1]; simp
  have HC : Hid (Calls Tryd.prog 30 #[.agg #[.int .i64 k, .slice sao sl scap, .slice tao tl tcap, .int .i64 n]] w1 fun e w' => e = .returned .nilIface ∧ Below w1.heap.size w1 w') := hC w1 HB1.out
  have HV : Hid (∀ W, Below w1.heap.size w1 W → Calls Tryd.prog 35 #[.slice sao sl scap, .agg #[.int .i64 u, .int .i64 a, .int .i64 b, .int .i64 c]] W fun e w' => e = .returned (.tuple #[.int .i64 0, (.iface 58 (.int .i64 1))]) ∧ Below W.heap.size W w') := fun W hW => hV W (HB1.out.trans (hW.mono (Nat.le_of_lt (Nat.lt_of_succ_lt HK1.out))))
  clear hC hV
  obtain ⟨x0, x1, x2, x3, x4, x5, x6, x7⟩ := HX.out
  go_enter Tryd.func18, Tryd.ntmps18
  go_wp2_with fail
  rw [← hw1]
  clear hw1
  go_wp2_with (first | (go_at_call 30; refine HC.out.mono ?_; rintro e w2 ⟨rfl, hb⟩; have HZ2 : Hid (Below w1.heap.size w1 w2) := hb; clear hb x0 x1 x2 x3 x4 x5 x6 x7; obtain ⟨x0, x1, x2, x3, x4, x5, x6, x7⟩ := HX.out.below HZ2.out HK1.out) | (go_at_call 35; refine (HV.out _ HZ2.out).mono ?_; rintro e w3 ⟨rfl, hb⟩; have HZ3 : Hid (Below w1.heap.size w1 w3) := HZ2.out.trans (hb.mono HZ2.out.size); clear hb))
  go_ret2
  exact ⟨rfl, HB1.out.trans (HZ3.out.mono (Nat.le_of_lt (Nat.lt_of_succ_lt HK1.out)))⟩


set_option maxHeartbeats 2000000 in
theorem holds_sec (k : Nat) (h0 : 0 < k) (h6 : k < 6) (x y : Int) (n : Int) (sao tao : Option Addr) (sl scap tl tcap : Nat) (u a b c : Int) (w : World) (hK : KindsLaid w) (hb : secondB (k : Int) = true) (x0 : 0 ≤ x) (x1 : x < 64) (y0 : 0 ≤ y) (y1 : y < 64) (n0 : -20 ≤ n) (n1 : n ≤ 20)
    (hC : ∀ W, Below w.heap.size w W → (Calls Tryd.prog 30 #[.agg #[.int .i64 (k : Int), .slice sao sl scap, .slice tao tl tcap, .int .i64 n]] W fun e w' => e = .returned .nilIface ∧ Below W.heap.size W w'))
    (hV : ∀ W, Below w.heap.size w W → Calls Tryd.prog 35 #[.slice sao sl scap, .agg #[.int .i64 u, .int .i64 a, .int .i64 b, .int .i64 c]] W fun e w' => e = .returned (.tuple #[.int .i64 x, .nilIface]) ∧ Below W.heap.size W w')
    (hV2 : ∀ W, Below w.heap.size w W → Calls Tryd.prog 35 #[.slice tao tl tcap, .agg #[.int .i64 u, .int .i64 a, .int .i64 b, .int .i64 c]] W fun e w' => e = .returned (.tuple #[.int .i64 y, .nilIface]) ∧ Below W.heap.size W w') :
    Calls Tryd.prog 18 #[.agg #[.int .i64 (k : Int), .slice sao sl scap, .slice tao tl tcap, .int .i64 n], .agg #[.int .i64 u, .int .i64 a, .int .i64 b, .int .i64 c]] w fun e w' => e = .returned (.tuple #[.bool (saysB (k : Int) n x y), .nilIface]) ∧ Below w.heap.size w w' := by
  have HS : Hid (∀ W, Calls Tryd.prog 36 #[.agg #[.int .i64 (k : Int), .slice sao sl scap, .slice tao tl tcap, .int .i64 n], .int .i64 x, .int .i64 y] W fun e w' => e = .returned (.bool (saysB (k : Int) n x y)) ∧ Below W.heap.size W w') := fun W => says_any (k : Int) n x y sao tao sl scap tl tcap W (by omega) x0 x1 y0 y1 n0 n1
  clear x0 x1 y0 y1 n0 n1
  obtain ⟨R, hR⟩ : ∃ R, R = saysB (k : Int) n x y := ⟨_, rfl⟩
  rw [← hR] at HS ⊢
  clear hR
  obtain ⟨w1, hw1⟩ : ∃ w1, w1 = (w.alloc (.cells #[.int .i64 (k : Int), .slice sao sl scap, .slice tao tl tcap, .int .i64 n] 45)).alloc (.cells #[.int .i64 u, .int .i64 a, .int .i64 b, .int .i64 c] 28) := ⟨_, rfl⟩
  have HB1 : Hid (Below w.heap.size w w1) := by unfold Hid; rw [hw1]; exact (below_alloc1 w _).trans ((below_alloc1 _ _).mono (by simp))
  have HX : Hid (Boxes w1 w.heap.size (k : Int) n (.slice sao sl scap) (.slice tao tl tcap) u a b c) := by rw [hw1]; exact boxes_alloc w _ _ _ _ _ _ _ _
  have HK1 : Hid (w.heap.size + 1 < w1.heap.size) := by unfold Hid; rw [hw1]; simp
  have HQ : Hid (∀ W, Below w1.heap.size w1 W → W.cell? ⟨0, k * 3 + 1, none⟩ = some (.bool true)) := fun W hW => by rw [← hb]; exact (kind_has ((hK.below HB1.out).below hW) h0 h6).1
  have HC : Hid (Calls Tryd.prog 30 #[.agg #[.int .i64 (k : Int), .slice sao sl scap, .slice tao tl tcap, .int .i64 n]] w1 fun e w' => e = .returned .nilIface ∧ Below w1.heap.size w1 w') := hC w1 HB1.out
  have HV : Hid (∀ W, Below w1.heap.size w1 W → Calls Tryd.prog 35 #[.slice sao sl scap, .agg #[.int .i64 u, .int .i64 a, .int .i64 b, .int .i64 c]] W fun e w' => e = .returned (.tuple #[.int .i64 x, .nilIface]) ∧ Below W.heap.size W w') := fun W hW => hV W (HB1.out.trans (hW.mono (Nat.le_of_lt (Nat.lt_of_succ_lt HK1.out))))
  have HV2 : Hid (∀ W, Below w1.heap.size w1 W → Calls Tryd.prog 35 #[.slice tao tl tcap, .agg #[.int .i64 u, .int .i64 a, .int .i64 b, .int .i64 c]] W fun e w' => e = .returned (.tuple #[.int .i64 y, .nilIface]) ∧ Below W.heap.size W w') := fun W hW => hV2 W (HB1.out.trans (hW.mono (Nat.le_of_lt (Nat.lt_of_succ_lt HK1.out))))
  clear hC hV hK hb hV2
  obtain ⟨x0, x1, x2, x3, x4, x5, x6, x7⟩ := HX.out
  go_enter Tryd.func18, Tryd.ntmps18
  go_wp2_with fail
  rw [← hw1]
  clear hw1
  go_wp2_with (go_at_call 30; refine HC.out.mono ?_; rintro e w2 ⟨rfl, hb⟩; have HZ2 : Hid (Below w1.heap.size w1 w2) := hb; clear hb x0 x1 x2 x3 x4 x5 x6 x7; obtain ⟨x0, x1, x2, x3, x4, x5, x6, x7⟩ := HX.out.below HZ2.out HK1.out)
  go_wp2_with fail
  go_at_call 35
  refine (HV.out _ HZ2.out).mono ?_
  rintro e w3 ⟨rfl, hb⟩
  have HZ3 : Hid (Below w1.heap.size w1 w3) := HZ2.out.trans (hb.mono HZ2.out.size)
  have q0 : w3.cell? ⟨0, k * 3 + 1, none⟩ = some (.bool true) := HQ.out _ HZ3.out
  clear hb x0 x1 x2 x3 x4 x5 x6 x7
  obtain ⟨x0, x1, x2, x3, x4, x5, x6, x7⟩ := HX.out.below HZ3.out HK1.out
  go_wp2_with fail
  go_at_call 35
  refine (HV2.out _ HZ3.out).mono ?_
  rintro e w4 ⟨rfl, hb⟩
  have HZ4 : Hid (Below w1.heap.size w1 w4) := HZ3.out.trans (hb.mono HZ3.out.size)
  clear hb x0 x1 x2 x3 x4 x5 x6 x7
  obtain ⟨x0, x1, x2, x3, x4, x5, x6, x7⟩ := HX.out.below HZ4.out HK1.out
  go_wp2_with fail
  go_at_call 36
  refine (HS.out _).mono ?_
  rintro e w5 ⟨rfl, hb⟩
  have HZ5 : Hid (Below w1.heap.size w1 w5) := HZ4.out.trans (hb.mono HZ4.out.size)
  clear hb
  go_wp2
  go_ret2
  exact ⟨rfl, HB1.out.trans (HZ5.out.mono (Nat.le_of_lt (Nat.lt_of_succ_lt HK1.out)))⟩


set_option maxHeartbeats 2000000 in
theorem holds_one (k : Nat) (h0 : 0 < k) (h6 : k < 6) (x y : Int) (n : Int) (sao tao : Option Addr) (sl scap tl tcap : Nat) (u a b c : Int) (w : World) (hK : KindsLaid w) (hb : secondB (k : Int) = false) (x0 : 0 ≤ x) (x1 : x < 64) (y0 : 0 ≤ y) (y1 : y < 64) (n0 : -20 ≤ n) (n1 : n ≤ 20)
    (hC : ∀ W, Below w.heap.size w W → (Calls Tryd.prog 30 #[.agg #[.int .i64 (k : Int), .slice sao sl scap, .slice tao tl tcap, .int .i64 n]] W fun e w' => e = .returned .nilIface ∧ Below W.heap.size W w'))
    (hV : ∀ W, Below w.heap.size w W → Calls Tryd.prog 35 #[.slice sao sl scap, .agg #[.int .i64 u, .int .i64 a, .int .i64 b, .int .i64 c]] W fun e w' => e = .returned (.tuple #[.int .i64 x, .nilIface]) ∧ Below W.heap.size W w')
    (hy : y = 0) :
    Calls Tryd.prog 18 #[.agg #[.int .i64 (k : Int), .slice sao sl scap, .slice tao tl tcap, .int .i64 n], .agg #[.int .i64 u, .int .i64 a, .int .i64 b, .int .i64 c]] w fun e w' => e = .returned (.tuple #[.bool (saysB (k : Int) n x y), .nilIface]) ∧ Below w.heap.size w w' := by
  subst hy
  have HS : Hid (∀ W, Calls Tryd.prog 36 #[.agg #[.int .i64 (k : Int), .slice sao sl scap, .slice tao tl tcap, .int .i64 n], .int .i64 x, .int .i64 0] W fun e w' => e = .returned (.bool (saysB (k : Int) n x 0)) ∧ Below W.heap.size W w') := fun W => says_any (k : Int) n x 0 sao tao sl scap tl tcap W (by omega) x0 x1 y0 y1 n0 n1
  clear x0 x1 y0 y1 n0 n1
  obtain ⟨R, hR⟩ : ∃ R, R = saysB (k : Int) n x 0 := ⟨_, rfl⟩
  rw [← hR] at HS ⊢
  clear hR
  obtain ⟨w1, hw1⟩ : ∃ w1, w1 = (w.alloc (.cells #[.int .i64 (k : Int), .slice sao sl scap, .slice tao tl tcap, .int .i64 n] 45)).alloc (.cells #[.int .i64 u, .int .i64 a, .int .i64 b, .int .i64 c] 28) := ⟨_, rfl⟩
  have HB1 : Hid (Below w.heap.size w w1) := by unfold Hid; rw [hw1]; exact (below_alloc1 w _).trans ((below_alloc1 _ _).mono (by simp))
  have HX : Hid (Boxes w1 w.heap.size (k : Int) n (.slice sao sl scap) (.slice tao tl tcap) u a b c) := by rw [hw1]; exact boxes_alloc w _ _ _ _ _ _ _ _
  have HK1 : Hid (w.heap.size + 1 < w1.heap.size) := by unfold Hid; rw [hw1]; simp
  have HQ : Hid (∀ W, Below w1.heap.size w1 W → W.cell? ⟨0, k * 3 + 1, none⟩ = some (.bool false)) := fun W hW => by rw [← hb]; exact (kind_has ((hK.below HB1.out).below hW) h0 h6).1
  have HC : Hid (Calls Tryd.prog 30 #[.agg #[.int .i64 (k : Int), .slice sao sl scap, .slice tao tl tcap, .int .i64 n]] w1 fun e w' => e = .returned .nilIface ∧ Below w1.heap.size w1 w') := hC w1 HB1.out
  have HV : Hid (∀ W, Below w1.heap.size w1 W → Calls Tryd.prog 35 #[.slice sao sl scap, .agg #[.int .i64 u, .int .i64 a, .int .i64 b, .int .i64 c]] W fun e w' => e = .returned (.tuple #[.int .i64 x, .nilIface]) ∧ Below W.heap.size W w') := fun W hW => hV W (HB1.out.trans (hW.mono (Nat.le_of_lt (Nat.lt_of_succ_lt HK1.out))))
  clear hC hV hK hb
  obtain ⟨x0, x1, x2, x3, x4, x5, x6, x7⟩ := HX.out
  go_enter Tryd.func18, Tryd.ntmps18
  go_wp2_with fail
  rw [← hw1]
  clear hw1
  go_wp2_with (go_at_call 30; refine HC.out.mono ?_; rintro e w2 ⟨rfl, hb⟩; have HZ2 : Hid (Below w1.heap.size w1 w2) := hb; clear hb x0 x1 x2 x3 x4 x5 x6 x7; obtain ⟨x0, x1, x2, x3, x4, x5, x6, x7⟩ := HX.out.below HZ2.out HK1.out)
  go_wp2_with fail
  go_at_call 35
  refine (HV.out _ HZ2.out).mono ?_
  rintro e w3 ⟨rfl, hb⟩
  have HZ3 : Hid (Below w1.heap.size w1 w3) := HZ2.out.trans (hb.mono HZ2.out.size)
  have q0 : w3.cell? ⟨0, k * 3 + 1, none⟩ = some (.bool false) := HQ.out _ HZ3.out
  clear hb x0 x1 x2 x3 x4 x5 x6 x7
  obtain ⟨x0, x1, x2, x3, x4, x5, x6, x7⟩ := HX.out.below HZ3.out HK1.out
  go_wp2_with fail
  go_at_call 36
  refine (HS.out _).mono ?_
  rintro e w5 ⟨rfl, hb⟩
  have HZ5 : Hid (Below w1.heap.size w1 w5) := HZ3.out.trans (hb.mono HZ3.out.size)
  clear hb
  go_wp2
  go_ret2
  exact ⟨rfl, HB1.out.trans (HZ5.out.mono (Nat.le_of_lt (Nat.lt_of_succ_lt HK1.out)))⟩


theorem back_bool {a b : Bool} {x y : Value} (h : a = b) (h' : x = y) : Ending.returned (.tuple #[.bool a, x]) = .returned (.tuple #[.bool b, y]) := by rw [h, h']

/-- Holds, whatever the atom and the world. -/
theorem aholds_any (k n : Int) (vs vt : Value) (s t : List Int) (u a b c : Int) (w : World) (hS : Reads w vs s) (hT : Reads w vt t) (hK : KindsLaid w) :
    Calls Tryd.prog 18 #[.agg #[.int .i64 k, vs, vt, .int .i64 n], .agg #[.int .i64 u, .int .i64 a, .int .i64 b, .int .i64 c]] w fun e w' => e = .returned (.tuple #[.bool ((Wd.mk u a b c).holdsIs k s t n), errV ((Wd.mk u a b c).holdsFault k s t n)]) ∧ Below w.heap.size w w' := by
  have hC : ∀ W, Below w.heap.size w W → _ := fun W hW => acheck_any k n vs vt s t W (hS.below hW) (hT.below hW) (hK.below hW)
  have hV : ∀ W, Below w.heap.size w W → _ := fun W hW => value_any s vs u a b c W (hS.below hW)
  have hV2 : ∀ W, Below w.heap.size w W → _ := fun W hW => value_any t vt u a b c W (hT.below hW)
  obtain ⟨sao, scap, rfl, _⟩ := hS.slice
  obtain ⟨tao, tcap, rfl, _⟩ := hT.slice
  by_cases hf : atomFault k s t n = 0
  · obtain ⟨hk, hs, ht, n0, n1⟩ := atomFault_zero.1 hf
    rw [hf, errV_0] at hC
    have hm : mostN k ≤ 20 := by unfold mostN; split <;> omega
    by_cases hw : (Wd.mk u a b c).ok = true
    · have e1 : (Wd.mk u a b c).holdsFault k s t n = 0 := by unfold Wd.holdsFault; rw [if_pos hf, if_pos hw]
      have e2 : (Wd.mk u a b c).holdsIs k s t n = saysB k n ((Wd.mk u a b c).val s) ((Wd.mk u a b c).snd k t) := by unfold Wd.holdsIs; rw [if_pos e1]; rfl
      have e3 : (Wd.mk u a b c).answer s = (Wd.mk u a b c).val s := by unfold Wd.answer; rw [if_pos hs, if_pos hw]
      have e4 : (Wd.mk u a b c).fault s = 0 := by unfold Wd.fault; rw [if_pos hs, if_pos hw]
      rw [e1, e2, errV_0]
      rw [e3, e4, errV_0] at hV
      have ox := okB_lt (ok_val hw s)
      have oy := okB_lt (ok_val hw t)
      have hsec : secondB k = true → (Wd.mk u a b c).answer t = (Wd.mk u a b c).val t ∧ (Wd.mk u a b c).fault t = 0 ∧ (Wd.mk u a b c).snd k t = (Wd.mk u a b c).val t := by
        intro h
        have h0 := second_reads ht h
        refine ⟨?_, ?_, ?_⟩
        · unfold Wd.answer; rw [if_pos h0, if_pos hw]
        · unfold Wd.fault; rw [if_pos h0, if_pos hw]
        · unfold Wd.snd; rw [if_pos h]
      obtain ⟨k, rfl⟩ := Int.eq_ofNat_of_zero_le (show 0 ≤ k by omega)
      cases hb : secondB (k : Int)
      · have g3 : (Wd.mk u a b c).snd (k : Int) t = 0 := by unfold Wd.snd; rw [hb]; rfl
        rw [g3]
        exact holds_one k (by omega) (by omega) _ 0 n sao tao _ scap _ tcap u a b c w hK hb ox.2.2.1 ox.2.2.2 (Int.le_refl 0) (by decide) (by omega) (by omega) hC hV rfl
      · obtain ⟨g1, g2, g3⟩ := hsec hb
        rw [g1, g2, errV_0] at hV2; rw [g3]
        exact holds_sec k (by omega) (by omega) _ _ n sao tao _ scap _ tcap u a b c w hK hb ox.2.2.1 ox.2.2.2 oy.2.2.1 oy.2.2.2 (by omega) (by omega) hC hV hV2
    · have e1 : (Wd.mk u a b c).holdsFault k s t n = 1 := by unfold Wd.holdsFault; rw [if_pos hf, if_neg hw]
      have e2 : (Wd.mk u a b c).holdsIs k s t n = false := by unfold Wd.holdsIs; rw [if_neg (by rw [e1]; decide)]
      have e3 : (Wd.mk u a b c).answer s = 0 := by unfold Wd.answer; rw [if_pos hs, if_neg hw]
      have e4 : (Wd.mk u a b c).fault s = 1 := by unfold Wd.fault; rw [if_pos hs, if_neg hw]
      rw [e1, e2, errV_no (by decide)]
      rw [e3, e4, errV_no (by decide)] at hV
      exact holds_world k n sao tao _ scap _ tcap u a b c w hC hV
  · have e1 : (Wd.mk u a b c).holdsFault k s t n = atomFault k s t n := by unfold Wd.holdsFault; rw [if_neg hf]
    have e2 : (Wd.mk u a b c).holdsIs k s t n = false := by unfold Wd.holdsIs; rw [if_neg (by rw [e1]; exact hf)]
    rw [e1, e2, errV_no hf]
    rw [errV_no hf] at hC
    exact holds_bad k _ n sao tao _ scap _ tcap u a b c w hC

end Go.Proofs.YtjaedfjfcghgcabDoor

namespace Go.Proofs.YtjaedfjfcghgcabDoor
open Go.ChangeShapes Go.WideShapes Go.ChangeAt Go.RowKit

/-- a row of n cells of which the first k are filled. -/
def fill (f : Nat → Value) (z : Value) (n k : Nat) : List Value := (List.range n).map fun j => if j < k then f j else z
theorem fill_zero (f : Nat → Value) (z : Value) (n : Nat) : fill f z n 0 = List.replicate n z := by
  apply List.ext_getElem
  · simp [fill]
  · intro j h1 h2; simp [fill]
theorem fill_set (f : Nat → Value) (z : Value) (n k : Nat) : (fill f z n k).set k (f k) = fill f z n (k + 1) := by
  apply List.ext_getElem
  · simp [fill]
  · intro j h1 h2
    simp only [fill, List.getElem_set, List.getElem_map, List.getElem_range]
    by_cases h : k = j
    · subst h; simp
    · rw [if_neg h]
      by_cases h' : j < k
      · rw [if_pos h', if_pos (by omega)]
      · rw [if_neg h', if_neg (by omega)]
theorem fill_get (f : Nat → Value) (z : Value) (n k j : Nat) (hj : j < n) : (fill f z n k)[j]? = some (if j < k then f j else z) := by
  simp [fill, hj]

end Go.Proofs.YtjaedfjfcghgcabDoor
