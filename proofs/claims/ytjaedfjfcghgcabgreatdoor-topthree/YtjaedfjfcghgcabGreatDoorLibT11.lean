/-
  Proved: what term.CheckWorld and term.Value return, of any row of signs and any world; what was in memory is as it was (a contract that the statements lean on).
  Proved: what fields.with returns; what was in memory is as it was (a contract that the statements lean on).
  Proved: what fields.Mask returns, of any row of signs; what was in memory is as it was (contracts that the statements lean on).
  Plain facts on a block of memory, whole: what lies in it, behind a call, behind a store; eight numbers and a world as blocks. (What the contracts of package fields lean on.)
  Proved: venntop.one returns true, where ask.Of answers as chapter 18 says; what was in memory is as it was (a contract that the statements of the whole lean on).
-/
import Derived.Test.YtjaedfjfcghgcabGreatDoorLibT10
import Derived.Test.YtjaedfjfcghgcabGreatDoorLibT5
import Derived.Test.YtjaedfjfcghgcabGreatDoorLibT9
import Derived.Handy
import Derived.Deep.CutRange
import Derived.Deep.CutBlock
namespace Go.Proofs.YtjaedfjfcghgcabGreatDoor
open Go.ChangeShapes Go.WideShapes Go.ChangeAt Go.RowKit

theorem quiet_check_ok (u s : Int) (h : okB u s = true) (W : World) : Calls Tryz.prog 24 #[.int .i64 u, .int .i64 s] W fun e w' => e = .returned .nilIface ∧ w' = W := (check_ok u s h W).mono fun _ _ h => (And.intro h.1 h.2.symm)
theorem quiet_check_no (u s : Int) (h : okB u s = false) (W : World) : Calls Tryz.prog 24 #[.int .i64 u, .int .i64 s] W fun e w' => e = .returned (.iface 75 (.int .i64 1)) ∧ w' = W := (check_no u s h W).mono fun _ _ h => (And.intro h.1 h.2.symm)

set_option maxRecDepth 100000 in
set_option maxHeartbeats 4000000 in
theorem checkWorld_any (u a b c : Int) (w : World) :
    Calls Tryz.prog 148 #[.agg #[.int .i64 u, .int .i64 a, .int .i64 b, .int .i64 c]] w fun e w' => e = .returned (if (Wd.mk u a b c).ok = true then .nilIface else .iface 75 (.int .i64 1)) ∧ Below w.heap.size w w' := by
  obtain ⟨w1, hw1⟩ : ∃ w1, w1 = w.alloc (.cells #[.int .i64 u, .int .i64 a, .int .i64 b, .int .i64 c] 34) := ⟨_, rfl⟩
  obtain ⟨K, hK⟩ : ∃ K, K = w.heap.size + 1 := ⟨_, rfl⟩
  have HK1 : Hid (w1.heap.size = K) := by unfold Hid; rw [hw1, hK]; simp
  have HX : Hid (w1.cell? ⟨w.heap.size, 0, none⟩ = some (.int .i64 u) ∧ w1.cell? ⟨w.heap.size, 1, none⟩ = some (.int .i64 a) ∧ w1.cell? ⟨w.heap.size, 2, none⟩ = some (.int .i64 b) ∧ w1.cell? ⟨w.heap.size, 3, none⟩ = some (.int .i64 c)) := by
    unfold Hid; rw [hw1]; simp
  have HBK : Hid (w.heap.size < K) := by unfold Hid; omega
  have HW : Hid (Below w.heap.size w w1) := by unfold Hid; rw [hw1]; exact below_alloc1 _ _
  have HKs : Hid (w.heap.size ≤ K) := by unfold Hid; omega
  clear hK
  obtain ⟨E, hE⟩ : ∃ E, E = if (Wd.mk u a b c).ok = true then Value.nilIface else .iface 75 (.int .i64 1) := ⟨_, rfl⟩
  rw [← hE]
  have HE : Hid ((okB u a = true → okB u b = true → okB u c = true → E = .nilIface) ∧ ((okB u a = false ∨ okB u b = false ∨ okB u c = false) → E = .iface 75 (.int .i64 1))) := by
    refine ⟨fun h1 h2 h3 => ?_, fun h => ?_⟩
    · have ho : (Wd.mk u a b c).ok = true := Wd.ok_iff.2 ⟨h1, h2, h3⟩
      rw [if_pos ho] at hE
      exact hE
    · have ho : ¬ (Wd.mk u a b c).ok = true := by
        intro ho
        obtain ⟨h1, h2, h3⟩ := Wd.ok_iff.1 ho
        simp only at h1 h2 h3
        rw [h1, h2, h3] at h
        simp at h
      rw [if_neg ho] at hE
      exact hE
  clear hE
  go_enter Tryz.func148, Tryz.ntmps148
  go_wp2_with fail
  rw [← hw1]
  clear hw1
  go_loopw [5] (fun i wr => ∃ k : Nat, k ≤ 3 ∧ i = .int .i64 k ∧ Below K w1 wr ∧ (1 ≤ k → okB u a = true) ∧ (2 ≤ k → okB u b = true) ∧ (3 ≤ k → okB u c = true)) (fun i _ => 3 - (intOf i).toNat)
  case atStart => exact ⟨0, Nat.zero_le _, rfl, Below.refl _ _, by omega, by omega, by omega⟩
  case round =>
    obtain ⟨k, hk, rfl, hbel, k1, k2, k3⟩ := hrel
    have x0 : wr.cell? ⟨w.heap.size, 0, none⟩ = some (.int .i64 u) := by rw [hbel.cell HBK.out]; exact HX.out.1
    have x1 : wr.cell? ⟨w.heap.size, 1, none⟩ = some (.int .i64 a) := by rw [hbel.cell HBK.out]; exact HX.out.2.1
    have x2 : wr.cell? ⟨w.heap.size, 2, none⟩ = some (.int .i64 b) := by rw [hbel.cell HBK.out]; exact HX.out.2.2.1
    have x3 : wr.cell? ⟨w.heap.size, 3, none⟩ = some (.int .i64 c) := by rw [hbel.cell HBK.out]; exact HX.out.2.2.2
    have HB : Hid (Below K w1 wr) := hbel
    have HKw : Hid (K ≤ wr.heap.size) := by unfold Hid; rw [← HK1.out]; exact hbel.size
    clear hbel
    obtain rfl | rfl | rfl | rfl : k = 0 ∨ k = 1 ∨ k = 2 ∨ k = 3 := by omega
    · clear k1 k2 k3 hk
      rcases (Bool.eq_false_or_eq_true (okB u a)).symm with ho | ho
      · have HO : Hid (okB u a = false) := ho
        clear ho
        go_wp2_with fail
        go_quiet (first | (go_at_call 24; exact Calls.quiet_of_same (quiet_check_no _ _ HO.out _)))
        go_wp2
        go_ret
        exact ⟨back_v (HE.out.2 (Or.inl HO.out)).symm, HW.out.trans ((HB.out.mono HKs.out).trans ((below_drewNs _ _).mono (Nat.le_trans HKs.out HKw.out)))⟩
      · have HO : Hid (okB u a = true) := ho
        clear ho
        go_wp2_with fail
        go_quiet (first | (go_at_call 24; exact Calls.quiet_of_same (quiet_check_ok _ _ HO.out _)))
        go_wp2
        go_roundw
        case rel => exact ⟨1, by omega, by go_num, HB.out.trans ((below_drewNs _ _).mono HKw.out), fun _ => HO.out, fun h => by omega, fun h => by omega⟩
        case measure => simp [intOf]
    · have HO1 : Hid (okB u a = true) := k1 (by omega)
      clear k1 k2 k3 hk
      rcases (Bool.eq_false_or_eq_true (okB u b)).symm with ho | ho
      · have HO : Hid (okB u b = false) := ho
        clear ho
        go_wp2_with fail
        go_quiet (first | (go_at_call 24; exact Calls.quiet_of_same (quiet_check_no _ _ HO.out _)))
        go_wp2
        go_ret
        exact ⟨back_v (HE.out.2 (Or.inr (Or.inl HO.out))).symm, HW.out.trans ((HB.out.mono HKs.out).trans ((below_drewNs _ _).mono (Nat.le_trans HKs.out HKw.out)))⟩
      · have HO : Hid (okB u b = true) := ho
        clear ho
        go_wp2_with fail
        go_quiet (first | (go_at_call 24; exact Calls.quiet_of_same (quiet_check_ok _ _ HO.out _)))
        go_wp2
        go_roundw
        case rel => exact ⟨2, by omega, by go_num, HB.out.trans ((below_drewNs _ _).mono HKw.out), fun _ => HO1.out, fun _ => HO.out, fun h => by omega⟩
        case measure => simp [intOf]
    · have HO1 : Hid (okB u a = true) := k1 (by omega)
      have HO2 : Hid (okB u b = true) := k2 (by omega)
      clear k1 k2 k3 hk
      rcases (Bool.eq_false_or_eq_true (okB u c)).symm with ho | ho
      · have HO : Hid (okB u c = false) := ho
        clear ho
        go_wp2_with fail
        go_quiet (first | (go_at_call 24; exact Calls.quiet_of_same (quiet_check_no _ _ HO.out _)))
        go_wp2
        go_ret
        exact ⟨back_v (HE.out.2 (Or.inr (Or.inr HO.out))).symm, HW.out.trans ((HB.out.mono HKs.out).trans ((below_drewNs _ _).mono (Nat.le_trans HKs.out HKw.out)))⟩
      · have HO : Hid (okB u c = true) := ho
        clear ho
        go_wp2_with fail
        go_quiet (first | (go_at_call 24; exact Calls.quiet_of_same (quiet_check_ok _ _ HO.out _)))
        go_wp2
        go_roundw
        case rel => exact ⟨3, by omega, by go_num, HB.out.trans ((below_drewNs _ _).mono HKw.out), fun _ => HO1.out, fun _ => HO2.out, fun _ => HO.out⟩
        case measure => simp [intOf]
    · have HO : Hid (okB u a = true ∧ okB u b = true ∧ okB u c = true) := ⟨k1 (by omega), k2 (by omega), k3 (by omega)⟩
      clear k1 k2 k3 hk
      go_wp2
      go_ret
      exact ⟨back_v (HE.out.1 HO.out.1 HO.out.2.1 HO.out.2.2).symm, HW.out.trans (HB.out.mono HKs.out)⟩

/-- what Value answers: the set, and the number of the error. -/
def Wd.answer (w : Wd) (t : List Int) : Int := if faultN t = 0 then (if w.ok = true then w.val t else 0) else 0
def Wd.fault (w : Wd) (t : List Int) : Int := if faultN t = 0 then (if w.ok = true then 0 else 1) else faultN t

theorem value_bad (t : List Int) (v : Value) (u a b c : Int) (w : World) (h : Reads w v t) (hf : ¬ faultN t = 0) :
    Calls Tryz.prog 115 #[v, .agg #[.int .i64 u, .int .i64 a, .int .i64 b, .int .i64 c]] w fun e w' => e = .returned (.tuple #[.int .i64 0, .iface 75 (.int .i64 (faultN t))]) ∧ Below w.heap.size w w' := by
  have HC : Hid (Calls Tryz.prog 58 #[v] (w.alloc (.cells #[.int .i64 u, .int .i64 a, .int .i64 b, .int .i64 c] 34)) fun e w' => e = .returned (.iface 75 (.int .i64 (faultN t))) ∧ (w.alloc (.cells #[.int .i64 u, .int .i64 a, .int .i64 b, .int .i64 c] 34)) = w') := by
    have := tcheck_any t v _ (h.below (below_alloc1 w (.cells #[.int .i64 u, .int .i64 a, .int .i64 b, .int .i64 c] 34)))
    unfold errV at this
    rw [if_neg hf] at this
    exact this
  clear h hf
  obtain ⟨F, hF⟩ : ∃ F, F = faultN t := ⟨_, rfl⟩
  rw [← hF] at HC ⊢
  clear hF
  go_enter Tryz.func115, Tryz.ntmps115
  go_wp2_with (go_at_call 58; refine HC.out.mono ?_; rintro e w' ⟨rfl, rfl⟩)
  go_ret2
  exact ⟨rfl, below_alloc1 _ _⟩

set_option maxRecDepth 100000 in
set_option maxHeartbeats 4000000 in
theorem value_good (t : List Int) (B off cap : Nat) (u a b c : Int) (w : World) (hB : B < w.heap.size) (hcap : t.length ≤ cap) (hf : faultN t = 0) (hc : ∀ k, k < t.length → w.cell? ⟨B, off + k, none⟩ = some (.int .i64 (t.getD k 0))) :
    Calls Tryz.prog 115 #[.slice (some ⟨B, off, none⟩) t.length cap, .agg #[.int .i64 u, .int .i64 a, .int .i64 b, .int .i64 c]] w fun e w' => e = .returned (.tuple #[.int .i64 (if (Wd.mk u a b c).ok = true then (Wd.mk u a b c).val t else 0), if (Wd.mk u a b c).ok = true then .nilIface else .iface 75 (.int .i64 1)]) ∧ Below w.heap.size w w' := by
  obtain ⟨f1, f2, f3, f4⟩ := fault_zero.1 hf
  obtain ⟨w1, hw1⟩ : ∃ w1, w1 = w.alloc (.cells #[.int .i64 u, .int .i64 a, .int .i64 b, .int .i64 c] 34) := ⟨_, rfl⟩
  obtain ⟨K, hK⟩ : ∃ K, K = w.heap.size + 1 := ⟨_, rfl⟩
  have HK1 : Hid (w1.heap.size = K) := by unfold Hid; rw [hw1, hK]; simp
  have HC1 : Hid (∀ k, k < t.length → w1.cell? ⟨B, off + k, none⟩ = some (.int .i64 (t.getD k 0))) := fun k hk => by
    rw [hw1, World.cell?_alloc_lt _ _ ⟨B, off + k, none⟩ hB]; exact hc k hk
  have HBK : Hid (B < K ∧ w.heap.size < K) := ⟨by omega, by omega⟩
  have HW : Hid (Below w.heap.size w w1) := by unfold Hid; rw [hw1]; exact below_alloc1 _ _
  have HKs : Hid (w.heap.size ≤ K) := by unfold Hid; omega
  have HC : Hid (Calls Tryz.prog 58 #[.slice (some ⟨B, off, none⟩) t.length cap] w1 fun e w' => e = .returned .nilIface ∧ w1 = w') := by
    have := tcheck_any t (.slice (some ⟨B, off, none⟩) t.length cap) w1 (Or.inr ⟨B, off, cap, rfl, by have := HK1.out; have := HBK.out.1; omega, by omega, ⟨by omega, hcap⟩, HC1.out⟩)
    rw [hf] at this
    exact this
  clear hc hB hK hcap
  have HWK : Hid (∀ W, Below K w1 W → (Wd.mk u a b c).ok = true → Calls Tryz.prog 149 #[.slice (some ⟨B, off, none⟩) t.length cap, .agg #[.int .i64 u, .int .i64 a, .int .i64 b, .int .i64 c]] W fun e w' => e = .returned (.tuple #[.int .i64 ((Wd.mk u a b c).val t), .nilIface]) ∧ Below W.heap.size W w') := fun W hb hok =>
    work_any u a b c t B off cap W hok f3 f4 f2 (by have := hb.size; have := HK1.out; have := HBK.out.1; omega) (fun k hk => by rw [hb.cell HBK.out.1]; exact HC1.out k hk)
  clear HC1 f1 f2 f3 f4 hf
  obtain ⟨V, hV⟩ : ∃ V, V = (Wd.mk u a b c).val t := ⟨_, rfl⟩
  rw [← hV] at HWK ⊢
  clear hV
  obtain ⟨n, hn⟩ : ∃ n, n = t.length := ⟨_, rfl⟩
  rw [← hn] at HWK HC ⊢
  clear hn
  have HCW : Hid (Calls Tryz.prog 148 #[.agg #[.int .i64 u, .int .i64 a, .int .i64 b, .int .i64 c]] w1 fun e w' => e = .returned (if (Wd.mk u a b c).ok = true then .nilIface else .iface 75 (.int .i64 1)) ∧ Below w1.heap.size w1 w') := checkWorld_any u a b c w1
  have HX : Hid (∀ W, Below w1.heap.size w1 W → W.cell? ⟨w.heap.size, 0, none⟩ = some (.int .i64 u) ∧ W.cell? ⟨w.heap.size, 1, none⟩ = some (.int .i64 a) ∧ W.cell? ⟨w.heap.size, 2, none⟩ = some (.int .i64 b) ∧ W.cell? ⟨w.heap.size, 3, none⟩ = some (.int .i64 c)) := fun W hc => by
    have hlt : w.heap.size < w1.heap.size := by rw [hw1]; simp
    rw [hc.cell (p := ⟨w.heap.size, 0, none⟩) hlt, hc.cell (p := ⟨w.heap.size, 1, none⟩) hlt, hc.cell (p := ⟨w.heap.size, 2, none⟩) hlt, hc.cell (p := ⟨w.heap.size, 3, none⟩) hlt, hw1]
    simp
  rcases (Bool.eq_false_or_eq_true (Wd.mk u a b c).ok).symm with ho | ho
  · rw [if_neg (by rw [ho]; decide), if_neg (by rw [ho]; decide)]
    have HCE : Hid (Calls Tryz.prog 148 #[.agg #[.int .i64 u, .int .i64 a, .int .i64 b, .int .i64 c]] w1 fun e w' => e = .returned (.iface 75 (.int .i64 1)) ∧ Below w1.heap.size w1 w') := by
      have := HCW.out
      rw [if_neg (by rw [ho]; decide)] at this
      exact this
    clear HCW ho HWK
    go_enter Tryz.func115, Tryz.ntmps115
    go_wp2_with fail
    rw [← hw1]
    clear hw1
    obtain ⟨y0, y1, y2, y3⟩ := HX.out w1 (Below.refl _ _)
    go_wp2_with fail
    go_at_call 58
    refine HC.out.mono ?_
    rintro e w' ⟨rfl, rfl⟩
    go_wp2_with fail
    go_at_call 148
    refine HCE.out.mono ?_
    rintro e w2 ⟨rfl, hb⟩
    have HB : Hid (Below w1.heap.size w1 w2) := hb
    clear hb y0 y1 y2 y3
    go_wp2
    go_ret2
    exact ⟨rfl, HW.out.trans (HB.out.mono (by have := HK1.out; have := HKs.out; omega))⟩
  · rw [if_pos ho, if_pos ho]
    have HCE : Hid (Calls Tryz.prog 148 #[.agg #[.int .i64 u, .int .i64 a, .int .i64 b, .int .i64 c]] w1 fun e w' => e = .returned .nilIface ∧ Below w1.heap.size w1 w') := by
      have := HCW.out
      rw [if_pos ho] at this
      exact this
    have HO : Hid ((Wd.mk u a b c).ok = true) := ho
    clear HCW ho
    go_enter Tryz.func115, Tryz.ntmps115
    go_wp2_with fail
    rw [← hw1]
    clear hw1
    obtain ⟨y0, y1, y2, y3⟩ := HX.out w1 (Below.refl _ _)
    go_wp2_with fail
    go_at_call 58
    refine HC.out.mono ?_
    rintro e w' ⟨rfl, rfl⟩
    go_wp2_with fail
    go_at_call 148
    refine HCE.out.mono ?_
    rintro e w2 ⟨rfl, hb⟩
    have HB : Hid (Below w1.heap.size w1 w2) := hb
    obtain ⟨x0, x1, x2, x3⟩ := HX.out w2 hb
    clear hb y0 y1 y2 y3
    go_wp2_with fail
    go_at_call 149
    refine (HWK.out w2 (by rw [← HK1.out]; exact HB.out) HO.out).mono ?_
    rintro e w3 ⟨rfl, hb⟩
    have HB3 : Hid (Below w2.heap.size w2 w3) := hb
    clear hb x0 x1 x2 x3
    go_wp2
    go_ret2
    have hs : w.heap.size ≤ w1.heap.size := by have := HK1.out; have := HKs.out; omega
    exact ⟨rfl, HW.out.trans ((HB.out.mono hs).trans (HB3.out.mono (Nat.le_trans hs HB.out.size)))⟩

/-- Value, whatever the row of signs and the world. -/
theorem value_any (t : List Int) (v : Value) (u a b c : Int) (w : World) (h : Reads w v t) :
    Calls Tryz.prog 115 #[v, .agg #[.int .i64 u, .int .i64 a, .int .i64 b, .int .i64 c]] w fun e w' => e = .returned (.tuple #[.int .i64 ((Wd.mk u a b c).answer t), errV ((Wd.mk u a b c).fault t)]) ∧ Below w.heap.size w w' := by
  by_cases hf : faultN t = 0
  · have e1 : (Wd.mk u a b c).answer t = if (Wd.mk u a b c).ok = true then (Wd.mk u a b c).val t else 0 := by unfold Wd.answer; rw [if_pos hf]
    have e2 : errV ((Wd.mk u a b c).fault t) = if (Wd.mk u a b c).ok = true then .nilIface else .iface 75 (.int .i64 1) := by
      unfold Wd.fault; rw [if_pos hf]
      by_cases ho : (Wd.mk u a b c).ok = true
      · rw [if_pos ho, if_pos ho]; rfl
      · rw [if_neg ho, if_neg ho]; rfl
    rw [e1, e2]
    rcases h with ⟨ao, cap, rfl, rfl⟩ | ⟨B, off, cap, rfl, hB, _, ⟨_, hcap⟩, hc⟩
    · exact absurd hf (by decide)
    · exact value_good t B off cap u a b c w hB hcap hf hc
  · have e1 : (Wd.mk u a b c).answer t = 0 := by unfold Wd.answer; rw [if_neg hf]
    have e2 : errV ((Wd.mk u a b c).fault t) = .iface 75 (.int .i64 (faultN t)) := by
      unfold Wd.fault errV; rw [if_neg hf, if_neg hf]
    rw [e1, e2]
    exact value_bad t v u a b c w h hf
end Go.Proofs.YtjaedfjfcghgcabGreatDoor


namespace Go.Proofs.YtjaedfjfcghgcabGreatDoor
open Go.ChangeShapes Go.WideShapes Go.ChangeAt Go.RowKit

theorem bit_at (s : Int) (i : Nat) (h0 : 0 ≤ s) (h1 : s < 256) (hi : i < 8) : bits .and .i64 (s / 2 ^ i) 1 = oneB (hasB s i) := by
  have e : ∀ n : Nat, n < 256 → ∀ i : Nat, i < 8 → bits .and .i64 ((n : Int) / 2 ^ i) 1 = oneB (hasB n i) := by decide +kernel
  obtain ⟨n, rfl⟩ := Int.eq_ofNat_of_zero_le h0
  exact e n (by omega) i hi
theorem or_more {n : Nat} {a : Int} (h : okB n a = true) (h5 : n ≤ 5) (x : Bool) : bits .or .i64 a (wrap64 (oneB x * 2 ^ n)) = a + oneB x * pw n := by
  have e := uptoSets (P := fun u a _ => u ≤ 5 → ∀ x, bits .or .i64 a (wrap64 (oneB x * 2 ^ u.toNat)) = a + oneB x * pw u.toNat) (by decide +kernel) n a a h h (by omega) x
  simpa using e
theorem and_bit : ∀ f : Nat, f < 8 → bits .and .i64 (f : Int) 1 = oneB (bitB f 0) ∧ bits .and .i64 ((f : Int) / 2) 1 = oneB (bitB f 1) ∧ bits .and .i64 ((f : Int) / 4) 1 = oneB (bitB f 2) := by decide +kernel

set_option maxRecDepth 100000 in
set_option maxHeartbeats 4000000 in
theorem with_field (n : Nat) (a b c : Int) (f : Nat) (hok : (Wd.mk n a b c).ok = true) (h5 : n ≤ 5) (hf : f < 8) (w : World) :
    Calls Tryz.prog 108 #[.agg #[.int .i64 n, .int .i64 a, .int .i64 b, .int .i64 c], .int .i64 f] w fun e w' => e = .returned (((Wd.mk n a b c).more f).v) ∧ Below w.heap.size w w' := by
  have HV : Hid (Value.agg #[.int .i64 ((n : Int) + 1), .int .i64 (bits .or .i64 a (wrap64 (bits .and .i64 (f : Int) 1 * 2 ^ n))), .int .i64 (bits .or .i64 b (wrap64 (bits .and .i64 ((f : Int) / 2) 1 * 2 ^ n))), .int .i64 (bits .or .i64 c (wrap64 (bits .and .i64 ((f : Int) / 4) 1 * 2 ^ n)))] = ((Wd.mk n a b c).more f).v) := by
    obtain ⟨h1, h2, h3⟩ := Wd.ok_iff.1 hok
    obtain ⟨e1, e2, e3⟩ := and_bit f hf
    unfold Hid
    rw [e1, e2, e3, or_more h1 h5, or_more h2 h5, or_more h3 h5]
    rfl
  clear hok
  go_enter Tryz.func108, Tryz.ntmps108
  go_wp2
  refine wp_loop_rounds 4 ?_
  rw [rounds_succ]
  go_wp2
  go_region
  go_wp2
  rw [rounds_succ]
  go_wp2
  go_region
  go_wp2
  rw [rounds_succ]
  go_wp2
  go_region
  go_wp2
  rw [rounds_succ]
  go_wp2
  go_returns
  exact ⟨back_v HV.out, by go_grown⟩
end Go.Proofs.YtjaedfjfcghgcabGreatDoor


namespace Go.Proofs.YtjaedfjfcghgcabGreatDoor
open Go.ChangeShapes Go.WideShapes Go.ChangeAt Go.RowKit

/-- where the term lies, 2^f for each field, added up; 0, if it is none. -/
def maskN (t : List Int) : Int := if faultN t = 0 then maskTo (liesB t) 8 else 0
theorem with_one (f : Nat) (hf : f < 8) (w : World) :
    Calls Tryz.prog 108 #[.agg #[.int .i64 0, .int .i64 0, .int .i64 0, .int .i64 0], .int .i64 f] w fun e w' => e = .returned (.agg #[.int .i64 1, .int .i64 (oneW f).a, .int .i64 (oneW f).b, .int .i64 (oneW f).c]) ∧ Below w.heap.size w w' :=
  with_field 0 0 0 0 f (by decide) (by omega) hf w
theorem one_value (t : List Int) (v : Value) (f : Nat) (w : World) (h : Reads w v t) :
    Calls Tryz.prog 115 #[v, .agg #[.int .i64 1, .int .i64 (oneW f).a, .int .i64 (oneW f).b, .int .i64 (oneW f).c]] w fun e w' => e = .returned (.tuple #[.int .i64 (if faultN t = 0 then oneB (liesB t f) else 0), errV (faultN t)]) ∧ Below w.heap.size w w' := by
  have hv := value_any t v 1 (oneW f).a (oneW f).b (oneW f).c w h
  have e : (Wd.mk 1 (oneW f).a (oneW f).b (oneW f).c) = oneW f := rfl
  rw [e] at hv
  have e1 : (oneW f).answer t = if faultN t = 0 then oneB (liesB t f) else 0 := by unfold Wd.answer; rw [if_pos (oneW_ok f), oneW_val]
  have e2 : (oneW f).fault t = faultN t := by
    unfold Wd.fault; rw [if_pos (oneW_ok f)]
    split
    · rename_i h0; exact h0.symm
    · rfl
  rw [e1, e2] at hv
  exact hv
theorem or_mask1 : ∀ k : Nat, k < 8 → ∀ m : Nat, m < 2 ^ k → ∀ x, bits .or .i64 (m : Int) (wrap64 (oneB x * 2 ^ k)) = (m : Int) + oneB x * pw k := by decide +kernel
theorem or_mask (L : Nat → Bool) {k : Nat} (hk : k < 8) : bits .or .i64 (maskTo L k) (wrap64 (oneB (L k) * 2 ^ k)) = maskTo L (k + 1) := by
  obtain ⟨m0, m1⟩ := maskTo_le L k
  obtain ⟨m, hm⟩ := Int.eq_ofNat_of_zero_le m0
  have hp : pw k = ((2 ^ k : Nat) : Int) := by unfold pw; simp
  have h := or_mask1 k hk m (by rw [hm, hp] at m1; omega) (L k)
  show _ = maskTo L k + oneB (L k) * pw k
  rw [hm]; exact h

set_option maxRecDepth 100000 in
set_option maxHeartbeats 4000000 in
theorem mask_any (t : List Int) (v : Value) (w : World) (h : Reads w v t) :
    Calls Tryz.prog 82 #[v] w fun e w' => e = .returned (.tuple #[.int .i64 (maskN t), errV (faultN t)]) ∧ Below w.heap.size w w' := by
  have HV : Hid (∀ f W, Below w.heap.size w W → Calls Tryz.prog 115 #[v, .agg #[.int .i64 1, .int .i64 (oneW f).a, .int .i64 (oneW f).b, .int .i64 (oneW f).c]] W fun e w' => e = .returned (.tuple #[.int .i64 (if faultN t = 0 then oneB (liesB t f) else 0), errV (faultN t)]) ∧ Below W.heap.size W w') := fun f W hb => one_value t v f W (h.below hb)
  clear h
  by_cases hf : faultN t = 0
  · have e1 : maskN t = maskTo (liesB t) 8 := by unfold maskN; rw [if_pos hf]
    have e2 : errV (faultN t) = .nilIface := by rw [hf]; rfl
    rw [e1, e2]
    rw [e2] at HV
    simp only [if_pos hf] at HV
    clear e1 e2 hf
    obtain ⟨L, hL⟩ : ∃ L, L = liesB t := ⟨_, rfl⟩
    rw [← hL] at HV ⊢
    clear hL
    go_enter Tryz.func82, Tryz.ntmps82
    go_wp2
    go_loopw [4, 8] (fun m i wr => ∃ k : Nat, k ≤ 8 ∧ i = .int .i64 k ∧ m = .int .i64 (maskTo L k) ∧ Below w.heap.size w wr) (fun _ i _ => 8 - (intOf i).toNat)
    case atStart => exact ⟨0, Nat.zero_le _, rfl, rfl, Below.refl _ _⟩
    case round =>
      obtain ⟨k, hk, rfl, rfl, hb⟩ := hrel
      have HB : Hid (Below w.heap.size w wr) := hb
      clear hb
      by_cases hlt : k < 8
      · have HS : Hid (bits .or .i64 (maskTo L k) (wrap64 (oneB (L k) * 2 ^ k)) = maskTo L (k + 1)) := or_mask L hlt
        go_wp2_with fail
        go_at_call 108
        refine (with_one k hlt _).mono ?_
        rintro e w2 ⟨rfl, hb2⟩
        have HB2 : Hid (Below w.heap.size w w2) := HB.out.trans (hb2.mono HB.out.size)
        clear hb2
        go_wp2_with fail
        go_at_call 115
        refine (HV.out k w2 HB2.out).mono ?_
        rintro e w3 ⟨rfl, hb3⟩
        have HB3 : Hid (Below w.heap.size w w3) := HB2.out.trans (hb3.mono HB2.out.size)
        clear hb3
        go_wp2
        go_roundw
        case rel => exact ⟨k + 1, by omega, by go_num, by rw [HS.out], HB3.out⟩
        case measure => simp [intOf]; omega
      · obtain rfl : k = 8 := by omega
        go_wp2
        go_ret2
        exact ⟨rfl, HB.out⟩
  · have e1 : maskN t = 0 := by unfold maskN; rw [if_neg hf]
    have e2 : errV (faultN t) = .iface 75 (.int .i64 (faultN t)) := by unfold errV; rw [if_neg hf]
    rw [e1, e2]
    rw [e2] at HV
    simp only [if_neg hf] at HV
    clear e1 e2 hf
    obtain ⟨F, hF⟩ : ∃ F, F = faultN t := ⟨_, rfl⟩
    rw [← hF] at HV ⊢
    clear hF
    go_enter Tryz.func82, Tryz.ntmps82
    go_wp2
    refine wp_loop_rounds 1 ?_
    rw [rounds_succ]
    go_wp2_with fail
    go_at_call 108
    refine (with_one 0 (by omega) _).mono ?_
    rintro e w2 ⟨rfl, hb2⟩
    have HB2 : Hid (Below w.heap.size w w2) := hb2
    clear hb2
    go_wp2_with fail
    go_at_call 115
    refine (HV.out 0 w2 HB2.out).mono ?_
    rintro e w3 ⟨rfl, hb3⟩
    have HB3 : Hid (Below w.heap.size w w3) := HB2.out.trans (hb3.mono HB2.out.size)
    clear hb3
    go_wp2
    go_ret2
    exact ⟨rfl, HB3.out⟩
end Go.Proofs.YtjaedfjfcghgcabGreatDoor


namespace Go.Proofs.YtjaedfjfcghgcabGreatDoor
open Go.ChangeShapes Go.WideShapes Go.ChangeAt Go.RowKit

/-- block G holds the cells cs, and all of them may be written. -/
def Blk (w : World) (G : Nat) (T : TypeId) (cs : Array Value) : Prop := w.heap[G]? = some (.cells cs T (0, 0))
theorem Blk.lt {w : World} {G : Nat} {T : TypeId} {cs : Array Value} (h : Blk w G T cs) : G < w.heap.size := (Array.getElem?_eq_some_iff.1 h).1
theorem Blk.below {w w' : World} {G : Nat} {T : TypeId} {cs : Array Value} (h : Blk w G T cs) (hb : Below w.heap.size w w') : Blk w' G T cs := by
  unfold Blk; rw [hb.block G h.lt]; exact h
theorem Blk.cell {w : World} {G : Nat} {T : TypeId} {cs : Array Value} (h : Blk w G T cs) (j : Nat) : w.cell? ⟨G, j, none⟩ = cs[j]? := cell_of_row w G j cs T (0, 0) h
theorem Blk.frozen {w : World} {G : Nat} {T : TypeId} {cs : Array Value} (h : Blk w G T cs) (j : Nat) : w.frozen? ⟨G, j, none⟩ = false := frozen_of_row w G j cs T h
theorem Blk.set {w : World} {G : Nat} {T : TypeId} {cs : Array Value} (h : Blk w G T cs) (j : Nat) (u : Value) : Blk (w.setCell ⟨G, j, none⟩ u) G T (cs.setIfInBounds j u) := heap_setCell_same w G j cs T u h
theorem Blk.far {w : World} {G : Nat} {T : TypeId} {cs : Array Value} (h : Blk w G T cs) {R : Nat} (hR : G ≠ R) (j : Nat) (u : Value) : Blk (w.setCell ⟨R, j, none⟩ u) G T cs := by
  unfold Blk; rw [heap_setCell_other w ⟨R, j, none⟩ G u hR]; exact h
theorem Blk.drew {w : World} {G : Nat} {T : TypeId} {cs : Array Value} (h : Blk w G T cs) : Blk w.drew G T cs := h
theorem Blk.new (w : World) (T : TypeId) (cs : Array Value) : Blk (w.alloc (.cells cs T)) w.heap.size T cs := heap_alloc_new w _
theorem Blk.old {w : World} {G : Nat} {T : TypeId} {cs : Array Value} (h : Blk w G T cs) (o : Obj) : Blk (w.alloc o) G T cs := by
  unfold Blk; rw [heap_alloc_old w o h.lt]; exact h

/-- eight numbers. -/
def arr8 (N : Nat → Int) : Array Value := #[.int .i64 (N 0), .int .i64 (N 1), .int .i64 (N 2), .int .i64 (N 3), .int .i64 (N 4), .int .i64 (N 5), .int .i64 (N 6), .int .i64 (N 7)]
theorem arr8_get (N : Nat → Int) {f : Nat} (hf : f < 8) : (arr8 N)[f]? = some (.int .i64 (N f)) := by
  rcases eight hf with rfl | rfl | rfl | rfl | rfl | rfl | rfl | rfl <;> rfl
theorem arr8_same {N M : Nat → Int} (h : ∀ f, f < 8 → N f = M f) : arr8 N = arr8 M := by
  unfold arr8
  rw [h 0 (by omega), h 1 (by omega), h 2 (by omega), h 3 (by omega), h 4 (by omega), h 5 (by omega), h 6 (by omega), h 7 (by omega)]
theorem arr8_all (N M : Nat → Int) : ((((((((arr8 N).setIfInBounds 0 (.int .i64 (M 0))).setIfInBounds 1 (.int .i64 (M 1))).setIfInBounds 2 (.int .i64 (M 2))).setIfInBounds 3 (.int .i64 (M 3))).setIfInBounds 4 (.int .i64 (M 4))).setIfInBounds 5 (.int .i64 (M 5))).setIfInBounds 6 (.int .i64 (M 6))).setIfInBounds 7 (.int .i64 (M 7)) = arr8 M := by
  simp [arr8]
/-- a world's four numbers. -/
def arrW (w : Wd) : Array Value := #[.int .i64 w.u, .int .i64 w.a, .int .i64 w.b, .int .i64 w.c]

theorem load8 {W : World} {R : Nat} {N : Nat → Int} (h : Blk W R 44 (arr8 N)) : (loadVar 44 ⟨R, 0, none⟩).run Tryz.prog W = .ok (.agg (arr8 N)) W := by
  have hl := run_loadCells_list (P := Tryz.prog) W ⟨R, 0, none⟩ (arr8 N).toList (fun j v hj => by
    have := h.cell j
    rw [← Array.getElem?_toList] at this
    rw [hj] at this
    have ha : (⟨R, 0, none⟩ : Addr).add j = ⟨R, j, none⟩ := by unfold Addr.add; split <;> simp_all
    rw [ha]; exact this)
  simp [loadVar, Tryz.isAgg44, Tryz.sizeOf44, Result.andThen, arr8] at hl ⊢
  simp [hl]
theorem Blk.cells8 {w : World} {G : Nat} {T : TypeId} {N : Nat → Int} (h : Blk w G T (arr8 N)) : w.cell? ⟨G, 0, none⟩ = some (.int .i64 (N 0)) ∧ w.cell? ⟨G, 1, none⟩ = some (.int .i64 (N 1)) ∧ w.cell? ⟨G, 2, none⟩ = some (.int .i64 (N 2)) ∧ w.cell? ⟨G, 3, none⟩ = some (.int .i64 (N 3)) ∧ w.cell? ⟨G, 4, none⟩ = some (.int .i64 (N 4)) ∧ w.cell? ⟨G, 5, none⟩ = some (.int .i64 (N 5)) ∧ w.cell? ⟨G, 6, none⟩ = some (.int .i64 (N 6)) ∧ w.cell? ⟨G, 7, none⟩ = some (.int .i64 (N 7)) :=
  ⟨h.cell 0, h.cell 1, h.cell 2, h.cell 3, h.cell 4, h.cell 5, h.cell 6, h.cell 7⟩
theorem Blk.frozen8 {w : World} {G : Nat} {T : TypeId} {cs : Array Value} (h : Blk w G T cs) : w.frozen? ⟨G, 0, none⟩ = false ∧ w.frozen? ⟨G, 1, none⟩ = false ∧ w.frozen? ⟨G, 2, none⟩ = false ∧ w.frozen? ⟨G, 3, none⟩ = false ∧ w.frozen? ⟨G, 4, none⟩ = false ∧ w.frozen? ⟨G, 5, none⟩ = false ∧ w.frozen? ⟨G, 6, none⟩ = false ∧ w.frozen? ⟨G, 7, none⟩ = false :=
  ⟨h.frozen 0, h.frozen 1, h.frozen 2, h.frozen 3, h.frozen 4, h.frozen 5, h.frozen 6, h.frozen 7⟩
theorem Blk.cells4 {w : World} {G : Nat} {T : TypeId} {W : Wd} (h : Blk w G T (arrW W)) : w.cell? ⟨G, 0, none⟩ = some (.int .i64 W.u) ∧ w.cell? ⟨G, 1, none⟩ = some (.int .i64 W.a) ∧ w.cell? ⟨G, 2, none⟩ = some (.int .i64 W.b) ∧ w.cell? ⟨G, 3, none⟩ = some (.int .i64 W.c) :=
  ⟨h.cell 0, h.cell 1, h.cell 2, h.cell 3⟩
theorem Blk.frozen4 {w : World} {G : Nat} {T : TypeId} {cs : Array Value} (h : Blk w G T cs) : w.frozen? ⟨G, 0, none⟩ = false ∧ w.frozen? ⟨G, 1, none⟩ = false ∧ w.frozen? ⟨G, 2, none⟩ = false ∧ w.frozen? ⟨G, 3, none⟩ = false :=
  ⟨h.frozen 0, h.frozen 1, h.frozen 2, h.frozen 3⟩
/-- eight numbers, and a world, written into a block. -/
def put8 (w : World) (R : Nat) (M : Nat → Int) : World := (((((((w.setCell ⟨R, 0, none⟩ (.int .i64 (M 0))).setCell ⟨R, 1, none⟩ (.int .i64 (M 1))).setCell ⟨R, 2, none⟩ (.int .i64 (M 2))).setCell ⟨R, 3, none⟩ (.int .i64 (M 3))).setCell ⟨R, 4, none⟩ (.int .i64 (M 4))).setCell ⟨R, 5, none⟩ (.int .i64 (M 5))).setCell ⟨R, 6, none⟩ (.int .i64 (M 6))).setCell ⟨R, 7, none⟩ (.int .i64 (M 7))
def putW (w : World) (R : Nat) (M : Wd) : World := (((w.setCell ⟨R, 0, none⟩ (.int .i64 M.u)).setCell ⟨R, 1, none⟩ (.int .i64 M.a)).setCell ⟨R, 2, none⟩ (.int .i64 M.b)).setCell ⟨R, 3, none⟩ (.int .i64 M.c)
theorem put8_blk {w : World} {R : Nat} {T : TypeId} {N : Nat → Int} (h : Blk w R T (arr8 N)) (M : Nat → Int) : Blk (put8 w R M) R T (arr8 M) := by
  have := (((((((h.set 0 (.int .i64 (M 0))).set 1 (.int .i64 (M 1))).set 2 (.int .i64 (M 2))).set 3 (.int .i64 (M 3))).set 4 (.int .i64 (M 4))).set 5 (.int .i64 (M 5))).set 6 (.int .i64 (M 6))).set 7 (.int .i64 (M 7))
  rw [arr8_all] at this
  exact this
theorem put8_far {w : World} {R : Nat} {G : Nat} {T : TypeId} {cs : Array Value} (h : Blk w G T cs) (hR : G ≠ R) (M : Nat → Int) : Blk (put8 w R M) G T cs :=
  (((((((h.far hR 0 _).far hR 1 _).far hR 2 _).far hR 3 _).far hR 4 _).far hR 5 _).far hR 6 _).far hR 7 _
theorem put8_below {B : Nat} {w w' : World} {R : Nat} (h : Below B w w') (hR : B ≤ R) (M : Nat → Int) : Below B w (put8 w' R M) :=
  (((((((h.setCell hR _).setCell hR _).setCell hR _).setCell hR _).setCell hR _).setCell hR _).setCell hR _).setCell hR _
theorem putW_blk {w : World} {R : Nat} {T : TypeId} {N : Wd} (h : Blk w R T (arrW N)) (M : Wd) : Blk (putW w R M) R T (arrW M) := by
  have := (((h.set 0 (.int .i64 M.u)).set 1 (.int .i64 M.a)).set 2 (.int .i64 M.b)).set 3 (.int .i64 M.c)
  have e : ((((arrW N).setIfInBounds 0 (.int .i64 M.u)).setIfInBounds 1 (.int .i64 M.a)).setIfInBounds 2 (.int .i64 M.b)).setIfInBounds 3 (.int .i64 M.c) = arrW M := by simp [arrW]
  rw [e] at this
  exact this
theorem putW_far {w : World} {R : Nat} {G : Nat} {T : TypeId} {cs : Array Value} (h : Blk w G T cs) (hR : G ≠ R) (M : Wd) : Blk (putW w R M) G T cs :=
  (((h.far hR 0 _).far hR 1 _).far hR 2 _).far hR 3 _
theorem putW_below {B : Nat} {w w' : World} {R : Nat} (h : Below B w w') (hR : B ≤ R) (M : Wd) : Below B w (putW w' R M) :=
  (((h.setCell hR _).setCell hR _).setCell hR _).setCell hR _
theorem loadW {W : World} {R : Nat} {M : Wd} (h : Blk W R 34 (arrW M)) : (loadVar 34 ⟨R, 0, none⟩).run Tryz.prog W = .ok (.agg (arrW M)) W := by
  have hl := run_loadCells_list (P := Tryz.prog) W ⟨R, 0, none⟩ (arrW M).toList (fun j v hj => by
    have := h.cell j
    rw [← Array.getElem?_toList] at this
    rw [hj] at this
    have ha : (⟨R, 0, none⟩ : Addr).add j = ⟨R, j, none⟩ := by unfold Addr.add; split <;> simp_all
    rw [ha]; exact this)
  simp [loadVar, Tryz.isAgg34, Tryz.sizeOf34, Result.andThen, arrW] at hl ⊢
  simp [hl]
end Go.Proofs.YtjaedfjfcghgcabGreatDoor


namespace Go.Proofs.YtjaedfjfcghgcabGreatDoor
open Go.ChangeShapes Go.WideShapes Go.ChangeAt Go.RowKit
set_option maxRecDepth 100000

/-- a formula of an atom alone, as it is laid in four blocks. -/
theorem alone_four (w : World) (k n s : Int) : ∃ W, W = (((w.alloc (.cells #[.int .i64 s] 3)).alloc (.cells #[.int .i64 k, .slice (some ⟨w.heap.size, 0, none⟩) 1 1, .slice none 0 0, .int .i64 n] 50)).alloc (.cells #[.int .i64 0] 3)).alloc (.cells #[.slice (some ⟨w.heap.size + 1, 0, none⟩) 1 1, .slice (some ⟨w.heap.size + 1 + 1, 0, none⟩) 1 1] 25) ∧
    Blk W (w.heap.size + 1 + 1 + 1) 25 #[.slice (some ⟨w.heap.size + 1, 0, none⟩) 1 1, .slice (some ⟨w.heap.size + 1 + 1, 0, none⟩) 1 1] ∧ ReadsA W (.slice (some ⟨w.heap.size + 1, 0, none⟩) 1 1) [⟨k, [s], [], n⟩] ∧ Reads W (.slice (some ⟨w.heap.size + 1 + 1, 0, none⟩) 1 1) [0] ∧ Below w.heap.size w W := by
  obtain ⟨w1, h1⟩ : ∃ x, x = w.alloc (.cells #[.int .i64 s] 3) := ⟨_, rfl⟩
  obtain ⟨w2, h2⟩ : ∃ x, x = w1.alloc (.cells #[.int .i64 k, .slice (some ⟨w.heap.size, 0, none⟩) 1 1, .slice none 0 0, .int .i64 n] 50) := ⟨_, rfl⟩
  obtain ⟨w3, h3⟩ : ∃ x, x = w2.alloc (.cells #[.int .i64 0] 3) := ⟨_, rfl⟩
  obtain ⟨w4, h4⟩ : ∃ x, x = w3.alloc (.cells #[.slice (some ⟨w.heap.size + 1, 0, none⟩) 1 1, .slice (some ⟨w.heap.size + 1 + 1, 0, none⟩) 1 1] 25) := ⟨_, rfl⟩
  have s1 : w1.heap.size = w.heap.size + 1 := by rw [h1]; exact World.size_alloc _ _
  have s2 : w2.heap.size = w.heap.size + 1 + 1 := by rw [h2, World.size_alloc, s1]
  have s3 : w3.heap.size = w.heap.size + 1 + 1 + 1 := by rw [h3, World.size_alloc, s2]
  have k1 : Blk w1 w.heap.size 3 #[.int .i64 s] := by rw [h1]; exact Blk.new _ _ _
  have k2 : Blk w2 (w.heap.size + 1) 50 #[.int .i64 k, .slice (some ⟨w.heap.size, 0, none⟩) 1 1, .slice none 0 0, .int .i64 n] := by rw [h2, ← s1]; exact Blk.new _ _ _
  have k3 : Blk w3 (w.heap.size + 1 + 1) 3 #[.int .i64 0] := by rw [h3, ← s2]; exact Blk.new _ _ _
  have k4 : Blk w4 (w.heap.size + 1 + 1 + 1) 25 #[.slice (some ⟨w.heap.size + 1, 0, none⟩) 1 1, .slice (some ⟨w.heap.size + 1 + 1, 0, none⟩) 1 1] := by rw [h4, ← s3]; exact Blk.new _ _ _
  have b1 : Below w.heap.size w w1 := by rw [h1]; exact below_alloc1 _ _
  have b2 : Below w1.heap.size w1 w2 := by rw [h2]; exact below_alloc1 _ _
  have b3 : Below w2.heap.size w2 w3 := by rw [h3]; exact below_alloc1 _ _
  have b4 : Below w3.heap.size w3 w4 := by rw [h4]; exact below_alloc1 _ _
  have q1 : Blk w4 w.heap.size 3 #[.int .i64 s] := ((k1.below b2).below b3).below b4
  have q2 : Blk w4 (w.heap.size + 1) 50 #[.int .i64 k, .slice (some ⟨w.heap.size, 0, none⟩) 1 1, .slice none 0 0, .int .i64 n] := (k2.below b3).below b4
  have q3 : Blk w4 (w.heap.size + 1 + 1) 3 #[.int .i64 0] := k3.below b4
  have rone : ∀ (G : Nat) (x : Int), Blk w4 G 3 #[.int .i64 x] → Reads w4 (.slice (some ⟨G, 0, none⟩) 1 1) [x] := fun G x h => by
    refine Or.inr ⟨G, 0, 1, rfl, h.lt, by simp, ⟨by simp, by simp⟩, fun j hj => ?_⟩
    obtain rfl : j = 0 := by simp at hj; exact hj
    exact h.cell 0
  refine ⟨w4, by rw [h4, h3, h2, h1], k4, Or.inr ⟨w.heap.size + 1, 0, 1, rfl, q2.lt, by simp, ⟨by simp, by simp⟩, fun i a ha => ?_⟩, rone _ 0 q3, ?_⟩
  · cases i with
    | zero =>
      obtain rfl : (⟨k, [s], [], n⟩ : At) = a := by simpa using ha
      exact ⟨_, _, q2.cell 0, q2.cell 1, q2.cell 2, q2.cell 3, rone _ s q1, Or.inl ⟨none, 0, rfl, rfl⟩⟩
    | succ i => simp at ha
  · have c2 : Below w.heap.size w w2 := b1.trans (b2.mono b1.size)
    have c3 : Below w.heap.size w w3 := c2.trans (b3.mono c2.size)
    exact c3.trans (b4.mono c3.size)

set_option maxHeartbeats 8000000 in
theorem topOne_any (w : World)
    (cOf : ∀ (v va vc : Value) (fs : List Fm) (ats : List At) (c : List Int) (u : Int) (W : World), Below w.heap.size w W → ReadsF W v fs → ReadsA W va ats → Reads W vc c → Calls Tryz.prog 21 #[v, .agg #[va, vc], .int .i64 u] W fun e w' => e = .returned (.tuple #[.int .i64 (askN fs ats c u), errV (askFault fs ats c u)]) ∧ Below W.heap.size W w') :
    Calls Tryz.prog 5 #[] w fun e w' => e = .returned (.bool true) ∧ Below w.heap.size w w' := by
  have HOf : Hid (∀ W v va vc, Below w.heap.size w W → ReadsF W v [⟨[⟨3, [0], [], 2⟩], [0]⟩] → ReadsA W va [⟨3, [0], [], 1⟩] → Reads W vc [0] → Calls Tryz.prog 21 #[v, .agg #[va, vc], .int .i64 2] W fun e w' => e = .returned (.tuple #[.int .i64 1, .nilIface]) ∧ Below W.heap.size W w') := fun W v va vc hW h1 h2 h3 => by
    obtain ⟨e1, e2⟩ := many_answer (k := 0) (by omega) (n := 2) (m := 1) (u := 2) (by omega) (by omega) (by omega)
    have h := cOf v va vc _ _ _ 2 W hW h1 h2 h3
    have f1 : askFault [⟨[⟨3, [0], [], 2⟩], [0]⟩] [⟨3, [0], [], 1⟩] [0] 2 = 0 := e1
    have f2 : askN [⟨[⟨3, [0], [], 2⟩], [0]⟩] [⟨3, [0], [], 1⟩] [0] 2 = 1 := e2
    rw [f1, f2] at h
    exact h
  clear cOf
  obtain ⟨w1, hw1, k1, a1, c1, b1⟩ := alone_four w 3 2 0
  obtain ⟨G1, hG1⟩ : ∃ G, G = w.heap.size + 1 + 1 + 1 := ⟨_, rfl⟩
  obtain ⟨P1, hP1⟩ : ∃ G, G = w.heap.size + 1 := ⟨_, rfl⟩
  obtain ⟨Q1, hQ1⟩ : ∃ G, G = w.heap.size + 1 + 1 := ⟨_, rfl⟩
  rw [← hG1] at k1
  rw [← hQ1] at k1 c1 hw1
  rw [← hP1] at k1 a1 hw1
  obtain ⟨w2, hw2, k2, a2, c2, b2⟩ := alone_four w1 3 1 0
  obtain ⟨G2, hG2⟩ : ∃ G, G = w1.heap.size + 1 + 1 + 1 := ⟨_, rfl⟩
  obtain ⟨P2, hP2⟩ : ∃ G, G = w1.heap.size + 1 := ⟨_, rfl⟩
  obtain ⟨Q2, hQ2⟩ : ∃ G, G = w1.heap.size + 1 + 1 := ⟨_, rfl⟩
  rw [← hG2] at k2
  rw [← hQ2] at k2 c2 hw2
  rw [← hP2] at k2 a2 hw2
  have HB1 : Hid (Below w.heap.size w w1) := b1
  have HB2 : Hid (Below w.heap.size w w2) := b1.trans (b2.mono b1.size)
  have HK1 : Hid (Blk w2 G1 25 #[.slice (some ⟨P1, 0, none⟩) 1 1, .slice (some ⟨Q1, 0, none⟩) 1 1]) := k1.below b2
  have HA1 : Hid (ReadsA w2 (.slice (some ⟨P1, 0, none⟩) 1 1) [⟨3, [0], [], 2⟩] ∧ Reads w2 (.slice (some ⟨Q1, 0, none⟩) 1 1) [0]) := ⟨a1.below b2, c1.below b2⟩
  have HK2 : Hid (Blk w2 G2 25 #[.slice (some ⟨P2, 0, none⟩) 1 1, .slice (some ⟨Q2, 0, none⟩) 1 1]) := k2
  have HA2 : Hid (ReadsA w2 (.slice (some ⟨P2, 0, none⟩) 1 1) [⟨3, [0], [], 1⟩] ∧ Reads w2 (.slice (some ⟨Q2, 0, none⟩) 1 1) [0]) := ⟨a2, c2⟩
  clear b1 b2 k1 k2 a1 a2 c1 c2
  go_enter Tryz.func5, Tryz.ntmps5
  go_upto_region 2 with fail
  rw [← hG1, ← hQ1, ← hP1, ← hw1]
  clear hP1 hQ1 hG1 hw1
  go_upto_region 3 with fail
  rw [← hG2, ← hQ2, ← hP2, ← hw2]
  clear hP2 hQ2 hG2 hw2
  obtain ⟨w3, hw3⟩ : ∃ x, x = w2.alloc (.cells #[.slice (some ⟨P1, 0, none⟩) 1 1, .slice (some ⟨Q1, 0, none⟩) 1 1] 25) := ⟨_, rfl⟩
  obtain ⟨G3, hG3⟩ : ∃ G, G = w2.heap.size := ⟨_, rfl⟩
  have b3 : Below w2.heap.size w2 w3 := by rw [hw3]; exact below_alloc1 _ _
  have HB3 : Hid (Below w.heap.size w w3) := HB2.out.trans (b3.mono HB2.out.size)
  have HR3 : Hid (ReadsF w3 (.slice (some ⟨G3, 0, none⟩) 1 1) [⟨[⟨3, [0], [], 2⟩], [0]⟩]) := by
    have k3 : Blk w3 G3 25 #[.slice (some ⟨P1, 0, none⟩) 1 1, .slice (some ⟨Q1, 0, none⟩) 1 1] := by rw [hw3, hG3]; exact Blk.new _ _ _
    refine Or.inr ⟨G3, 0, 1, rfl, k3.lt, by simp, ⟨by simp, by simp⟩, fun i x hx => ?_⟩
    cases i with
    | zero =>
      obtain rfl : (⟨[⟨3, [0], [], 2⟩], [0]⟩ : Fm) = x := by simpa using hx
      exact ⟨_, _, k3.cell 0, k3.cell 1, HA1.out.1.below b3, HA1.out.2.below b3⟩
    | succ i => simp at hx
  have HA3 : Hid (ReadsA w3 (.slice (some ⟨P2, 0, none⟩) 1 1) [⟨3, [0], [], 1⟩] ∧ Reads w3 (.slice (some ⟨Q2, 0, none⟩) 1 1) [0]) := ⟨HA2.out.1.below b3, HA2.out.2.below b3⟩
  have x0 : w2.cell? ⟨G1, 0, none⟩ = some (.slice (some ⟨P1, 0, none⟩) 1 1) := HK1.out.cell 0
  have x1 : w2.cell? ⟨G1, 1, none⟩ = some (.slice (some ⟨Q1, 0, none⟩) 1 1) := HK1.out.cell 1
  have y0 : (w2.alloc (.cells #[.slice (some ⟨P1, 0, none⟩) 1 1, .slice (some ⟨Q1, 0, none⟩) 1 1] 25)).cell? ⟨G2, 0, none⟩ = some (.slice (some ⟨P2, 0, none⟩) 1 1) := by rw [← hw3]; exact (HK2.out.below b3).cell 0
  have y1 : (w2.alloc (.cells #[.slice (some ⟨P1, 0, none⟩) 1 1, .slice (some ⟨Q1, 0, none⟩) 1 1] 25)).cell? ⟨G2, 1, none⟩ = some (.slice (some ⟨Q2, 0, none⟩) 1 1) := by rw [← hw3]; exact (HK2.out.below b3).cell 1
  clear b3
  go_wp2_with fail
  rw [← hw3, ← hG3]
  clear hw3 hG3 x0 x1 y0 y1
  go_at_call 21
  refine (HOf.out _ _ _ _ HB3.out HR3.out HA3.out.1 HA3.out.2).mono ?_
  rintro e w4 ⟨rfl, hb⟩
  have HB4 : Hid (Below w.heap.size w w4) := HB3.out.trans (hb.mono HB3.out.size)
  clear hb
  go_wp2
  go_ret
  exact ⟨rfl, HB4.out⟩
end Go.Proofs.YtjaedfjfcghgcabGreatDoor

