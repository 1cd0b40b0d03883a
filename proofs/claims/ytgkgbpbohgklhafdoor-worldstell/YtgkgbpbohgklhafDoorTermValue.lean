/-
  Proved: what term.CheckWorld and term.Value return, of any row of signs and any world; what was in memory is as it was (a contract that the statements lean on).
-/
import Derived.Test.YtgkgbpbohgklhafDoorTermWork2
namespace Go.Proofs.YtgkgbpbohgklhafDoor
open Go.ChangeShapes Go.WideShapes Go.ChangeAt Go.RowKit

theorem quiet_check_ok (u s : Int) (h : okB u s = true) (W : World) : Calls Tryd.prog 43 #[.int .i64 u, .int .i64 s] W fun e w' => e = .returned .nilIface ∧ w' = W := (check_ok u s h W).mono fun _ _ h => (And.intro h.1 h.2.symm)
theorem quiet_check_no (u s : Int) (h : okB u s = false) (W : World) : Calls Tryd.prog 43 #[.int .i64 u, .int .i64 s] W fun e w' => e = .returned (.iface 59 (.int .i64 1)) ∧ w' = W := (check_no u s h W).mono fun _ _ h => (And.intro h.1 h.2.symm)

set_option maxRecDepth 100000 in
set_option maxHeartbeats 4000000 in
theorem checkWorld_any (u a b c : Int) (w : World) :
    Calls Tryd.prog 45 #[.agg #[.int .i64 u, .int .i64 a, .int .i64 b, .int .i64 c]] w fun e w' => e = .returned (if (Wd.mk u a b c).ok = true then .nilIface else .iface 59 (.int .i64 1)) ∧ Below w.heap.size w w' := by
  obtain ⟨w1, hw1⟩ : ∃ w1, w1 = w.alloc (.cells #[.int .i64 u, .int .i64 a, .int .i64 b, .int .i64 c] 28) := ⟨_, rfl⟩
  obtain ⟨K, hK⟩ : ∃ K, K = w.heap.size + 1 := ⟨_, rfl⟩
  have HK1 : Hid (w1.heap.size = K) := by unfold Hid; rw [hw1, hK]; simp
  have HX : Hid (w1.cell? ⟨w.heap.size, 0, none⟩ = some (.int .i64 u) ∧ w1.cell? ⟨w.heap.size, 1, none⟩ = some (.int .i64 a) ∧ w1.cell? ⟨w.heap.size, 2, none⟩ = some (.int .i64 b) ∧ w1.cell? ⟨w.heap.size, 3, none⟩ = some (.int .i64 c)) := by
    unfold Hid; rw [hw1]; simp
  have HBK : Hid (w.heap.size < K) := by unfold Hid; omega
  have HW : Hid (Below w.heap.size w w1) := by unfold Hid; rw [hw1]; exact below_alloc1 _ _
  have HKs : Hid (w.heap.size ≤ K) := by unfold Hid; omega
  clear hK
  obtain ⟨E, hE⟩ : ∃ E, E = if (Wd.mk u a b c).ok = true then Value.nilIface else .iface 59 (.int .i64 1) := ⟨_, rfl⟩
  rw [← hE]
  have HE : Hid ((okB u a = true → okB u b = true → okB u c = true → E = .nilIface) ∧ ((okB u a = false ∨ okB u b = false ∨ okB u c = false) → E = .iface 59 (.int .i64 1))) := by
    refine ⟨fun h1 h2 h3 => ?_, fun h => ?_⟩
    · have ho : (Wd.mk u a b c).ok = true := Wd.ok_iff.2 ⟨h1, h2, h3⟩
      rw [if_pos ho] at hE
      exact hE
    · have ho : ¬ (Wd.mk u a b c).ok = true := by
        intro ho
        obtain ⟨h1, h2, h3⟩ := Wd.ok_iff.1 ho
        simp only at h1 h2 h3
        rw [h1, h2, h3] at h
        simp at h
      rw [if_neg ho] at hE
      exact hE
  clear hE
  go_enter Tryd.func45, Tryd.ntmps45
  go_wp2_with fail
  rw [← hw1]
  clear hw1
  go_loopw [5] (fun i wr => ∃ k : Nat, k ≤ 3 ∧ i = .int .i64 k ∧ Below K w1 wr ∧ (1 ≤ k → okB u a = true) ∧ (2 ≤ k → okB u b = true) ∧ (3 ≤ k → okB u c = true)) (fun i _ => 3 - (intOf i).toNat)
  case atStart => exact ⟨0, Nat.zero_le _, rfl, Below.refl _ _, by omega, by omega, by omega⟩
  case round =>
    obtain ⟨k, hk, rfl, hbel, k1, k2, k3⟩ := hrel
    have x0 : wr.cell? ⟨w.heap.size, 0, none⟩ = some (.int .i64 u) := by rw [hbel.cell HBK.out]; exact HX.out.1
    have x1 : wr.cell? ⟨w.heap.size, 1, none⟩ = some (.int .i64 a) := by rw [hbel.cell HBK.out]; exact HX.out.2.1
    have x2 : wr.cell? ⟨w.heap.size, 2, none⟩ = some (.int .i64 b) := by rw [hbel.cell HBK.out]; exact HX.out.2.2.1
    have x3 : wr.cell? ⟨w.heap.size, 3, none⟩ = some (.int .i64 c) := by rw [hbel.cell HBK.out]; exact HX.out.2.2.2
    have HB : Hid (Below K w1 wr) := hbel
    have HKw : Hid (K ≤ wr.heap.size) := by unfold Hid; rw [← HK1.out]; exact hbel.size
    clear hbel
    obtain rfl | rfl | rfl | rfl : k = 0 ∨ k = 1 ∨ k = 2 ∨ k = 3 := by omega
    · clear k1 k2 k3 hk
      rcases (Bool.eq_false_or_eq_true (okB u a)).symm with ho | ho
      · have HO : Hid (okB u a = false) := ho
        clear ho
        go_wp2_with fail
        go_quiet (first | (go_at_call 43; exact Calls.quiet_of_same (quiet_check_no _ _ HO.out _)))
        go_wp2
        go_ret
        exact ⟨back_v (HE.out.2 (Or.inl HO.out)).symm, HW.out.trans ((HB.out.mono HKs.out).trans ((below_drewNs _ _).mono (Nat.le_trans HKs.out HKw.out)))⟩
      · have HO : Hid (okB u a = true) := ho
        clear ho
        go_wp2_with fail
        go_quiet (first | (go_at_call 43; exact Calls.quiet_of_same (quiet_check_ok _ _ HO.out _)))
        go_wp2
        go_roundw
        case rel => exact ⟨1, by omega, by go_num, HB.out.trans ((below_drewNs _ _).mono HKw.out), fun _ => HO.out, fun h => by omega, fun h => by omega⟩
        case measure => simp [intOf]
    · have HO1 : Hid (okB u a = true) := k1 (by omega)
      clear k1 k2 k3 hk
      rcases (Bool.eq_false_or_eq_true (okB u b)).symm with ho | ho
      · have HO : Hid (okB u b = false) := ho
        clear ho
        go_wp2_with fail
        go_quiet (first | (go_at_call 43; exact Calls.quiet_of_same (quiet_check_no _ _ HO.out _)))
        go_wp2
        go_ret
        exact ⟨back_v (HE.out.2 (Or.inr (Or.inl HO.out))).symm, HW.out.trans ((HB.out.mono HKs.out).trans ((below_drewNs _ _).mono (Nat.le_trans HKs.out HKw.out)))⟩
      · have HO : Hid (okB u b = true) := ho
        clear ho
        go_wp2_with fail
        go_quiet (first | (go_at_call 43; exact Calls.quiet_of_same (quiet_check_ok _ _ HO.out _)))
        go_wp2
        go_roundw
        case rel => exact ⟨2, by omega, by go_num, HB.out.trans ((below_drewNs _ _).mono HKw.out), fun _ => HO1.out, fun _ => HO.out, fun h => by omega⟩
        case measure => simp [intOf]
    · have HO1 : Hid (okB u a = true) := k1 (by omega)
      have HO2 : Hid (okB u b = true) := k2 (by omega)
      clear k1 k2 k3 hk
      rcases (Bool.eq_false_or_eq_true (okB u c)).symm with ho | ho
      · have HO : Hid (okB u c = false) := ho
        clear ho
        go_wp2_with fail
        go_quiet (first | (go_at_call 43; exact Calls.quiet_of_same (quiet_check_no _ _ HO.out _)))
        go_wp2
        go_ret
        exact ⟨back_v (HE.out.2 (Or.inr (Or.inr HO.out))).symm, HW.out.trans ((HB.out.mono HKs.out).trans ((below_drewNs _ _).mono (Nat.le_trans HKs.out HKw.out)))⟩
      · have HO : Hid (okB u c = true) := ho
        clear ho
        go_wp2_with fail
        go_quiet (first | (go_at_call 43; exact Calls.quiet_of_same (quiet_check_ok _ _ HO.out _)))
        go_wp2
        go_roundw
        case rel => exact ⟨3, by omega, by go_num, HB.out.trans ((below_drewNs _ _).mono HKw.out), fun _ => HO1.out, fun _ => HO2.out, fun _ => HO.out⟩
        case measure => simp [intOf]
    · have HO : Hid (okB u a = true ∧ okB u b = true ∧ okB u c = true) := ⟨k1 (by omega), k2 (by omega), k3 (by omega)⟩
      clear k1 k2 k3 hk
      go_wp2
      go_ret
      exact ⟨back_v (HE.out.1 HO.out.1 HO.out.2.1 HO.out.2.2).symm, HW.out.trans (HB.out.mono HKs.out)⟩

/-- what Value answers: the set, and the number of the error. -/
def Wd.answer (w : Wd) (t : List Int) : Int := if faultN t = 0 then (if w.ok = true then w.val t else 0) else 0
def Wd.fault (w : Wd) (t : List Int) : Int := if faultN t = 0 then (if w.ok = true then 0 else 1) else faultN t

theorem back_2 {a b x y : Value} (h : a = b) (h' : x = y) : Ending.returned (.tuple #[a, x]) = .returned (.tuple #[b, y]) := by rw [h, h']

theorem value_bad (t : List Int) (v : Value) (u a b c : Int) (w : World) (h : Reads w v t) (hf : ¬ faultN t = 0) :
    Calls Tryd.prog 77 #[v, .agg #[.int .i64 u, .int .i64 a, .int .i64 b, .int .i64 c]] w fun e w' => e = .returned (.tuple #[.int .i64 0, .iface 59 (.int .i64 (faultN t))]) ∧ Below w.heap.size w w' := by
  have HC : Hid (Calls Tryd.prog 40 #[v] (w.alloc (.cells #[.int .i64 u, .int .i64 a, .int .i64 b, .int .i64 c] 28)) fun e w' => e = .returned (.iface 59 (.int .i64 (faultN t))) ∧ (w.alloc (.cells #[.int .i64 u, .int .i64 a, .int .i64 b, .int .i64 c] 28)) = w') := by
    have := tcheck_any t v _ (h.below (below_alloc1 w (.cells #[.int .i64 u, .int .i64 a, .int .i64 b, .int .i64 c] 28)))
    unfold errV at this
    rw [if_neg hf] at this
    exact this
  clear h hf
  obtain ⟨F, hF⟩ : ∃ F, F = faultN t := ⟨_, rfl⟩
  rw [← hF] at HC ⊢
  clear hF
  go_enter Tryd.func77, Tryd.ntmps77
  go_wp2_with (go_at_call 40; refine HC.out.mono ?_; rintro e w' ⟨rfl, rfl⟩)
  go_ret2
  exact ⟨rfl, below_alloc1 _ _⟩

set_option maxRecDepth 100000 in
set_option maxHeartbeats 4000000 in
theorem value_good (t : List Int) (B off cap : Nat) (u a b c : Int) (w : World) (hB : B < w.heap.size) (hcap : t.length ≤ cap) (hf : faultN t = 0) (hc : ∀ k, k < t.length → w.cell? ⟨B, off + k, none⟩ = some (.int .i64 (t.getD k 0))) :
    Calls Tryd.prog 77 #[.slice (some ⟨B, off, none⟩) t.length cap, .agg #[.int .i64 u, .int .i64 a, .int .i64 b, .int .i64 c]] w fun e w' => e = .returned (.tuple #[.int .i64 (if (Wd.mk u a b c).ok = true then (Wd.mk u a b c).val t else 0), if (Wd.mk u a b c).ok = true then .nilIface else .iface 59 (.int .i64 1)]) ∧ Below w.heap.size w w' := by
  obtain ⟨f1, f2, f3, f4⟩ := fault_zero.1 hf
  obtain ⟨w1, hw1⟩ : ∃ w1, w1 = w.alloc (.cells #[.int .i64 u, .int .i64 a, .int .i64 b, .int .i64 c] 28) := ⟨_, rfl⟩
  obtain ⟨K, hK⟩ : ∃ K, K = w.heap.size + 1 := ⟨_, rfl⟩
  have HK1 : Hid (w1.heap.size = K) := by unfold Hid; rw [hw1, hK]; simp
  have HC1 : Hid (∀ k, k < t.length → w1.cell? ⟨B, off + k, none⟩ = some (.int .i64 (t.getD k 0))) := fun k hk => by
    rw [hw1, World.cell?_alloc_lt _ _ ⟨B, off + k, none⟩ hB]; exact hc k hk
  have HBK : Hid (B < K ∧ w.heap.size < K) := ⟨by omega, by omega⟩
  have HW : Hid (Below w.heap.size w w1) := by unfold Hid; rw [hw1]; exact below_alloc1 _ _
  have HKs : Hid (w.heap.size ≤ K) := by unfold Hid; omega
  have HC : Hid (Calls Tryd.prog 40 #[.slice (some ⟨B, off, none⟩) t.length cap] w1 fun e w' => e = .returned .nilIface ∧ w1 = w') := by
    have := tcheck_any t (.slice (some ⟨B, off, none⟩) t.length cap) w1 (Or.inr ⟨B, off, cap, rfl, by have := HK1.out; have := HBK.out.1; omega, by omega, ⟨by omega, hcap⟩, HC1.out⟩)
    rw [hf] at this
    exact this
  clear hc hB hK hcap
  have HWK : Hid (∀ W, Below K w1 W → (Wd.mk u a b c).ok = true → Calls Tryd.prog 84 #[.slice (some ⟨B, off, none⟩) t.length cap, .agg #[.int .i64 u, .int .i64 a, .int .i64 b, .int .i64 c]] W fun e w' => e = .returned (.tuple #[.int .i64 ((Wd.mk u a b c).val t), .nilIface]) ∧ Below W.heap.size W w') := fun W hb hok =>
    work_any u a b c t B off cap W hok f3 f4 f2 (by have := hb.size; have := HK1.out; have := HBK.out.1; omega) (fun k hk => by rw [hb.cell HBK.out.1]; exact HC1.out k hk)
  clear HC1 f1 f2 f3 f4 hf
  obtain ⟨V, hV⟩ : ∃ V, V = (Wd.mk u a b c).val t := ⟨_, rfl⟩
  rw [← hV] at HWK ⊢
  clear hV
  obtain ⟨n, hn⟩ : ∃ n, n = t.length := ⟨_, rfl⟩
  rw [← hn] at HWK HC ⊢
  clear hn
  have HCW : Hid (Calls Tryd.prog 45 #[.agg #[.int .i64 u, .int .i64 a, .int .i64 b, .int .i64 c]] w1 fun e w' => e = .returned (if (Wd.mk u a b c).ok = true then .nilIface else .iface 59 (.int .i64 1)) ∧ Below w1.heap.size w1 w') := checkWorld_any u a b c w1
  have HX : Hid (∀ W, Below w1.heap.size w1 W → W.cell? ⟨w.heap.size, 0, none⟩ = some (.int .i64 u) ∧ W.cell? ⟨w.heap.size, 1, none⟩ = some (.int .i64 a) ∧ W.cell? ⟨w.heap.size, 2, none⟩ = some (.int .i64 b) ∧ W.cell? ⟨w.heap.size, 3, none⟩ = some (.int .i64 c)) := fun W hc => by
    have hlt : w.heap.size < w1.heap.size := by rw [hw1]; simp
    rw [hc.cell (p := ⟨w.heap.size, 0, none⟩) hlt, hc.cell (p := ⟨w.heap.size, 1, none⟩) hlt, hc.cell (p := ⟨w.heap.size, 2, none⟩) hlt, hc.cell (p := ⟨w.heap.size, 3, none⟩) hlt, hw1]
    simp
  rcases (Bool.eq_false_or_eq_true (Wd.mk u a b c).ok).symm with ho | ho
  · rw [if_neg (by rw [ho]; decide), if_neg (by rw [ho]; decide)]
    have HCE : Hid (Calls Tryd.prog 45 #[.agg #[.int .i64 u, .int .i64 a, .int .i64 b, .int .i64 c]] w1 fun e w' => e = .returned (.iface 59 (.int .i64 1)) ∧ Below w1.heap.size w1 w') := by
      have := HCW.out
      rw [if_neg (by rw [ho]; decide)] at this
      exact this
    clear HCW ho HWK
    go_enter Tryd.func77, Tryd.ntmps77
    go_wp2_with fail
    rw [← hw1]
    clear hw1
    obtain ⟨y0, y1, y2, y3⟩ := HX.out w1 (Below.refl _ _)
    go_wp2_with fail
    go_at_call 40
    refine HC.out.mono ?_
    rintro e w' ⟨rfl, rfl⟩
    go_wp2_with fail
    go_at_call 45
    refine HCE.out.mono ?_
    rintro e w2 ⟨rfl, hb⟩
    have HB : Hid (Below w1.heap.size w1 w2) := hb
    clear hb y0 y1 y2 y3
    go_wp2
    go_ret2
    exact ⟨rfl, HW.out.trans (HB.out.mono (by have := HK1.out; have := HKs.out; omega))⟩
  · rw [if_pos ho, if_pos ho]
    have HCE : Hid (Calls Tryd.prog 45 #[.agg #[.int .i64 u, .int .i64 a, .int .i64 b, .int .i64 c]] w1 fun e w' => e = .returned .nilIface ∧ Below w1.heap.size w1 w') := by
      have := HCW.out
      rw [if_pos ho] at this
      exact this
    have HO : Hid ((Wd.mk u a b c).ok = true) := ho
    clear HCW ho
    go_enter Tryd.func77, Tryd.ntmps77
    go_wp2_with fail
    rw [← hw1]
    clear hw1
    obtain ⟨y0, y1, y2, y3⟩ := HX.out w1 (Below.refl _ _)
    go_wp2_with fail
    go_at_call 40
    refine HC.out.mono ?_
    rintro e w' ⟨rfl, rfl⟩
    go_wp2_with fail
    go_at_call 45
    refine HCE.out.mono ?_
    rintro e w2 ⟨rfl, hb⟩
    have HB : Hid (Below w1.heap.size w1 w2) := hb
    obtain ⟨x0, x1, x2, x3⟩ := HX.out w2 hb
    clear hb y0 y1 y2 y3
    go_wp2_with fail
    go_at_call 84
    refine (HWK.out w2 (by rw [← HK1.out]; exact HB.out) HO.out).mono ?_
    rintro e w3 ⟨rfl, hb⟩
    have HB3 : Hid (Below w2.heap.size w2 w3) := hb
    clear hb x0 x1 x2 x3
    go_wp2
    go_ret2
    have hs : w.heap.size ≤ w1.heap.size := by have := HK1.out; have := HKs.out; omega
    exact ⟨rfl, HW.out.trans ((HB.out.mono hs).trans (HB3.out.mono (Nat.le_trans hs HB.out.size)))⟩

/-- Value, whatever the row of signs and the world. -/
theorem value_any (t : List Int) (v : Value) (u a b c : Int) (w : World) (h : Reads w v t) :
    Calls Tryd.prog 77 #[v, .agg #[.int .i64 u, .int .i64 a, .int .i64 b, .int .i64 c]] w fun e w' => e = .returned (.tuple #[.int .i64 ((Wd.mk u a b c).answer t), errV ((Wd.mk u a b c).fault t)]) ∧ Below w.heap.size w w' := by
  by_cases hf : faultN t = 0
  · have e1 : (Wd.mk u a b c).answer t = if (Wd.mk u a b c).ok = true then (Wd.mk u a b c).val t else 0 := by unfold Wd.answer; rw [if_pos hf]
    have e2 : errV ((Wd.mk u a b c).fault t) = if (Wd.mk u a b c).ok = true then .nilIface else .iface 59 (.int .i64 1) := by
      unfold Wd.fault; rw [if_pos hf]
      by_cases ho : (Wd.mk u a b c).ok = true
      · rw [if_pos ho, if_pos ho]; rfl
      · rw [if_neg ho, if_neg ho]; rfl
    rw [e1, e2]
    rcases h with ⟨ao, cap, rfl, rfl⟩ | ⟨B, off, cap, rfl, hB, _, ⟨_, hcap⟩, hc⟩
    · exact absurd hf (by decide)
    · exact value_good t B off cap u a b c w hB hcap hf hc
  · have e1 : (Wd.mk u a b c).answer t = 0 := by unfold Wd.answer; rw [if_neg hf]
    have e2 : errV ((Wd.mk u a b c).fault t) = .iface 59 (.int .i64 (faultN t)) := by
      unfold Wd.fault errV; rw [if_neg hf, if_neg hf]
    rw [e1, e2]
    exact value_bad t v u a b c w h hf
end Go.Proofs.YtgkgbpbohgklhafDoor
