/-
  Facts and contracts that the statement leans on.
-/
import Derived.Test.YtjmeakkmfeoigaaGreatDoorLibA4
import Derived.Test.YtjmeakkmfeoigaaGreatDoorLibA1
import Derived.Handy
import Derived.Test.YtjmeakkmfeoigaaGreatDoorLibA3
import Derived.Test.YtjmeakkmfeoigaaGreatDoorRows
import Derived.WalkKit
import Derived.LaidEql
import Derived.Stop.Asserts
import Derived.RowKitTokens
namespace Go.Proofs.YtjmeakkmfeoigaaGreatDoor
open Go.ChangeShapes Go.WideShapes Go.ChangeAt Go.RowKit
theorem quiet_check_ok (u s : Int) (h : okB u s = true) (W : World) : Calls Tryz.prog 27 #[.int .i64 u, .int .i64 s] W fun e w' => e = .returned .nilIface ∧ w' = W := (check_ok u s h W).mono fun _ _ h => (And.intro h.1 h.2.symm)
theorem quiet_check_no (u s : Int) (h : okB u s = false) (W : World) : Calls Tryz.prog 27 #[.int .i64 u, .int .i64 s] W fun e w' => e = .returned (.iface 64 (.int .i64 1)) ∧ w' = W := (check_no u s h W).mono fun _ _ h => (And.intro h.1 h.2.symm)
set_option maxRecDepth 100000 in
set_option maxHeartbeats 4000000 in
theorem checkWorld_any (u a b c : Int) (w : World) :
    Calls Tryz.prog 125 #[.agg #[.int .i64 u, .int .i64 a, .int .i64 b, .int .i64 c]] w (Bk w (if (Wd.mk u a b c).ok = true then .nilIface else .iface 64 (.int .i64 1))) := by
 obtain ⟨w1, hw1⟩ := nm (w.alloc (.cells #[.int .i64 u, .int .i64 a, .int .i64 b, .int .i64 c] 55))
 obtain ⟨K, hK⟩ := nm (w.heap.size + 1)
 have HK1 : Hid (w1.heap.size = K) := by unfold Hid; rw [hw1, hK]; simp
 have HX : Hid (w1.cell? ⟨w.heap.size, 0, none⟩ = some (.int .i64 u) ∧ w1.cell? ⟨w.heap.size, 1, none⟩ = some (.int .i64 a) ∧ w1.cell? ⟨w.heap.size, 2, none⟩ = some (.int .i64 b) ∧ w1.cell? ⟨w.heap.size, 3, none⟩ = some (.int .i64 c)) := by
  unfold Hid; rw [hw1]; simp
 have HBK : Hid (w.heap.size < K) := by unfold Hid; omega
 have HW : Hid (Below w.heap.size w w1) := by unfold Hid; rw [hw1]; exact below_alloc1 _ _
 have HKs : Hid (w.heap.size ≤ K) := by unfold Hid; omega
 clear hK
 obtain ⟨E, hE⟩ : ∃ E, E = if (Wd.mk u a b c).ok = true then Value.nilIface else .iface 64 (.int .i64 1) := ⟨_, rfl⟩
 rw [← hE]
 have HE : Hid ((okB u a = true → okB u b = true → okB u c = true → E = .nilIface) ∧ ((okB u a = false ∨ okB u b = false ∨ okB u c = false) → E = .iface 64 (.int .i64 1))) := by
  refine ⟨fun h1 h2 h3 => ?_, fun h => ?_⟩
  ·have ho : (Wd.mk u a b c).ok = true := Wd.ok_iff.2 ⟨h1, h2, h3⟩
   rw [if_pos ho] at hE
   exact hE
  ·have ho : ¬ (Wd.mk u a b c).ok = true := by
    intro ho
    obtain ⟨h1, h2, h3⟩ := Wd.ok_iff.1 ho
    simp only at h1 h2 h3
    rw [h1, h2, h3] at h
    simp at h
   rw [if_neg ho] at hE
   exact hE
 clear hE
 go_enter Tryz.func125, Tryz.ntmps125
 go_wp2_with fail
 rw [← hw1]
 clear hw1
 go_loopw [5] (fun i wr => ∃ k : Nat, k ≤ 3 ∧ i = .int .i64 k ∧ Below K w1 wr ∧ (1 ≤ k → okB u a = true) ∧ (2 ≤ k → okB u b = true) ∧ (3 ≤ k → okB u c = true)) (fun i _ => 3 - (intOf i).toNat)
 case atStart => exact ⟨0, Nat.zero_le _, rfl, Below.refl _ _, by omega, by omega, by omega⟩
 case round =>
  obtain ⟨k, hk, rfl, hbel, k1, k2, k3⟩ := hrel
  have x0 : wr.cell? ⟨w.heap.size, 0, none⟩ = some (.int .i64 u) := by rw [hbel.cell HBK.out]; exact HX.out.1
  have x1 : wr.cell? ⟨w.heap.size, 1, none⟩ = some (.int .i64 a) := by rw [hbel.cell HBK.out]; exact HX.out.2.1
  have x2 : wr.cell? ⟨w.heap.size, 2, none⟩ = some (.int .i64 b) := by rw [hbel.cell HBK.out]; exact HX.out.2.2.1
  have x3 : wr.cell? ⟨w.heap.size, 3, none⟩ = some (.int .i64 c) := by rw [hbel.cell HBK.out]; exact HX.out.2.2.2
  have HB := hide hbel
  have HKw : Hid (K ≤ wr.heap.size) := by unfold Hid; rw [← HK1.out]; exact hbel.size
  clear hbel
  obtain rfl | rfl | rfl | rfl : k = 0 ∨ k = 1 ∨ k = 2 ∨ k = 3 := by omega
  ·clear k1 k2 k3 hk
   rcases (Bool.eq_false_or_eq_true (okB u a)).symm with ho | ho
   ·have HO := hide ho
    clear ho
    go_wp2_with fail
    go_quiet (first | (go_at_call 27; exact Calls.quiet_of_same (quiet_check_no _ _ HO.out _)))
    go_wp2
    go_ret
    exact ⟨back_v (HE.out.2 (Or.inl HO.out)).symm, HW.out.trans ((HB.out.mono HKs.out).trans ((below_drewNs _ _).mono (Nat.le_trans HKs.out HKw.out)))⟩
   ·have HO := hide ho
    clear ho
    go_wp2_with fail
    go_quiet (first | (go_at_call 27; exact Calls.quiet_of_same (quiet_check_ok _ _ HO.out _)))
    go_wp2
    go_roundw
    case rel => exact ⟨1, by omega, by go_num, HB.out.trans ((below_drewNs _ _).mono HKw.out), fun _ => HO.out, fun h => by omega, fun h => by omega⟩
    case measure => simp [intOf]
  ·have HO1 := hide (k1 (by omega))
   clear k1 k2 k3 hk
   rcases (Bool.eq_false_or_eq_true (okB u b)).symm with ho | ho
   ·have HO := hide ho
    clear ho
    go_wp2_with fail
    go_quiet (first | (go_at_call 27; exact Calls.quiet_of_same (quiet_check_no _ _ HO.out _)))
    go_wp2
    go_ret
    exact ⟨back_v (HE.out.2 (Or.inr (Or.inl HO.out))).symm, HW.out.trans ((HB.out.mono HKs.out).trans ((below_drewNs _ _).mono (Nat.le_trans HKs.out HKw.out)))⟩
   ·have HO := hide ho
    clear ho
    go_wp2_with fail
    go_quiet (first | (go_at_call 27; exact Calls.quiet_of_same (quiet_check_ok _ _ HO.out _)))
    go_wp2
    go_roundw
    case rel => exact ⟨2, by omega, by go_num, HB.out.trans ((below_drewNs _ _).mono HKw.out), fun _ => HO1.out, fun _ => HO.out, fun h => by omega⟩
    case measure => simp [intOf]
  ·have HO1 := hide (k1 (by omega))
   have HO2 := hide (k2 (by omega))
   clear k1 k2 k3 hk
   rcases (Bool.eq_false_or_eq_true (okB u c)).symm with ho | ho
   ·have HO := hide ho
    clear ho
    go_wp2_with fail
    go_quiet (first | (go_at_call 27; exact Calls.quiet_of_same (quiet_check_no _ _ HO.out _)))
    go_wp2
    go_ret
    exact ⟨back_v (HE.out.2 (Or.inr (Or.inr HO.out))).symm, HW.out.trans ((HB.out.mono HKs.out).trans ((below_drewNs _ _).mono (Nat.le_trans HKs.out HKw.out)))⟩
   ·have HO := hide ho
    clear ho
    go_wp2_with fail
    go_quiet (first | (go_at_call 27; exact Calls.quiet_of_same (quiet_check_ok _ _ HO.out _)))
    go_wp2
    go_roundw
    case rel => exact ⟨3, by omega, by go_num, HB.out.trans ((below_drewNs _ _).mono HKw.out), fun _ => HO1.out, fun _ => HO2.out, fun _ => HO.out⟩
    case measure => simp [intOf]
  ·have HO : Hid (okB u a = true ∧ okB u b = true ∧ okB u c = true) := ⟨k1 (by omega), k2 (by omega), k3 (by omega)⟩
   clear k1 k2 k3 hk
   go_wp2
   go_ret
   exact ⟨back_v (HE.out.1 HO.out.1 HO.out.2.1 HO.out.2.2).symm, HW.out.trans (HB.out.mono HKs.out)⟩
def Wd.answer (w : Wd) (t : List Int) : Int := if faultN t = 0 then (if w.ok = true then w.val t else 0) else 0
def Wd.fault (w : Wd) (t : List Int) : Int := if faultN t = 0 then (if w.ok = true then 0 else 1) else faultN t
theorem back_2 {a b x y : Value} (h : a = b) (h' : x = y) : Ending.returned (.tuple #[a, x]) = .returned (.tuple #[b, y]) := by rw [h, h']
theorem value_bad (t : List Int) (v : Value) (u a b c : Int) (w : World) (h : Reads w v t) (hf : ¬ faultN t = 0) :
    Calls Tryz.prog 86 #[v, .agg #[.int .i64 u, .int .i64 a, .int .i64 b, .int .i64 c]] w (Bk w (.tuple #[.int .i64 0, .iface 64 (.int .i64 (faultN t))])) := by
 have HC : Hid (Calls Tryz.prog 68 #[v] (w.alloc (.cells #[.int .i64 u, .int .i64 a, .int .i64 b, .int .i64 c] 55)) fun e w' => e = .returned (.iface 64 (.int .i64 (faultN t))) ∧ (w.alloc (.cells #[.int .i64 u, .int .i64 a, .int .i64 b, .int .i64 c] 55)) = w') := by
  have := tcheck_any t v _ (h.below (below_alloc1 w (.cells #[.int .i64 u, .int .i64 a, .int .i64 b, .int .i64 c] 55)))
  unfold errV at this
  rw [if_neg hf] at this
  exact this
 clear h hf
 obtain ⟨F, hF⟩ := nm (faultN t)
 rw [← hF] at HC ⊢
 clear hF
 go_enter Tryz.func86, Tryz.ntmps86
 go_wp2_with (go_at_call 68; refine HC.out.mono ?_; rintro e w' ⟨rfl, rfl⟩)
 go_ret2
 exact ⟨rfl, below_alloc1 _ _⟩
set_option maxRecDepth 100000 in
set_option maxHeartbeats 4000000 in
theorem value_good (t : List Int) (B off cap : Nat) (u a b c : Int) (w : World) (hB : B < w.heap.size) (hcap : t.length ≤ cap) (hf : faultN t = 0) (hc : ∀ k, k < t.length → w.cell? ⟨B, off + k, none⟩ = some (.int .i64 (t.getD k 0))) :
    Calls Tryz.prog 86 #[.slice (some ⟨B, off, none⟩) t.length cap, .agg #[.int .i64 u, .int .i64 a, .int .i64 b, .int .i64 c]] w (Bk w (.tuple #[.int .i64 (if (Wd.mk u a b c).ok = true then (Wd.mk u a b c).val t else 0), if (Wd.mk u a b c).ok = true then .nilIface else .iface 64 (.int .i64 1)])) := by
 obtain ⟨f1, f2, f3, f4⟩ := fault_zero.1 hf
 obtain ⟨w1, hw1⟩ := nm (w.alloc (.cells #[.int .i64 u, .int .i64 a, .int .i64 b, .int .i64 c] 55))
 obtain ⟨K, hK⟩ := nm (w.heap.size + 1)
 have HK1 : Hid (w1.heap.size = K) := by unfold Hid; rw [hw1, hK]; simp
 have HC1 : Hid (∀ k, k < t.length → w1.cell? ⟨B, off + k, none⟩ = some (.int .i64 (t.getD k 0))) := fun k hk => by
  rw [hw1, World.cell?_alloc_lt _ _ ⟨B, off + k, none⟩ hB]; exact hc k hk
 have HBK : Hid (B < K ∧ w.heap.size < K) := ⟨by omega, by omega⟩
 have HW : Hid (Below w.heap.size w w1) := by unfold Hid; rw [hw1]; exact below_alloc1 _ _
 have HKs : Hid (w.heap.size ≤ K) := by unfold Hid; omega
 have HC : Hid (Calls Tryz.prog 68 #[.slice (some ⟨B, off, none⟩) t.length cap] w1 (Sk w1 .nilIface)) := by
  have := tcheck_any t (.slice (some ⟨B, off, none⟩) t.length cap) w1 (Or.inr ⟨B, off, cap, rfl, by have := HK1.out; have := HBK.out.1; omega, by omega, ⟨by omega, hcap⟩, HC1.out⟩)
  rw [hf] at this
  exact this
 clear hc hB hK hcap
 have HWK : Hid (∀ W, Below K w1 W → (Wd.mk u a b c).ok = true → Calls Tryz.prog 126 #[.slice (some ⟨B, off, none⟩) t.length cap, .agg #[.int .i64 u, .int .i64 a, .int .i64 b, .int .i64 c]] W (Bk W (.tuple #[.int .i64 ((Wd.mk u a b c).val t), .nilIface]))) := fun W hb hok =>
  work_any u a b c t B off cap W hok f3 f4 f2 (by have := hb.size; have := HK1.out; have := HBK.out.1; omega) (fun k hk => by rw [hb.cell HBK.out.1]; exact HC1.out k hk)
 clear HC1 f1 f2 f3 f4 hf
 obtain ⟨V, hV⟩ := nm ((Wd.mk u a b c).val t)
 rw [← hV] at HWK ⊢
 clear hV
 obtain ⟨n, hn⟩ := nm t.length
 rw [← hn] at HWK HC ⊢
 clear hn
 have HCW : Hid (Calls Tryz.prog 125 #[.agg #[.int .i64 u, .int .i64 a, .int .i64 b, .int .i64 c]] w1 (Bk w1 (if (Wd.mk u a b c).ok = true then .nilIface else .iface 64 (.int .i64 1)))) := checkWorld_any u a b c w1
 have HX : Hid (∀ W, Below w1.heap.size w1 W → W.cell? ⟨w.heap.size, 0, none⟩ = some (.int .i64 u) ∧ W.cell? ⟨w.heap.size, 1, none⟩ = some (.int .i64 a) ∧ W.cell? ⟨w.heap.size, 2, none⟩ = some (.int .i64 b) ∧ W.cell? ⟨w.heap.size, 3, none⟩ = some (.int .i64 c)) := fun W hc => by
  have hlt : w.heap.size < w1.heap.size := by rw [hw1]; simp
  rw [hc.cell (p := ⟨w.heap.size, 0, none⟩) hlt, hc.cell (p := ⟨w.heap.size, 1, none⟩) hlt, hc.cell (p := ⟨w.heap.size, 2, none⟩) hlt, hc.cell (p := ⟨w.heap.size, 3, none⟩) hlt, hw1]
  simp
 rcases (Bool.eq_false_or_eq_true (Wd.mk u a b c).ok).symm with ho | ho
 ·rw [if_neg (by rw [ho]; decide), if_neg (by rw [ho]; decide)]
  have HCE : Hid (Calls Tryz.prog 125 #[.agg #[.int .i64 u, .int .i64 a, .int .i64 b, .int .i64 c]] w1 (Bk w1 (.iface 64 (.int .i64 1)))) := by
   have := HCW.out
   rw [if_neg (by rw [ho]; decide)] at this
   exact this
  clear HCW ho HWK
  go_enter Tryz.func86, Tryz.ntmps86
  go_wp2_with fail
  rw [← hw1]
  clear hw1
  obtain ⟨y0, y1, y2, y3⟩ := HX.out w1 (Below.refl _ _)
  go_wp2_with fail
  go_at_call 68
  refine HC.out.mono ?_
  rintro e w' ⟨rfl, rfl⟩
  go_wp2_with fail
  go_at_call 125
  refine HCE.out.mono ?_
  rintro e w2 ⟨rfl, hb⟩
  have HB := hide hb
  clear hb y0 y1 y2 y3
  go_wp2
  go_ret2
  exact ⟨rfl, HW.out.trans (HB.out.mono (by have := HK1.out; have := HKs.out; omega))⟩
 ·rw [if_pos ho, if_pos ho]
  have HCE : Hid (Calls Tryz.prog 125 #[.agg #[.int .i64 u, .int .i64 a, .int .i64 b, .int .i64 c]] w1 (Bk w1 .nilIface)) := by
   have := HCW.out
   rw [if_pos ho] at this
   exact this
  have HO := hide ho
  clear HCW ho
  go_enter Tryz.func86, Tryz.ntmps86
  go_wp2_with fail
  rw [← hw1]
  clear hw1
  obtain ⟨y0, y1, y2, y3⟩ := HX.out w1 (Below.refl _ _)
  go_wp2_with fail
  go_at_call 68
  refine HC.out.mono ?_
  rintro e w' ⟨rfl, rfl⟩
  go_wp2_with fail
  go_at_call 125
  refine HCE.out.mono ?_
  rintro e w2 ⟨rfl, hb⟩
  have HB := hide hb
  obtain ⟨x0, x1, x2, x3⟩ := HX.out w2 hb
  clear hb y0 y1 y2 y3
  go_wp2_with fail
  go_at_call 126
  refine (HWK.out w2 (by rw [← HK1.out]; exact HB.out) HO.out).mono ?_
  rintro e w3 ⟨rfl, hb⟩
  have HB3 := hide hb
  clear hb x0 x1 x2 x3
  go_wp2
  go_ret2
  have hs : w.heap.size ≤ w1.heap.size := by have := HK1.out; have := HKs.out; omega
  exact ⟨rfl, HW.out.trans ((HB.out.mono hs).trans (HB3.out.mono (Nat.le_trans hs HB.out.size)))⟩
theorem value_any (t : List Int) (v : Value) (u a b c : Int) (w : World) (h : Reads w v t) :
    Calls Tryz.prog 86 #[v, .agg #[.int .i64 u, .int .i64 a, .int .i64 b, .int .i64 c]] w (Bk w (.tuple #[.int .i64 ((Wd.mk u a b c).answer t), errV ((Wd.mk u a b c).fault t)])) := by
 by_cases hf : faultN t = 0
 ·have e1 : (Wd.mk u a b c).answer t = if (Wd.mk u a b c).ok = true then (Wd.mk u a b c).val t else 0 := by unfold Wd.answer; rw [if_pos hf]
  have e2 : errV ((Wd.mk u a b c).fault t) = if (Wd.mk u a b c).ok = true then .nilIface else .iface 64 (.int .i64 1) := by
   unfold Wd.fault; rw [if_pos hf]
   by_cases ho : (Wd.mk u a b c).ok = true
   ·rw [if_pos ho, if_pos ho]; rfl
   ·rw [if_neg ho, if_neg ho]; rfl
  rw [e1, e2]
  rcases h with ⟨ao, cap, rfl, rfl⟩ | ⟨B, off, cap, rfl, hB, _, ⟨_, hcap⟩, hc⟩
  ·exact absurd hf (by decide)
  ·exact value_good t B off cap u a b c w hB hcap hf hc
 ·have e1 : (Wd.mk u a b c).answer t = 0 := by unfold Wd.answer; rw [if_neg hf]
  have e2 : errV ((Wd.mk u a b c).fault t) = .iface 64 (.int .i64 (faultN t)) := by
   unfold Wd.fault errV; rw [if_neg hf, if_neg hf]
  rw [e1, e2]
  exact value_bad t v u a b c w h hf
end Go.Proofs.YtjmeakkmfeoigaaGreatDoor
namespace Go.Proofs.YtjmeakkmfeoigaaGreatDoor
open Go.ChangeShapes Go.WideShapes Go.ChangeAt Go.RowKit
theorem bit_at (s : Int) (i : Nat) (h0 : 0 ≤ s) (h1 : s < 256) (hi : i < 8) : bits .and .i64 (s / 2 ^ i) 1 = oneB (hasB s i) := by
 have e : ∀ n : Nat, n < 256 → ∀ i : Nat, i < 8 → bits .and .i64 ((n : Int) / 2 ^ i) 1 = oneB (hasB n i) := by decide +kernel
 obtain ⟨n, rfl⟩ := Int.eq_ofNat_of_zero_le h0
 exact e n (by omega) i hi
theorem or_more {n : Nat} {a : Int} (h : okB n a = true) (h5 : n ≤ 5) (x : Bool) : bits .or .i64 a (wrap64 (oneB x * 2 ^ n)) = a + oneB x * pw n := by
 have e := uptoSets (P := fun u a _ => u ≤ 5 → ∀ x, bits .or .i64 a (wrap64 (oneB x * 2 ^ u.toNat)) = a + oneB x * pw u.toNat) (by decide +kernel) n a a h h (by omega) x
 simpa using e
theorem and_bit : ∀ f : Nat, f < 8 → bits .and .i64 (f : Int) 1 = oneB (bitB f 0) ∧ bits .and .i64 ((f : Int) / 2) 1 = oneB (bitB f 1) ∧ bits .and .i64 ((f : Int) / 4) 1 = oneB (bitB f 2) := by decide +kernel
set_option maxRecDepth 100000 in
set_option maxHeartbeats 4000000 in
theorem with_field (n : Nat) (a b c : Int) (f : Nat) (hok : (Wd.mk n a b c).ok = true) (h5 : n ≤ 5) (hf : f < 8) (w : World) :
    Calls Tryz.prog 119 #[.agg #[.int .i64 n, .int .i64 a, .int .i64 b, .int .i64 c], .int .i64 f] w (Bk w (((Wd.mk n a b c).more f).v)) := by
 have HV : Hid (Value.agg #[.int .i64 ((n : Int) + 1), .int .i64 (bits .or .i64 a (wrap64 (bits .and .i64 (f : Int) 1 * 2 ^ n))), .int .i64 (bits .or .i64 b (wrap64 (bits .and .i64 ((f : Int) / 2) 1 * 2 ^ n))), .int .i64 (bits .or .i64 c (wrap64 (bits .and .i64 ((f : Int) / 4) 1 * 2 ^ n)))] = ((Wd.mk n a b c).more f).v) := by
  obtain ⟨h1, h2, h3⟩ := Wd.ok_iff.1 hok
  obtain ⟨e1, e2, e3⟩ := and_bit f hf
  unfold Hid
  rw [e1, e2, e3, or_more h1 h5, or_more h2 h5, or_more h3 h5]
  rfl
 clear hok
 go_enter Tryz.func119, Tryz.ntmps119
 go_wp2
 refine wp_loop_rounds 4 ?_
 rw [rounds_succ]
 go_wp2
 go_region
 go_wp2
 rw [rounds_succ]
 go_wp2
 go_region
 go_wp2
 rw [rounds_succ]
 go_wp2
 go_region
 go_wp2
 rw [rounds_succ]
 go_wp2
 go_returns
 exact ⟨back_v HV.out, by go_grown⟩
end Go.Proofs.YtjmeakkmfeoigaaGreatDoor
namespace Go.Proofs.YtjmeakkmfeoigaaGreatDoor
open Go.ChangeShapes Go.WideShapes Go.ChangeAt Go.RowKit
def maskN (t : List Int) : Int := if faultN t = 0 then maskTo (liesB t) 8 else 0
theorem with_one (f : Nat) (hf : f < 8) (w : World) :
    Calls Tryz.prog 119 #[.agg #[.int .i64 0, .int .i64 0, .int .i64 0, .int .i64 0], .int .i64 f] w (Bk w (.agg #[.int .i64 1, .int .i64 (oneW f).a, .int .i64 (oneW f).b, .int .i64 (oneW f).c])) :=
 with_field 0 0 0 0 f (by decide) (by omega) hf w
theorem one_value (t : List Int) (v : Value) (f : Nat) (w : World) (h : Reads w v t) :
    Calls Tryz.prog 86 #[v, .agg #[.int .i64 1, .int .i64 (oneW f).a, .int .i64 (oneW f).b, .int .i64 (oneW f).c]] w (Bk w (.tuple #[.int .i64 (if faultN t = 0 then oneB (liesB t f) else 0), errV (faultN t)])) := by
 have hv := value_any t v 1 (oneW f).a (oneW f).b (oneW f).c w h
 have e : (Wd.mk 1 (oneW f).a (oneW f).b (oneW f).c) = oneW f := rfl
 rw [e] at hv
 have e1 : (oneW f).answer t = if faultN t = 0 then oneB (liesB t f) else 0 := by unfold Wd.answer; rw [if_pos (oneW_ok f), oneW_val]
 have e2 : (oneW f).fault t = faultN t := by
  unfold Wd.fault; rw [if_pos (oneW_ok f)]
  split
  ·rename_i h0; exact h0.symm
  ·rfl
 rw [e1, e2] at hv
 exact hv
theorem or_mask1 : ∀ k : Nat, k < 8 → ∀ m : Nat, m < 2 ^ k → ∀ x, bits .or .i64 (m : Int) (wrap64 (oneB x * 2 ^ k)) = (m : Int) + oneB x * pw k := by decide +kernel
theorem or_mask (L : Nat → Bool) {k : Nat} (hk : k < 8) : bits .or .i64 (maskTo L k) (wrap64 (oneB (L k) * 2 ^ k)) = maskTo L (k + 1) := by
 obtain ⟨m0, m1⟩ := maskTo_le L k
 obtain ⟨m, hm⟩ := Int.eq_ofNat_of_zero_le m0
 have hp : pw k = ((2 ^ k : Nat) : Int) := by unfold pw; simp
 have h := or_mask1 k hk m (by rw [hm, hp] at m1; omega) (L k)
 show _ = maskTo L k + oneB (L k) * pw k
 rw [hm]; exact h
set_option maxRecDepth 100000 in
set_option maxHeartbeats 4000000 in
theorem mask_any (t : List Int) (v : Value) (w : World) (h : Reads w v t) :
    Calls Tryz.prog 183 #[v] w (Bk w (.tuple #[.int .i64 (maskN t), errV (faultN t)])) := by
 have HV : Hid (∀ f W, Below w.heap.size w W → Calls Tryz.prog 86 #[v, .agg #[.int .i64 1, .int .i64 (oneW f).a, .int .i64 (oneW f).b, .int .i64 (oneW f).c]] W (Bk W (.tuple #[.int .i64 (if faultN t = 0 then oneB (liesB t f) else 0), errV (faultN t)]))) := fun f W hb => one_value t v f W (h.below hb)
 clear h
 by_cases hf : faultN t = 0
 ·have e1 : maskN t = maskTo (liesB t) 8 := by unfold maskN; rw [if_pos hf]
  have e2 : errV (faultN t) = .nilIface := by rw [hf]; rfl
  rw [e1, e2]
  rw [e2] at HV
  simp only [if_pos hf] at HV
  clear e1 e2 hf
  obtain ⟨L, hL⟩ := nm (liesB t)
  rw [← hL] at HV ⊢
  clear hL
  go_enter Tryz.func183, Tryz.ntmps183
  go_wp2
  go_loopw [4, 8] (fun m i wr => ∃ k : Nat, k ≤ 8 ∧ i = .int .i64 k ∧ m = .int .i64 (maskTo L k) ∧ Below w.heap.size w wr) (fun _ i _ => 8 - (intOf i).toNat)
  case atStart => exact ⟨0, Nat.zero_le _, rfl, rfl, Below.refl _ _⟩
  case round =>
   obtain ⟨k, hk, rfl, rfl, hb⟩ := hrel
   have HB := hide hb
   clear hb
   by_cases hlt : k < 8
   ·have HS : Hid (bits .or .i64 (maskTo L k) (wrap64 (oneB (L k) * 2 ^ k)) = maskTo L (k + 1)) := or_mask L hlt
    go_wp2_with fail
    go_at_call 119
    refine (with_one k hlt _).mono ?_
    rintro e w2 ⟨rfl, hb2⟩
    have HB2 := hide (HB.out.trans (hb2.mono HB.out.size))
    clear hb2
    go_wp2_with fail
    go_at_call 86
    refine (HV.out k w2 HB2.out).mono ?_
    rintro e w3 ⟨rfl, hb3⟩
    have HB3 := hide (HB2.out.trans (hb3.mono HB2.out.size))
    clear hb3
    go_wp2
    go_roundw
    case rel => exact ⟨k + 1, by omega, by go_num, by rw [HS.out], HB3.out⟩
    case measure => simp [intOf]; omega
   ·obtain rfl : k = 8 := by omega
    go_wp2
    go_ret2
    exact ⟨rfl, HB.out⟩
 ·have e1 : maskN t = 0 := by unfold maskN; rw [if_neg hf]
  have e2 : errV (faultN t) = .iface 64 (.int .i64 (faultN t)) := by unfold errV; rw [if_neg hf]
  rw [e1, e2]
  rw [e2] at HV
  simp only [if_neg hf] at HV
  clear e1 e2 hf
  obtain ⟨F, hF⟩ := nm (faultN t)
  rw [← hF] at HV ⊢
  clear hF
  go_enter Tryz.func183, Tryz.ntmps183
  go_wp2
  refine wp_loop_rounds 1 ?_
  rw [rounds_succ]
  go_wp2_with fail
  go_at_call 119
  refine (with_one 0 (by omega) _).mono ?_
  rintro e w2 ⟨rfl, hb2⟩
  have HB2 := hide hb2
  clear hb2
  go_wp2_with fail
  go_at_call 86
  refine (HV.out 0 w2 HB2.out).mono ?_
  rintro e w3 ⟨rfl, hb3⟩
  have HB3 := hide (HB2.out.trans (hb3.mono HB2.out.size))
  clear hb3
  go_wp2
  go_ret2
  exact ⟨rfl, HB3.out⟩
end Go.Proofs.YtjmeakkmfeoigaaGreatDoor
namespace Go.Proofs.YtjmeakkmfeoigaaGreatDoor
open Go.ChangeShapes Go.WideShapes Go.ChangeAt Go.RowKit
def Blk (w : World) (G : Nat) (T : TypeId) (cs : Array Value) : Prop := w.heap[G]? = some (.cells cs T (0, 0))
theorem Blk.lt {w : World} {G : Nat} {T : TypeId} {cs : Array Value} (h : Blk w G T cs) : G < w.heap.size := (Array.getElem?_eq_some_iff.1 h).1
theorem Blk.below {w w' : World} {G : Nat} {T : TypeId} {cs : Array Value} (h : Blk w G T cs) (hb : Below w.heap.size w w') : Blk w' G T cs := by
 unfold Blk; rw [hb.block G h.lt]; exact h
theorem Blk.cell {w : World} {G : Nat} {T : TypeId} {cs : Array Value} (h : Blk w G T cs) (j : Nat) : w.cell? ⟨G, j, none⟩ = cs[j]? := cell_of_row w G j cs T (0, 0) h
theorem Blk.frozen {w : World} {G : Nat} {T : TypeId} {cs : Array Value} (h : Blk w G T cs) (j : Nat) : w.frozen? ⟨G, j, none⟩ = false := frozen_of_row w G j cs T h
theorem Blk.set {w : World} {G : Nat} {T : TypeId} {cs : Array Value} (h : Blk w G T cs) (j : Nat) (u : Value) : Blk (w.setCell ⟨G, j, none⟩ u) G T (cs.setIfInBounds j u) := heap_setCell_same w G j cs T u h
theorem Blk.far {w : World} {G : Nat} {T : TypeId} {cs : Array Value} (h : Blk w G T cs) {R : Nat} (hR : G ≠ R) (j : Nat) (u : Value) : Blk (w.setCell ⟨R, j, none⟩ u) G T cs := by
 unfold Blk; rw [heap_setCell_other w ⟨R, j, none⟩ G u hR]; exact h
theorem Blk.drew {w : World} {G : Nat} {T : TypeId} {cs : Array Value} (h : Blk w G T cs) : Blk w.drew G T cs := h
theorem Blk.new (w : World) (T : TypeId) (cs : Array Value) : Blk (w.alloc (.cells cs T)) w.heap.size T cs := heap_alloc_new w _
theorem Blk.old {w : World} {G : Nat} {T : TypeId} {cs : Array Value} (h : Blk w G T cs) (o : Obj) : Blk (w.alloc o) G T cs := by
 unfold Blk; rw [heap_alloc_old w o h.lt]; exact h
def arr8 (N : Nat → Int) : Array Value := #[.int .i64 (N 0), .int .i64 (N 1), .int .i64 (N 2), .int .i64 (N 3), .int .i64 (N 4), .int .i64 (N 5), .int .i64 (N 6), .int .i64 (N 7)]
theorem arr8_get (N : Nat → Int) {f : Nat} (hf : f < 8) : (arr8 N)[f]? = some (.int .i64 (N f)) := by
 rcases eight hf with rfl | rfl | rfl | rfl | rfl | rfl | rfl | rfl <;> rfl
theorem arr8_one (N : Nat → Int) {f : Nat} (hf : f < 8) : (arr8 N).setIfInBounds f (.int .i64 (N f + 1)) = arr8 (fun g => N g + if f = g then 1 else 0) := by
 rcases eight hf with rfl | rfl | rfl | rfl | rfl | rfl | rfl | rfl <;> simp [arr8]
theorem arr8_same {N M : Nat → Int} (h : ∀ f, f < 8 → N f = M f) : arr8 N = arr8 M := by
 unfold arr8
 rw [h 0 (by omega), h 1 (by omega), h 2 (by omega), h 3 (by omega), h 4 (by omega), h 5 (by omega), h 6 (by omega), h 7 (by omega)]
theorem arr8_all (N M : Nat → Int) : ((((((((arr8 N).setIfInBounds 0 (.int .i64 (M 0))).setIfInBounds 1 (.int .i64 (M 1))).setIfInBounds 2 (.int .i64 (M 2))).setIfInBounds 3 (.int .i64 (M 3))).setIfInBounds 4 (.int .i64 (M 4))).setIfInBounds 5 (.int .i64 (M 5))).setIfInBounds 6 (.int .i64 (M 6))).setIfInBounds 7 (.int .i64 (M 7)) = arr8 M := by
 simp [arr8]
def arrW (w : Wd) : Array Value := #[.int .i64 w.u, .int .i64 w.a, .int .i64 w.b, .int .i64 w.c]
theorem load8 {W : World} {R : Nat} {N : Nat → Int} (h : Blk W R 122 (arr8 N)) : (loadVar 122 ⟨R, 0, none⟩).run Tryz.prog W = .ok (.agg (arr8 N)) W := by
 have hl := run_loadCells_list (P := Tryz.prog) W ⟨R, 0, none⟩ (arr8 N).toList (fun j v hj => by
  have := h.cell j
  rw [← Array.getElem?_toList] at this
  rw [hj] at this
  have ha : (⟨R, 0, none⟩ : Addr).add j = ⟨R, j, none⟩ := by unfold Addr.add; split <;> simp_all
  rw [ha]; exact this)
 simp [loadVar, Tryz.isAgg122, Tryz.sizeOf122, Result.andThen, arr8] at hl ⊢
 simp [hl]
theorem Blk.cells8 {w : World} {G : Nat} {T : TypeId} {N : Nat → Int} (h : Blk w G T (arr8 N)) : w.cell? ⟨G, 0, none⟩ = some (.int .i64 (N 0)) ∧ w.cell? ⟨G, 1, none⟩ = some (.int .i64 (N 1)) ∧ w.cell? ⟨G, 2, none⟩ = some (.int .i64 (N 2)) ∧ w.cell? ⟨G, 3, none⟩ = some (.int .i64 (N 3)) ∧ w.cell? ⟨G, 4, none⟩ = some (.int .i64 (N 4)) ∧ w.cell? ⟨G, 5, none⟩ = some (.int .i64 (N 5)) ∧ w.cell? ⟨G, 6, none⟩ = some (.int .i64 (N 6)) ∧ w.cell? ⟨G, 7, none⟩ = some (.int .i64 (N 7)) :=
 ⟨h.cell 0, h.cell 1, h.cell 2, h.cell 3, h.cell 4, h.cell 5, h.cell 6, h.cell 7⟩
theorem Blk.frozen8 {w : World} {G : Nat} {T : TypeId} {cs : Array Value} (h : Blk w G T cs) : w.frozen? ⟨G, 0, none⟩ = false ∧ w.frozen? ⟨G, 1, none⟩ = false ∧ w.frozen? ⟨G, 2, none⟩ = false ∧ w.frozen? ⟨G, 3, none⟩ = false ∧ w.frozen? ⟨G, 4, none⟩ = false ∧ w.frozen? ⟨G, 5, none⟩ = false ∧ w.frozen? ⟨G, 6, none⟩ = false ∧ w.frozen? ⟨G, 7, none⟩ = false :=
 ⟨h.frozen 0, h.frozen 1, h.frozen 2, h.frozen 3, h.frozen 4, h.frozen 5, h.frozen 6, h.frozen 7⟩
theorem Blk.cells4 {w : World} {G : Nat} {T : TypeId} {W : Wd} (h : Blk w G T (arrW W)) : w.cell? ⟨G, 0, none⟩ = some (.int .i64 W.u) ∧ w.cell? ⟨G, 1, none⟩ = some (.int .i64 W.a) ∧ w.cell? ⟨G, 2, none⟩ = some (.int .i64 W.b) ∧ w.cell? ⟨G, 3, none⟩ = some (.int .i64 W.c) :=
 ⟨h.cell 0, h.cell 1, h.cell 2, h.cell 3⟩
theorem Blk.frozen4 {w : World} {G : Nat} {T : TypeId} {cs : Array Value} (h : Blk w G T cs) : w.frozen? ⟨G, 0, none⟩ = false ∧ w.frozen? ⟨G, 1, none⟩ = false ∧ w.frozen? ⟨G, 2, none⟩ = false ∧ w.frozen? ⟨G, 3, none⟩ = false :=
 ⟨h.frozen 0, h.frozen 1, h.frozen 2, h.frozen 3⟩
def put8 (w : World) (R : Nat) (M : Nat → Int) : World := (((((((w.setCell ⟨R, 0, none⟩ (.int .i64 (M 0))).setCell ⟨R, 1, none⟩ (.int .i64 (M 1))).setCell ⟨R, 2, none⟩ (.int .i64 (M 2))).setCell ⟨R, 3, none⟩ (.int .i64 (M 3))).setCell ⟨R, 4, none⟩ (.int .i64 (M 4))).setCell ⟨R, 5, none⟩ (.int .i64 (M 5))).setCell ⟨R, 6, none⟩ (.int .i64 (M 6))).setCell ⟨R, 7, none⟩ (.int .i64 (M 7))
def putW (w : World) (R : Nat) (M : Wd) : World := (((w.setCell ⟨R, 0, none⟩ (.int .i64 M.u)).setCell ⟨R, 1, none⟩ (.int .i64 M.a)).setCell ⟨R, 2, none⟩ (.int .i64 M.b)).setCell ⟨R, 3, none⟩ (.int .i64 M.c)
theorem put8_blk {w : World} {R : Nat} {T : TypeId} {N : Nat → Int} (h : Blk w R T (arr8 N)) (M : Nat → Int) : Blk (put8 w R M) R T (arr8 M) := by
 have := (((((((h.set 0 (.int .i64 (M 0))).set 1 (.int .i64 (M 1))).set 2 (.int .i64 (M 2))).set 3 (.int .i64 (M 3))).set 4 (.int .i64 (M 4))).set 5 (.int .i64 (M 5))).set 6 (.int .i64 (M 6))).set 7 (.int .i64 (M 7))
 rw [arr8_all] at this
 exact this
theorem put8_far {w : World} {R : Nat} {G : Nat} {T : TypeId} {cs : Array Value} (h : Blk w G T cs) (hR : G ≠ R) (M : Nat → Int) : Blk (put8 w R M) G T cs :=
 (((((((h.far hR 0 _).far hR 1 _).far hR 2 _).far hR 3 _).far hR 4 _).far hR 5 _).far hR 6 _).far hR 7 _
theorem put8_below {B : Nat} {w w' : World} {R : Nat} (h : Below B w w') (hR : B ≤ R) (M : Nat → Int) : Below B w (put8 w' R M) :=
 (((((((h.setCell hR _).setCell hR _).setCell hR _).setCell hR _).setCell hR _).setCell hR _).setCell hR _).setCell hR _
theorem putW_blk {w : World} {R : Nat} {T : TypeId} {N : Wd} (h : Blk w R T (arrW N)) (M : Wd) : Blk (putW w R M) R T (arrW M) := by
 have := (((h.set 0 (.int .i64 M.u)).set 1 (.int .i64 M.a)).set 2 (.int .i64 M.b)).set 3 (.int .i64 M.c)
 have e : ((((arrW N).setIfInBounds 0 (.int .i64 M.u)).setIfInBounds 1 (.int .i64 M.a)).setIfInBounds 2 (.int .i64 M.b)).setIfInBounds 3 (.int .i64 M.c) = arrW M := by simp [arrW]
 rw [e] at this
 exact this
theorem putW_far {w : World} {R : Nat} {G : Nat} {T : TypeId} {cs : Array Value} (h : Blk w G T cs) (hR : G ≠ R) (M : Wd) : Blk (putW w R M) G T cs :=
 (((h.far hR 0 _).far hR 1 _).far hR 2 _).far hR 3 _
theorem putW_below {B : Nat} {w w' : World} {R : Nat} (h : Below B w w') (hR : B ≤ R) (M : Wd) : Below B w (putW w' R M) :=
 (((h.setCell hR _).setCell hR _).setCell hR _).setCell hR _
theorem loadW {W : World} {R : Nat} {M : Wd} (h : Blk W R 55 (arrW M)) : (loadVar 55 ⟨R, 0, none⟩).run Tryz.prog W = .ok (.agg (arrW M)) W := by
 have hl := run_loadCells_list (P := Tryz.prog) W ⟨R, 0, none⟩ (arrW M).toList (fun j v hj => by
  have := h.cell j
  rw [← Array.getElem?_toList] at this
  rw [hj] at this
  have ha : (⟨R, 0, none⟩ : Addr).add j = ⟨R, j, none⟩ := by unfold Addr.add; split <;> simp_all
  rw [ha]; exact this)
 simp [loadVar, Tryz.isAgg55, Tryz.sizeOf55, Result.andThen, arrW] at hl ⊢
 simp [hl]
end Go.Proofs.YtjmeakkmfeoigaaGreatDoor
namespace Go.Proofs.YtjmeakkmfeoigaaGreatDoor
open Go.ChangeShapes Go.WideShapes Go.ChangeAt Go.RowKit
structure LKeep (S : Nat → Prop) (W W' : World) : Prop where
 os : W'.os = W.os
 tape : W'.tape = W.tape
 output : W'.output = W.output
 size : W.heap.size ≤ W'.heap.size
 block : ∀ b, b < W.heap.size → ¬ S b → W'.heap[b]? = W.heap[b]?
theorem LKeep.below {S : Nat → Prop} {K : Nat} {W W' : World} (h : LKeep S W W') (hS : ∀ b, S b → K ≤ b) (hK : K ≤ W.heap.size) : Below K W W' :=
 ⟨h.os, h.tape, h.output, h.size, fun k hk => h.block k (by omega) fun hs => by have := hS k hs; omega⟩
theorem LKeep.blk {S : Nat → Prop} {W W' : World} (h : LKeep S W W') {G : Nat} {T : TypeId} {cs : Array Value} (hb : Blk W G T cs) (hG : ¬ S G) : Blk W' G T cs := by
 unfold Blk; rw [h.block G hb.lt hG]; exact hb
def Grows (S S' : Nat → Prop) (W : World) : Prop := ∀ b, S' b → S b ∨ W.heap.size ≤ b
theorem Grows.off {S S' : Nat → Prop} {W : World} (h : Grows S S' W) {G : Nat} (hG : ¬ S G) (hl : G < W.heap.size) : ¬ S' G := fun hs => by
 rcases h G hs with h | h
 ·exact hG h
 ·omega
theorem Grows.ge {S S' : Nat → Prop} {W : World} (h : Grows S S' W) {K : Nat} (hS : ∀ b, S b → K ≤ b) (hK : K ≤ W.heap.size) : ∀ b, S' b → K ≤ b := fun b hb => by
 rcases h b hb with h | h
 ·exact hS b h
 ·omega
theorem LKeep.refl (S : Nat → Prop) (W : World) : LKeep S W W := ⟨rfl, rfl, rfl, Nat.le_refl _, fun _ _ _ => rfl⟩
theorem LKeep.of_below {S : Nat → Prop} {W W' : World} (h : Below W.heap.size W W') : LKeep S W W' := ⟨h.os, h.tape, h.output, h.size, fun b hb _ => h.block b hb⟩
theorem LKeep.trans {S S' : Nat → Prop} {W W1 W2 : World} (h : LKeep S W W1) (hg : Grows S S' W) (k : LKeep S' W1 W2) : LKeep S W W2 :=
 ⟨k.os.trans h.os, k.tape.trans h.tape, k.output.trans h.output, Nat.le_trans h.size k.size, fun b hb hs => (k.block b (Nat.lt_of_lt_of_le hb h.size) (hg.off hs hb)).trans (h.block b hb hs)⟩
theorem Grows.refl (S : Nat → Prop) (W : World) : Grows S S W := fun _ h => Or.inl h
def Kp (S : Nat → Prop) (W : World) (P : World → Prop) : Prop := ∀ X, LKeep S W X → P X
theorem Kp.now {S : Nat → Prop} {W : World} {P : World → Prop} (h : Kp S W P) : P W := h W (LKeep.refl _ _)
theorem Kp.move {S S' : Nat → Prop} {W W' : World} {P : World → Prop} (h : Kp S W P) (hk : LKeep S W W') (hg : Grows S S' W) : Kp S' W' P := fun X hX => h X (hk.trans hg hX)
theorem Kp.step {S : Nat → Prop} {W W' : World} {P : World → Prop} (h : Kp S W P) (hb : Below W.heap.size W W') : Kp S W' P := h.move (LKeep.of_below hb) (Grows.refl _ _)
theorem Kp.mono {S : Nat → Prop} {W : World} {P Q : World → Prop} (h : Kp S W P) (hpq : ∀ X, P X → Q X) : Kp S W Q := fun X hX => hpq X (h X hX)
def Off (S : Nat → Prop) (g : Nat) : Nat → Prop := fun b => S b ∨ b = g
theorem LKeep.off {S : Nat → Prop} {W W' : World} (h : LKeep S W W') (g : Nat) : LKeep (Off S g) W W' := ⟨h.os, h.tape, h.output, h.size, fun b hb hs => h.block b hb fun k => hs (Or.inl k)⟩
theorem Grows.offs {S S' : Nat → Prop} {W : World} (h : Grows S S' W) (g : Nat) : Grows (Off S g) (Off S' g) W := fun b hb => by
 rcases hb with hb | hb
 ·rcases h b hb with h | h
  ·exact Or.inl (Or.inl h)
  ·exact Or.inr h
 ·exact Or.inl (Or.inr hb)
theorem LKeep.old {S : Nat → Prop} {w W X : World} (h : LKeep S W X) (hS : ∀ b, S b → w.heap.size ≤ b) (hb : Below w.heap.size w W) : Below w.heap.size w X := hb.trans (h.below hS hb.size)
theorem Kp.new {S : Nat → Prop} {W : World} {G : Nat} {T : TypeId} {cs : Array Value} (h : Blk W G T cs) (hG : ¬ S G) : Kp S W (fun X => Blk X G T cs) := fun _ hX => hX.blk h hG
end Go.Proofs.YtjmeakkmfeoigaaGreatDoor
namespace Go.Proofs.YtjmeakkmfeoigaaGreatDoor
open Go.ChangeShapes Go.WideShapes Go.ChangeAt Go.RowKit
structure LogOk (w : World) (Rep : Addr → Lg → (Nat → Prop) → World → Prop) : Prop where
 same : ∀ p l S W W', Rep p l S W → W.heap.size ≤ W'.heap.size → (∀ b, S b → W'.heap[b]? = W.heap[b]?) → Rep p l S W'
 lt : ∀ p l S W, Rep p l S W → ∀ b, S b → b < W.heap.size
 new : ∀ (u : Int) W, Below w.heap.size w W → 0 ≤ u ∧ u ≤ 6 → Calls Tryz.prog 7 #[.int .i64 u] W fun e w' => ∃ p S, e = .returned (.tuple #[.pointer (some p), .nilIface]) ∧ Rep p (lg0 u) S w' ∧ (∀ b, S b → W.heap.size ≤ b) ∧ Below W.heap.size W w'
 newE : ∀ (u : Int) W, Below w.heap.size w W → ¬ (0 ≤ u ∧ u ≤ 6) → Calls Tryz.prog 7 #[.int .i64 u] W fun e w' => ∃ q, e = .returned (.tuple #[.pointer q, .iface 64 (.int .i64 1)]) ∧ Below W.heap.size W w'
 say : ∀ p l S W (a : At) (h : Bool) vs vt, Below w.heap.size w W → Rep p l S W → Reads W vs a.s → Reads W vt a.t → Calls Tryz.prog 9 #[.pointer (some p), .agg #[.int .i64 a.k, vs, vt, .int .i64 a.n], .bool h] W fun e w' => ∃ n S', (2 ≤ n ∧ n ≤ 1000000) ∧ e = .returned (errV (l.sayE a h)) ∧ Rep p (l.say a h n) S' w' ∧ LKeep S W w' ∧ Grows S S' W
 sync : ∀ p l S W, Below w.heap.size w W → Rep p l S W → Calls Tryz.prog 11 #[.pointer (some p)] W fun e w' => ∃ S', e = .returned (errV l.syncE) ∧ Rep p l.sync S' w' ∧ LKeep S W w' ∧ Grows S S' W
 fail : ∀ p l S W (n : Int), Below w.heap.size w W → Rep p l S W → Calls Tryz.prog 8 #[.pointer (some p), .int .i64 n] W fun e w' => ∃ S', (∃ v, e = .returned v) ∧ Rep p (l.fail n) S' w' ∧ LKeep S W w' ∧ Grows S S' W
 crash : ∀ p l S W (n : Int), Below w.heap.size w W → Rep p l S W → Calls Tryz.prog 12 #[.pointer (some p), .int .i64 n] W fun e w' => ∃ S', (∃ v, e = .returned v) ∧ Rep p (l.crash n) S' w' ∧ LKeep S W w' ∧ Grows S S' W
 all : ∀ p l S W, Below w.heap.size w W → Rep p l S W → Calls Tryz.prog 13 #[.pointer (some p)] W fun e w' => ∃ v, e = .returned v ∧ ReadsF w' v l.fs ∧ Rep p l S w' ∧ Below W.heap.size W w'
 openS : ∀ p l S W, Below w.heap.size w W → Rep p l S W → Calls Tryz.prog 17 #[.pointer (some p)] W fun e w' => e = .returned (.bool l.openB) ∧ Rep p l S w' ∧ Below W.heap.size W w'
 bytes : ∀ p l S W, Below w.heap.size w W → Rep p l S W → Calls Tryz.prog 16 #[.pointer (some p)] W fun e w' => e = .returned (.int .i64 l.bytes) ∧ Rep p l S w' ∧ Below W.heap.size W w'
 safe : ∀ p l S W, Below w.heap.size w W → Rep p l S W → Calls Tryz.prog 15 #[.pointer (some p)] W fun e w' => e = .returned (.int .i64 l.safe) ∧ Rep p l S w' ∧ Below W.heap.size W w'
theorem LogOk.step {w : World} {Rep : Addr → Lg → (Nat → Prop) → World → Prop} (h : LogOk w Rep) {p : Addr} {l : Lg} {S : Nat → Prop} {W W' : World} (hr : Rep p l S W) (hb : Below W.heap.size W W') : Rep p l S W' :=
 h.same p l S W W' hr hb.size fun b hs => hb.block b (h.lt p l S W hr b hs)
end Go.Proofs.YtjmeakkmfeoigaaGreatDoor
namespace Go.Proofs.YtjmeakkmfeoigaaGreatDoor
open Go.RowKit Go.Extern.Stop Go.Stop Go.Extern
set_option maxRecDepth 100000
theorem rlValueOfP (t : Addr) (w : World) : (ReflectliteValue.unpack (.iface 110 (.pointer (some t)))).run Tryz.prog w
    = .ok (.agg #[.pointer (some ⟨11, 110, none⟩), .pointer (some ⟨w.heap.size, 0, none⟩), .int .u64 150]) (w.alloc (.cells #[.pointer (some t)] 110)) := by kernel_rfl
theorem rlTypeP (a : Addr) (w : World) : (ReflectliteValue.methodAny (ReflectliteValue.valueError "reflectlite.Value.Type" 0) (fun t _ _ _ => ReflectliteType.toType t) #[.agg #[.pointer (some ⟨11, 110, none⟩), .pointer (some a), .int .u64 150]]).run Tryz.prog w
    = .ok (.iface 199 (.agg #[.pointer (some ⟨11, 110, none⟩)])) w := by kernel_rfl
theorem rlMethodKind (h : Value) (w : World) : (Go.method 429 199 (.agg #[h]) "Kind").run Tryz.prog w = .ok (254, h) w := by kernel_rfl
theorem rlKindP (w : World) : ((ReflectliteType.abiMethod fun t => (fun a : Nat => Value.int IntKind.u8 (a : Int)) <$> Rtype.kind t) #[.pointer (some ⟨11, 110, none⟩)]).run Tryz.prog w = .ok (.int .u8 22) w := by kernel_rfl
theorem rlKindE (w : World) : ((ReflectliteType.abiMethod fun t => (fun a : Nat => Value.int IntKind.u8 (a : Int)) <$> Rtype.kind t) #[.pointer (some ⟨11, 64, none⟩)]).run Tryz.prog w = .ok (.int .u8 2) w := by kernel_rfl
theorem rlPartsP (a : Addr) (w : World) : (ReflectliteValue.parts (.agg #[.pointer (some ⟨11, 110, none⟩), .pointer (some a), .int .u64 150])).run Tryz.prog w = .ok (some (110, a, 150)) w := by kernel_rfl
theorem rlIsNilP (a p : Addr) (W : World) (ha : W.cell? a = some (.pointer (some p))) :
    (ReflectliteValue.method (ReflectliteValue.valueError "reflectlite.Value.IsNil" 0) ReflectliteValue.isNil #[.agg #[.pointer (some ⟨11, 110, none⟩), .pointer (some a), .int .u64 150]]).run Tryz.prog W = .ok (.bool false) W := by
 change (ReflectliteValue.parts (.agg #[.pointer (some ⟨11, 110, none⟩), .pointer (some a), .int .u64 150]) >>= _).run _ _ = _
 simp only [Sem.run_bind, rlPartsP, Result.andThen]
 simp [ReflectliteValue.isNil, loadVar, isAgg, underlying, Tryz.underlying110, ha, Result.andThen]
theorem rlMethodElem (h : Value) (w : World) : (Go.method 429 199 (.agg #[h]) "Elem").run Tryz.prog w = .ok (264, .agg #[h]) w := by kernel_rfl
theorem rlMethodImplements (h : Value) (w : World) : (Go.method 429 199 (.agg #[h]) "Implements").run Tryz.prog w = .ok (265, .agg #[h]) w := by kernel_rfl
theorem rlMethodAssignableTo (h : Value) (w : World) : (Go.method 429 199 (.agg #[h]) "AssignableTo").run Tryz.prog w = .ok (262, .agg #[h]) w := by kernel_rfl
theorem rlElemP (w : World) : (ReflectliteType.method ReflectliteType.elem #[.agg #[.pointer (some ⟨11, 110, none⟩)]]).run Tryz.prog w = .ok (.iface 199 (.agg #[.pointer (some ⟨11, 64, none⟩)])) w := by kernel_rfl
theorem rlImplementsE (w : World) : (ReflectliteType.relation "Implements" ReflectliteType.implements_ #[.agg #[.pointer (some ⟨11, 64, none⟩)], .iface 199 (.agg #[.pointer (some ⟨11, 24, none⟩)])]).run Tryz.prog w = .ok (.bool true) w := by kernel_rfl
theorem rlTypeOfE (v : Value) (w : World) : (ReflectliteType.typeOf #[.iface 64 v]).run Tryz.prog w = .ok (.iface 199 (.agg #[.pointer (some ⟨11, 64, none⟩)])) w := by kernel_rfl
theorem rlAssignableE (w : World) : (ReflectliteType.relation "AssignableTo" ReflectliteType.assignableTo #[.agg #[.pointer (some ⟨11, 64, none⟩)], .iface 199 (.agg #[.pointer (some ⟨11, 64, none⟩)])]).run Tryz.prog w = .ok (.bool true) w := by kernel_rfl
theorem rlValueOfE (n : Int) (w : World) : (ReflectliteValue.unpack (.iface 64 (.int .i64 n))).run Tryz.prog w
    = .ok (.agg #[.pointer (some ⟨11, 64, none⟩), .pointer (some ⟨w.heap.size, 0, none⟩), .int .u64 130]) (w.alloc (.cells #[.int .i64 n] 64)) := by kernel_rfl
theorem rlElemOfP (w : World) : (Rtype.elem? 110).run Tryz.prog w = .ok (some 64) w := by kernel_rfl
theorem rlMkE (p : Addr) (w : World) : (ReflectliteValue.mk 64 p ReflectliteValue.flagAddr).run Tryz.prog w = .ok (.agg #[.pointer (some ⟨11, 64, none⟩), .pointer (some p), .int .u64 386]) w := by kernel_rfl
theorem rlElemV (a p : Addr) (W : World) (ha : W.cell? a = some (.pointer (some p))) :
    (ReflectliteValue.method (ReflectliteValue.valueError "reflectlite.Value.Elem" 0) ReflectliteValue.elem #[.agg #[.pointer (some ⟨11, 110, none⟩), .pointer (some a), .int .u64 150]]).run Tryz.prog W
     = .ok (.agg #[.pointer (some ⟨11, 64, none⟩), .pointer (some p), .int .u64 386]) W := by
 change (ReflectliteValue.parts (.agg #[.pointer (some ⟨11, 110, none⟩), .pointer (some a), .int .u64 150]) >>= _).run _ _ = _
 simp only [Sem.run_bind, rlPartsP, Result.andThen]
 simp [ReflectliteValue.elem, loadVar, isAgg, underlying, Tryz.underlying110, ha, Result.andThen, rlElemOfP, rlMkE]
theorem rlPartsEa (a : Addr) (w : World) : (ReflectliteValue.parts (.agg #[.pointer (some ⟨11, 64, none⟩), .pointer (some a), .int .u64 386])).run Tryz.prog w = .ok (some (64, a, 386)) w := by kernel_rfl
theorem rlPartsE (a : Addr) (w : World) : (ReflectliteValue.parts (.agg #[.pointer (some ⟨11, 64, none⟩), .pointer (some a), .int .u64 130])).run Tryz.prog w = .ok (some (64, a, 130)) w := by kernel_rfl
theorem rlDirectE (w : World) : (Rtype.directlyAssignable 64 64).run Tryz.prog w = .ok true w := by kernel_rfl
theorem rlSetE (ta b : Addr) (n : Int) (old : Value) (W : World) (hb : W.cell? b = some (.int .i64 n)) (ht : W.cell? ta = some old) (hf : W.frozen? ta = false) :
    (ReflectliteValue.set #[.agg #[.pointer (some ⟨11, 64, none⟩), .pointer (some ta), .int .u64 386], .agg #[.pointer (some ⟨11, 64, none⟩), .pointer (some b), .int .u64 130]]).run Tryz.prog W
     = .ok (.tuple #[]) (W.setCell ta (.int .i64 n)) := by
 change (ReflectliteValue.parts (.agg #[.pointer (some ⟨11, 64, none⟩), .pointer (some ta), .int .u64 386]) >>= fun _ => ReflectliteValue.parts (.agg #[.pointer (some ⟨11, 64, none⟩), .pointer (some b), .int .u64 130]) >>= _).run _ _ = _
 simp only [Sem.run_bind, rlPartsEa, rlPartsE, Result.andThen]
 simp [ReflectliteValue.flagAddr, loadVar, isAgg, underlying, Tryz.underlying64, hb, Result.andThen, rlDirectE, storeVar, Value.cells, storeCells, Addr.add]
 rw [run_store Tryz.prog W ta _ _ (by rfl)]
 simp [ht, hf]
def Laid (w : World) : Prop := w.cell? ⟨1, 0, none⟩ = some (.iface 199 (.agg #[.pointer (some ⟨11, 24, none⟩)]))
theorem Laid.lt {w : World} (h : Laid w) : 1 < w.heap.size := by
 rcases Nat.lt_or_ge 1 w.heap.size with h' | h'
 ·exact h'
 ·simp [Laid, World.cell?, Array.getElem?_eq_none h'] at h
theorem Laid.below {w w' : World} (h : Laid w) (hb : Below w.heap.size w w') : Laid w' := by
 unfold Laid
 rw [hb.cell h.lt]
 exact h
def Acc (w0 w : World) : Prop := Laid w ∧ Below w0.heap.size w0 w
theorem Acc.start {w : World} (h : Laid w) : Acc w w := ⟨h, Below.refl _ _⟩
theorem Acc.step {w0 w w' : World} (h : Acc w0 w) (hb : Below w.heap.size w w') : Acc w0 w' := ⟨h.1.below hb, h.2.trans (hb.mono h.2.size)⟩
set_option maxRecDepth 100000 in
set_option maxHeartbeats 4000000 in
theorem as_hit (n : Int) (t : Addr) (old : Value) (w : World) (hg : w.cell? ⟨1, 0, none⟩ = some (.iface 199 (.agg #[.pointer (some ⟨11, 24, none⟩)]))) (ht0 : w.cell? t = some old) (hf0 : w.frozen? t = false) :
    Calls Tryz.prog 64 #[.iface 64 (.int .i64 n), .iface 110 (.pointer (some t))] w fun ev w' => ev = .returned (.bool true) ∧ ((((w.alloc (.cells #[.pointer (some t)] 110)).alloc (.cells #[.pointer (some ⟨11, 110, none⟩), .pointer (some ⟨w.heap.size, 0, none⟩), .int .u64 150] 161)).alloc (.cells #[.pointer (some ⟨11, 110, none⟩), .pointer (some ⟨w.heap.size, 0, none⟩), .int .u64 150] 161)).alloc (.cells #[.int .i64 n] 64)).setCell t (.int .i64 n) = w' := by
 have h6 := @run_callFunc_extern Tryz.prog 102 _ (fun args => ReflectliteValue.unpack (args.getD 0 (.tuple #[]))) Tryz.func102 (by kernel_rfl) (by kernel_rfl) (by kernel_rfl) (by kernel_rfl)
 have h7 := @run_callFunc_extern Tryz.prog 103 _ (ReflectliteValue.methodAny (ReflectliteValue.valueError "reflectlite.Value.Type" 0) (fun t _ _ _ => ReflectliteType.toType t)) Tryz.func103 (by kernel_rfl) (by kernel_rfl) (by kernel_rfl) (by kernel_rfl)
 have h8 := @run_callFunc_extern Tryz.prog 104 _ (ReflectliteValue.method (ReflectliteValue.valueError "reflectlite.Value.IsNil" 0) ReflectliteValue.isNil) Tryz.func104 (by kernel_rfl) (by kernel_rfl) (by kernel_rfl) (by kernel_rfl)
 have h27 := @run_callFunc_extern Tryz.prog 254 _ (ReflectliteType.abiMethod fun t => do pure (.int .u8 (← Rtype.kind t))) Tryz.func254 (by kernel_rfl) (by kernel_rfl) (by kernel_rfl) (by kernel_rfl)
 have h37 := @run_callFunc_extern Tryz.prog 264 _ (ReflectliteType.method ReflectliteType.elem) Tryz.func264 (by kernel_rfl) (by kernel_rfl) (by kernel_rfl) (by kernel_rfl)
 have h38 := @run_callFunc_extern Tryz.prog 265 _ (ReflectliteType.relation "Implements" ReflectliteType.implements_) Tryz.func265 (by kernel_rfl) (by kernel_rfl) (by kernel_rfl) (by kernel_rfl)
 have h10 := @run_callFunc_extern Tryz.prog 141 _ ReflectliteType.typeOf Tryz.func141 (by kernel_rfl) (by kernel_rfl) (by kernel_rfl) (by kernel_rfl)
 have h35 := @run_callFunc_extern Tryz.prog 262 _ (ReflectliteType.relation "AssignableTo" ReflectliteType.assignableTo) Tryz.func262 (by kernel_rfl) (by kernel_rfl) (by kernel_rfl) (by kernel_rfl)
 have h11 := @run_callFunc_extern Tryz.prog 142 _ (ReflectliteValue.method (ReflectliteValue.valueError "reflectlite.Value.Elem" 0) ReflectliteValue.elem) Tryz.func142 (by kernel_rfl) (by kernel_rfl) (by kernel_rfl) (by kernel_rfl)
 have h12 := @run_callFunc_extern Tryz.prog 143 _ ReflectliteValue.set Tryz.func143 (by kernel_rfl) (by kernel_rfl) (by kernel_rfl) (by kernel_rfl)
 have tO := rlTypeOfE
 have mA := rlMethodAssignableTo
 have a25 := rlAssignableE
 have v25 := rlValueOfE
 have f6 := rlValueOfP
 have f7 := rlTypeP
 have mK := rlMethodKind
 have mE := rlMethodElem
 have mI := rlMethodImplements
 have k27 := rlKindP
 have k25 := rlKindE
 have e27 := rlElemP
 have i25 := rlImplementsE
 have n8 := rlIsNilP ⟨w.heap.size, 0, none⟩ t ((w.alloc (.cells #[.pointer (some t)] 110)).alloc (.cells #[.pointer (some ⟨11, 110, none⟩), .pointer (some ⟨w.heap.size, 0, none⟩), .int .u64 150] 161)) (by simp)
 have hlt : 1 < w.heap.size := Laid.lt hg
 have hg2 : ((w.alloc (.cells #[.pointer (some t)] 110)).alloc (.cells #[.pointer (some ⟨11, 110, none⟩), .pointer (some ⟨w.heap.size, 0, none⟩), .int .u64 150] 161)).cell? ⟨1, 0, none⟩ = some (.iface 199 (.agg #[.pointer (some ⟨11, 24, none⟩)])) := by
  rw [World.cell?_alloc_lt _ _ ⟨1, 0, none⟩ (Nat.lt_of_lt_of_le hlt (by simp)), World.cell?_alloc_lt _ _ ⟨1, 0, none⟩ hlt]; exact hg
 have htl : t.block < w.heap.size := by
  rcases Nat.lt_or_ge t.block w.heap.size with h | h
  ·exact h
  ·simp [World.cell?, Array.getElem?_eq_none h] at ht0
 have el := rlElemV ⟨w.heap.size, 0, none⟩ t (((w.alloc (.cells #[.pointer (some t)] 110)).alloc (.cells #[.pointer (some ⟨11, 110, none⟩), .pointer (some ⟨w.heap.size, 0, none⟩), .int .u64 150] 161)).alloc (.cells #[.pointer (some ⟨11, 110, none⟩), .pointer (some ⟨w.heap.size, 0, none⟩), .int .u64 150] 161)) (by rw [World.cell?_alloc_lt _ _ ⟨w.heap.size, 0, none⟩ (by simp; omega)]; simp)
 have st := rlSetE t ⟨w.heap.size + 1 + 1 + 1, 0, none⟩ n old ((((w.alloc (.cells #[.pointer (some t)] 110)).alloc (.cells #[.pointer (some ⟨11, 110, none⟩), .pointer (some ⟨w.heap.size, 0, none⟩), .int .u64 150] 161)).alloc (.cells #[.pointer (some ⟨11, 110, none⟩), .pointer (some ⟨w.heap.size, 0, none⟩), .int .u64 150] 161)).alloc (.cells #[.int .i64 n] 64))
  (by rw [World.cell?_alloc_at _ _ _ _ (by simp)]; rfl)
  (by rw [World.cell?_alloc_lt _ _ t (by simp; omega), World.cell?_alloc_lt _ _ t (by simp; omega), World.cell?_alloc_lt _ _ t (by simp; omega), World.cell?_alloc_lt _ _ t htl]; exact ht0)
  (by rw [World.frozen?_alloc_old _ _ t (by simp; omega), World.frozen?_alloc_old _ _ t (by simp; omega), World.frozen?_alloc_old _ _ t (by simp; omega), World.frozen?_alloc_old _ _ t (Nat.ne_of_lt htl)]; exact hf0)
 go_enter Tryz.func64, Tryz.ntmps64
 go_wp2
 refine wp_loop_rounds 1 ?_
 rw [rounds_succ]
 go_wp2
 go_ret
 exact ⟨rfl, rfl⟩
theorem told_nil (w : World) : Calls Tryz.prog 32 #[.nilIface] w (Sk w (.int .i64 0)) := by
 go_enter Tryz.func32, Tryz.ntmps32
 go_wp2
 go_ret
 exact ⟨rfl, rfl⟩
set_option maxHeartbeats 1000000 in
theorem told_err (n : Int) (w : World) (hg : Laid w) : Calls Tryz.prog 32 #[.iface 64 (.int .i64 n)] w (Bk w (.int .i64 n)) := by
 have hgA : (w.alloc (.cells #[.int .i64 0] 64)).cell? ⟨1, 0, none⟩ = some (.iface 199 (.agg #[.pointer (some ⟨11, 24, none⟩)])) := by
  rw [World.cell?_alloc_lt _ _ ⟨1, 0, none⟩ hg.lt]; exact hg
 have htA : (w.alloc (.cells #[.int .i64 0] 64)).cell? ⟨w.heap.size, 0, none⟩ = some (.int .i64 0) := by simp
 have hfA : (w.alloc (.cells #[.int .i64 0] 64)).frozen? ⟨w.heap.size, 0, none⟩ = false := by simp
 clear hg
 go_enter Tryz.func32, Tryz.ntmps32
 go_wp2_with (go_at_call 64; refine (as_hit _ _ _ _ hgA htA hfA).mono ?_; rintro e w' ⟨rfl, rfl⟩)
 go_ret
 refine ⟨rfl, ?_⟩
 exact ((((((Below.refl _ _).alloc (Nat.le_refl _) _).alloc (by simp) _).alloc (by simp; omega) _).alloc (by simp; omega) _).alloc (by simp; omega) _)
theorem same_nil (n : Int) (w : World) : Calls Tryz.prog 10 #[.nilIface, .int .i64 n] w (Sk w (.bool (0 == n))) := by
 go_enter Tryz.func10, Tryz.ntmps10
 go_wp2_with (go_at_call 32; refine (told_nil _).mono ?_; rintro e w' ⟨rfl, rfl⟩)
 go_ret
 exact ⟨rfl, rfl⟩
theorem same_err (m n : Int) (w : World) (hg : Laid w) : Calls Tryz.prog 10 #[.iface 64 (.int .i64 m), .int .i64 n] w (Bk w (.bool (m == n))) := by
 have HG := hide hg
 clear hg
 go_enter Tryz.func10, Tryz.ntmps10
 go_wp2_with (go_at_call 32; refine (told_err _ _ HG.out).mono ?_; rintro e w' ⟨rfl, hb⟩)
 go_ret
 exact ⟨rfl, hb⟩
end Go.Proofs.YtjmeakkmfeoigaaGreatDoor
namespace Go.Proofs.YtjmeakkmfeoigaaGreatDoor
open Go.ChangeShapes Go.WideShapes Go.ChangeAt Go.RowKit
theorem merr_any (n : Int) (w : World) (hg : Laid w) : Calls Tryz.prog 10 #[errV n, .int .i64 n] w (Bk w (.bool true)) := by
 by_cases h : n = 0
 ·subst h
  exact (same_nil 0 w).mono fun _ _ h => ⟨h.1, by rw [← h.2]; exact Below.refl _ _⟩
 ·rw [errV_no h]
  have := same_err n n w hg
  rw [beq_self_eq_true] at this; exact this
end Go.Proofs.YtjmeakkmfeoigaaGreatDoor