/-
  Proved: what the reference's Value returns, of a right term and a right world; what was in memory is as it was (contracts that the statements lean on).
-/
import Derived.Test.YtgkgbpbohgklhafDoorTermInOne
import Derived.Test.YtgkgbpbohgklhafDoorRef
namespace Go.Proofs.YtgkgbpbohgklhafDoor
open Go.ChangeShapes Go.WideShapes Go.ChangeAt Go.RowKit
set_option maxRecDepth 100000

set_option maxRecDepth 100000 in
set_option maxHeartbeats 4000000 in
theorem refValue_any (t : List Int) (hf : faultN t = 0) (u a b c : Int) (hok : (Wd.mk u a b c).ok = true) (B off cap : Nat) (hcap : t.length ≤ cap) (w : World) (hL : Lies w B off t) :
    Calls Tryd.prog 68 #[.slice (some ⟨B, off, none⟩) t.length cap, .agg #[.int .i64 u, .int .i64 a, .int .i64 b, .int .i64 c]] w fun e w' => e = .returned (.int .i64 ((Wd.mk u a b c).val t)) ∧ Below w.heap.size w w' := by
  have hv := ok_val hok t
  simp only at hv
  obtain ⟨hu0, hu6, _, _⟩ := okB_lt hv
  have HS : Hid (sumTo ((Wd.mk u a b c).val t) u.toNat = (Wd.mk u a b c).val t) := sumTo_all hv
  have HIn : Hid (∀ i : Nat, (i : Int) < u → ∀ W, Below w.heap.size w W → Calls Tryd.prog 38 #[.slice (some ⟨B, off, none⟩) t.length cap, .agg #[.int .i64 u, .int .i64 a, .int .i64 b, .int .i64 c], .int .i64 i] W fun e w' => e = .returned (.bool (hasB ((Wd.mk u a b c).val t) i)) ∧ Below W.heap.size W w') := fun i hi W hb => In_any t hf i u a b c hok hi B off cap hcap W (hL.below hb)
  obtain ⟨V, hV⟩ : ∃ V, V = (Wd.mk u a b c).val t := ⟨_, rfl⟩
  rw [← hV] at HS HIn ⊢
  obtain ⟨n, hn⟩ : ∃ n, n = t.length := ⟨_, rfl⟩
  rw [← hn] at HIn ⊢
  clear hV hn hv hL hcap hok hf
  obtain ⟨U, rfl⟩ := Int.eq_ofNat_of_zero_le hu0
  rw [Int.toNat_natCast] at HS
  clear hu0
  obtain ⟨w1, hw1⟩ : ∃ w1, w1 = w.alloc (.cells #[.int .i64 (U : Int), .int .i64 a, .int .i64 b, .int .i64 c] 28) := ⟨_, rfl⟩
  have HX : Hid (∀ W, Below w1.heap.size w1 W → W.cell? ⟨w.heap.size, 0, none⟩ = some (.int .i64 (U : Int)) ∧ W.cell? ⟨w.heap.size, 1, none⟩ = some (.int .i64 a) ∧ W.cell? ⟨w.heap.size, 2, none⟩ = some (.int .i64 b) ∧ W.cell? ⟨w.heap.size, 3, none⟩ = some (.int .i64 c)) := fun W hc => by
    have hlt : w.heap.size < w1.heap.size := by rw [hw1]; simp
    rw [hc.cell (p := ⟨w.heap.size, 0, none⟩) hlt, hc.cell (p := ⟨w.heap.size, 1, none⟩) hlt, hc.cell (p := ⟨w.heap.size, 2, none⟩) hlt, hc.cell (p := ⟨w.heap.size, 3, none⟩) hlt, hw1]
    simp
  have HW : Hid (Below w.heap.size w w1 ∧ w.heap.size ≤ w1.heap.size) := by
    refine ⟨?_, ?_⟩
    · rw [hw1]; exact below_alloc1 _ _
    · rw [hw1]; simp
  go_enter Tryd.func68, Tryd.ntmps68
  go_wp2
  rw [← hw1]
  clear hw1
  go_loopw [5, 6] (fun s i wr => ∃ k : Nat, k ≤ U ∧ i = .int .i64 k ∧ s = .int .i64 (sumTo V k) ∧ Below w1.heap.size w1 wr) (fun _ i _ => U - (intOf i).toNat)
  case atStart => exact ⟨0, Nat.zero_le _, rfl, rfl, Below.refl _ _⟩
  case round =>
    obtain ⟨k, hk, rfl, rfl, hbel⟩ := hrel
    obtain ⟨x0, x1, x2, x3⟩ := HX.out _ hbel
    have HB : Hid (Below w1.heap.size w1 wr) := hbel
    have HB0 : Hid (Below w.heap.size w wr) := HW.out.1.trans (hbel.mono HW.out.2)
    clear hbel
    have p1 := sumTo_le V k
    by_cases hlt : k < U
    · have p2 := pw_le6 (k := k) (by omega)
      have p3 := pw_pos k
      have HI := HIn.out k (by omega) wr HB0.out
      have HI' : Hid (Calls Tryd.prog 38 #[.slice (some ⟨B, off, none⟩) n cap, .agg #[.int .i64 (U : Int), .int .i64 a, .int .i64 b, .int .i64 c], .int .i64 k] wr fun e w' => e = .returned (.bool (hasB V k)) ∧ Below wr.heap.size wr w') := HI
      clear HI
      have HT : Hid (sumTo V (k + 1) = sumTo V k + if hasB V k = true then pw k else 0) := rfl
      cases hx : hasB V k
      · rw [hx] at HI'
        have HE : Hid (sumTo V (k + 1) = sumTo V k) := by unfold Hid; rw [HT.out, hx]; simp
        clear hx HT
        go_wp2_with (go_at_call 38; refine HI'.out.mono ?_; rintro e w2 ⟨rfl, hb⟩)
        go_roundw
        case rel => exact ⟨k + 1, by omega, by go_num, by rw [HE.out], HB.out.trans (hb.mono HB.out.size)⟩
        case measure => simp [intOf]; omega
      · rw [hx] at HI'
        have HE : Hid (sumTo V (k + 1) = sumTo V k + pw k) := by unfold Hid; rw [HT.out, hx]; simp
        clear hx HT
        go_wp2_with (first | (go_at_call 38; refine HI'.out.mono ?_; rintro e w2 ⟨rfl, hb⟩) | (go_at_call 29; refine (refPower_any _ ?_ _).mono ?_; omega; rintro e w' ⟨rfl, rfl⟩))
        go_roundw
        case rel => exact ⟨k + 1, by omega, by go_num, by rw [HE.out], HB.out.trans (hb.mono HB.out.size)⟩
        case measure => simp [intOf]; omega
    · obtain rfl : k = U := by omega
      go_wp2
      go_ret
      exact ⟨back_i HS.out, HB0.out⟩
end Go.Proofs.YtgkgbpbohgklhafDoor
