/-
  Proved: what the reference's Rows returns, of any rows, and its Fits, of right rows and right counts; what was in memory is as it was (contracts that the statements lean on).
-/
import Derived.Test.YtedgbohobgnedadDoorRowsAny
namespace Go.Proofs.YtedgbohobgnedadDoor
open Go.ChangeShapes Go.WideShapes Go.ChangeAt Go.RowKit
set_option maxRecDepth 100000

/-- a cell of a row's times. -/
theorem RowAt.time {w : World} {b off : Nat} {r : Rw} (h : RowAt w b off r) {f : Nat} (hf : f < 8) : w.cell? ⟨b, off + f, none⟩ = some (.int .i64 (r.t f)) := by
  obtain ⟨h0, h1, h2, h3, h4, h5, h6, h7, _⟩ := h
  rcases eight hf with rfl | rfl | rfl | rfl | rfl | rfl | rfl | rfl <;> assumption
theorem RowAt.most {w : World} {b off : Nat} {r : Rw} (h : RowAt w b off r) : w.cell? ⟨b, off + 8, none⟩ = some (.int .i64 r.m) := by
  obtain ⟨_, _, _, _, _, _, _, _, h8⟩ := h
  exact h8

set_option maxHeartbeats 4000000 in
theorem refRows_mid (n b off cap : Nat) (us : Nat → Rw) (F : Int) (w : World) (h12 : n ≤ 12) (hc : ∀ k, k < n → RowAt w b (off + k * 9) (us k))
    (hF1 : ∀ k, k < n → (us k).wrong = true → F = 1) (hF0 : (∀ k, k < n → (us k).wrong = false) → F = 0) :
    Calls Tryd.prog 12 #[.slice (some ⟨b, off, none⟩) n cap] w fun e w' => e = .returned (.int .i64 F) ∧ w = w' := by
  have HC : Hid (∀ k, k < n → RowAt w b (off + k * 9) (us k)) := hc
  have HF1 : Hid (∀ k, k < n → (us k).wrong = true → F = 1) := hF1
  have HF0 : Hid ((∀ k, k < n → (us k).wrong = false) → F = 0) := hF0
  clear hc hF1 hF0
  go_enter Tryd.func12, Tryd.ntmps12
  go_wp2
  go_loop [3] (fun i => ∃ k : Nat, k ≤ n ∧ i = .int .i64 k ∧ Hid (∀ j, j < k → (us j).wrong = false)) (fun i => n - (intOf i).toNat)
  case atStart => exact ⟨0, Nat.zero_le _, rfl, fun j hj => by omega⟩
  case round =>
    obtain ⟨k, hk, rfl, HA⟩ := hrel
    by_cases hlt : k < n
    · have HR : Hid (RowAt w b (off + k * 9) (us k)) := HC.out k hlt
      have HW1 : Hid ((us k).wrong = true → F = 1) := HF1.out k hlt
      obtain ⟨r, hr⟩ : ∃ r, r = us k := ⟨_, rfl⟩
      rw [← hr] at HR HW1
      have HRk : Hid (r = us k) := hr
      clear hr
      go_wp2
      go_loop [4] (fun i => ∃ f : Nat, f ≤ 8 ∧ i = .int .i64 f ∧ Hid (∀ g, g < f → -2 ≤ r.t g ∧ r.t g ≤ 2)) (fun i => 8 - (intOf i).toNat)
      case atStart => exact ⟨0, Nat.zero_le _, rfl, fun j hj => by omega⟩
      case round =>
        obtain ⟨f, hf, rfl, HT⟩ := hrel
        by_cases hlt2 : f < 8
        · have c := HR.out.time hlt2
          have HX1 : Hid (¬ (-2 ≤ r.t f ∧ r.t f ≤ 2) → F = 1) := fun h => HW1.out (wrong_time hlt2 h)
          have HX2 : Hid ((-2 ≤ r.t f ∧ r.t f ≤ 2) → ∀ g, g < f + 1 → -2 ≤ r.t g ∧ r.t g ≤ 2) := fun h g hg => by
            rcases Nat.lt_or_ge g f with h' | h'
            · exact HT.out g h'
            · obtain rfl : g = f := by omega
              exact h
          obtain ⟨x, hx⟩ : ∃ x, x = r.t f := ⟨_, rfl⟩
          rw [← hx] at c HX1 HX2
          clear hx
          by_cases h0 : x < -2
          · have HE : Hid (F = 1) := HX1.out (by omega)
            go_wp2
            go_ret
            exact ⟨back_i HE.out.symm, rfl⟩
          by_cases h2 : 2 < x
          · have HE : Hid (F = 1) := HX1.out (by omega)
            go_wp2
            go_ret
            exact ⟨back_i HE.out.symm, rfl⟩
          · have HE : Hid (∀ g, g < f + 1 → -2 ≤ r.t g ∧ r.t g ≤ 2) := HX2.out (by omega)
            go_wp2
            go_round
            case rel => exact ⟨f + 1, by omega, by go_num, HE.out⟩
            case measure => simp [intOf]; omega
        · obtain rfl : f = 8 := by omega
          have c := HR.out.most
          have HX1 : Hid (¬ (-100 ≤ r.m ∧ r.m ≤ 100) → F = 1) := fun h => HW1.out (wrong_most h)
          have HX2 : Hid ((-100 ≤ r.m ∧ r.m ≤ 100) → ∀ j, j < k + 1 → (us j).wrong = false) := fun h j hj => by
            rcases Nat.lt_or_ge j k with h' | h'
            · exact HA.out j h'
            · obtain rfl : j = k := by omega
              rw [← HRk.out]; exact right_iff.2 ⟨HT.out, h⟩
          obtain ⟨x, hx⟩ : ∃ x, x = r.m := ⟨_, rfl⟩
          rw [← hx] at c HX1 HX2
          clear hx
          by_cases h0 : x < -100
          · have HE : Hid (F = 1) := HX1.out (by omega)
            go_wp2
            go_ret
            exact ⟨back_i HE.out.symm, rfl⟩
          by_cases h2 : 100 < x
          · have HE : Hid (F = 1) := HX1.out (by omega)
            go_wp2
            go_ret
            exact ⟨back_i HE.out.symm, rfl⟩
          · have HE : Hid (∀ j, j < k + 1 → (us j).wrong = false) := HX2.out (by omega)
            go_wp2
            go_round
            case rel => exact ⟨k + 1, by omega, by go_num, HE⟩
            case measure => simp [intOf]; omega
    · obtain rfl : k = n := by omega
      have HE : Hid (F = 0) := HF0.out HA.out
      go_wp2
      go_ret
      exact ⟨back_i HE.out.symm, rfl⟩
theorem refRows_none (ao : Option Addr) (cap : Nat) (w : World) : Calls Tryd.prog 12 #[.slice ao 0 cap] w fun e w' => e = .returned (.int .i64 0) ∧ w = w' := by
  go_enter Tryd.func12, Tryd.ntmps12
  go_wp2
  go_loop [3] (fun i => i = .int .i64 0) (fun _ => 0)
  case atStart => rfl
  case round =>
    obtain rfl := hrel
    go_wp2
    go_ret
    exact ⟨rfl, rfl⟩
theorem refRows_full (n : Nat) (ao : Option Addr) (cap : Nat) (w : World) (h12 : 12 < n) (hl : n ≤ 9223372036854775807) : Calls Tryd.prog 12 #[.slice ao n cap] w fun e w' => e = .returned (.int .i64 4) ∧ w = w' := by
  go_enter Tryd.func12, Tryd.ntmps12
  go_wp2
  go_ret
  exact ⟨rfl, rfl⟩
theorem refRows_any (l : List Rw) (v : Value) (w : World) (h : ReadsR w v l) : Calls Tryd.prog 12 #[v] w fun e w' => e = .returned (.int .i64 (rowsFault l)) ∧ w = w' := by
  rcases h with ⟨ao, cap, rfl, rfl⟩ | ⟨b, off, cap, rfl, hB, h0, ⟨hl, _⟩, hc⟩
  · exact refRows_none ao cap w
  · by_cases h12 : 12 < l.length
    · have e : rowsFault l = 4 := by unfold rowsFault; rw [if_pos h12]
      rw [e]
      exact refRows_full _ _ cap w h12 hl
    · refine refRows_mid l.length b off cap (fun k => l.getD k ⟨fun _ => 0, 0⟩) _ w (by omega) (fun k hk => ?_) (fun k hk hw => ?_) fun hall => ?_
      · rw [getD_row hk]; exact hc k _ (List.getElem?_eq_getElem hk)
      · rw [getD_row hk] at hw
        have : l.any Rw.wrong = true := List.any_eq_true.2 ⟨l[k], List.getElem_mem hk, hw⟩
        unfold rowsFault
        rw [if_neg h12, if_pos this]
      · have : l.any Rw.wrong = false := by
          rw [List.any_eq_false]
          intro r hr
          obtain ⟨k, hk, rfl⟩ := List.getElem_of_mem hr
          have := hall k hk
          rw [getD_row hk] at this
          rw [this]; decide
        unfold rowsFault
        rw [if_neg h12, this]
        rfl

set_option maxHeartbeats 4000000 in
theorem refFits_mid (n b off cap : Nat) (us : Nat → Rw) (N : Nat → Int) (R : Bool) (w : World) (h12 : n ≤ 12) (hB : b < w.heap.size) (hc : ∀ k, k < n → RowAt w b (off + k * 9) (us k)) (hr : ∀ k, k < n → ∀ f, f < 8 → -2 ≤ (us k).t f ∧ (us k).t f ≤ 2) (hN : ∀ f, f < 8 → 0 ≤ N f ∧ N f ≤ 6)
    (hR0 : ∀ k, k < n → (us k).so N = false → R = false) (hR1 : (∀ k, k < n → (us k).so N = true) → R = true) :
    Calls Tryd.prog 14 #[.slice (some ⟨b, off, none⟩) n cap, .agg #[.int .i64 (N 0), .int .i64 (N 1), .int .i64 (N 2), .int .i64 (N 3), .int .i64 (N 4), .int .i64 (N 5), .int .i64 (N 6), .int .i64 (N 7)]] w fun e w' => e = .returned (.bool R) ∧ Below w.heap.size w w' := by
  obtain ⟨w1, hw1⟩ : ∃ w1, w1 = w.alloc (.cells #[.int .i64 (N 0), .int .i64 (N 1), .int .i64 (N 2), .int .i64 (N 3), .int .i64 (N 4), .int .i64 (N 5), .int .i64 (N 6), .int .i64 (N 7)] 26) := ⟨_, rfl⟩
  have HW : Hid (Below w.heap.size w w1) := by unfold Hid; rw [hw1]; exact below_alloc1 _ _
  have HK : Hid (Blk w1 w.heap.size 26 (arr8 N)) := by unfold Hid; rw [hw1]; exact Blk.new _ _ _
  have HC : Hid (∀ W k, Below w1.heap.size w1 W → k < n → RowAt W b (off + k * 9) (us k)) := fun W k hW hk => (hc k hk).below hB (HW.out.trans (hW.mono HW.out.size))
  have HKW : Hid (∀ W f, Below w1.heap.size w1 W → f < 8 → W.cell? ⟨w.heap.size, f, none⟩ = some (.int .i64 (N f))) := fun W f hW hf => by rw [(HK.out.below hW).cell, arr8_get _ hf]
  have HT : Hid (∀ k, k < n → ∀ f, f < 8 → -2 ≤ (us k).t f ∧ (us k).t f ≤ 2) := hr
  have HN : Hid (∀ f, f < 8 → 0 ≤ N f ∧ N f ≤ 6) := hN
  have HR0 : Hid (∀ k, k < n → (us k).so N = false → R = false) := hR0
  have HR1 : Hid ((∀ k, k < n → (us k).so N = true) → R = true) := hR1
  clear hc hr hN hR0 hR1 hB
  go_enter Tryd.func14, Tryd.ntmps14
  go_wp2
  rw [← hw1]
  clear hw1
  go_loopw [5] (fun i wr => ∃ k : Nat, k ≤ n ∧ i = .int .i64 k ∧ Below w1.heap.size w1 wr ∧ Hid (∀ j, j < k → (us j).so N = true)) (fun i _ => n - (intOf i).toNat)
  case atStart => exact ⟨0, Nat.zero_le _, rfl, Below.refl _ _, fun j hj => by omega⟩
  case round =>
    obtain ⟨k, hk, rfl, hb, HA⟩ := hrel
    have HB1 : Hid (Below w1.heap.size w1 wr) := hb
    clear hb
    by_cases hlt : k < n
    · have HX1 : Hid ((us k).so N = false → R = false) := HR0.out k hlt
      have HCk : Hid (∀ W, Below w1.heap.size w1 W → RowAt W b (off + k * 9) (us k)) := fun W hW => HC.out W k hW hlt
      have HTk : Hid (∀ f, f < 8 → -2 ≤ (us k).t f ∧ (us k).t f ≤ 2) := HT.out k hlt
      have HX2 : Hid ((us k).so N = true → ∀ j, j < k + 1 → (us j).so N = true) := fun h j hj => by
        rcases Nat.lt_or_ge j k with h' | h'
        · exact HA.out j h'
        · obtain rfl : j = k := by omega
          exact h
      obtain ⟨r, hr⟩ : ∃ r, r = us k := ⟨_, rfl⟩
      rw [← hr] at HX1 HCk HTk HX2
      clear hr
      go_wp2
      go_loopw [6, 7] (fun s i wr => ∃ f : Nat, f ≤ 8 ∧ i = .int .i64 f ∧ s = .int .i64 (sumT r.t N f) ∧ Below w1.heap.size w1 wr) (fun _ i _ => 8 - (intOf i).toNat)
      case atStart => exact ⟨0, Nat.zero_le _, rfl, rfl, HB1.out⟩
      case round =>
        obtain ⟨f, hf, rfl, rfl, hb⟩ := hrel
        have HB2 : Hid (Below w1.heap.size w1 wr) := hb
        clear hb
        by_cases hlt2 : f < 8
        · have c := (HCk.out _ HB2.out).time hlt2
          have d := HKW.out _ _ HB2.out hlt2
          have p1 := sumT_le (T := r.t) (N := N) (k := f) (fun g hg => HTk.out g (by omega)) fun g hg => HN.out g (by omega)
          have p2 := mul_le (HTk.out f hlt2) (HN.out f hlt2)
          have HS : Hid (sumT r.t N (f + 1) = sumT r.t N f + r.t f * N f) := rfl
          obtain ⟨x, hx⟩ : ∃ x, x = r.t f := ⟨_, rfl⟩
          obtain ⟨y, hy⟩ : ∃ y, y = N f := ⟨_, rfl⟩
          rw [← hx] at c p2 HS
          rw [← hy] at d p2 HS
          clear hx hy
          go_wp2
          go_region
          go_wp2
          go_roundw
          case rel => exact ⟨f + 1, by omega, by go_num, by rw [HS.out], HB2.out.drew⟩
          case measure => simp [intOf]; omega
        · obtain rfl : f = 8 := by omega
          have c := (HCk.out _ HB2.out).most
          have HY1 : Hid (¬ sumT r.t N 8 ≤ r.m → R = false) := fun h => HX1.out (by unfold Rw.so; exact decide_eq_false h)
          have HY2 : Hid (sumT r.t N 8 ≤ r.m → ∀ j, j < k + 1 → (us j).so N = true) := fun h => HX2.out (by unfold Rw.so; exact decide_eq_true h)
          obtain ⟨x, hx⟩ : ∃ x, x = r.m := ⟨_, rfl⟩
          obtain ⟨y, hy⟩ : ∃ y, y = sumT r.t N 8 := ⟨_, rfl⟩
          rw [← hx] at c HY1 HY2
          rw [← hy] at HY1 HY2 ⊢
          clear hx hy
          by_cases h0 : y ≤ x
          · have HE : Hid (∀ j, j < k + 1 → (us j).so N = true) := HY2.out h0
            have h0' : ¬ (x < y) := by omega
            go_wp2
            go_roundw
            case rel => exact ⟨k + 1, by omega, by go_num, HB2.out, HE⟩
            case measure => simp [intOf]; omega
          · have HE : Hid (R = false) := HY1.out h0
            have h0' : x < y := by omega
            go_wp2
            go_ret
            exact ⟨back_b HE.out.symm, HW.out.trans (HB2.out.mono HW.out.size)⟩
    · obtain rfl : k = n := by omega
      have HE : Hid (R = true) := HR1.out HA.out
      go_wp2
      go_ret
      exact ⟨back_b HE.out.symm, HW.out.trans (HB1.out.mono HW.out.size)⟩
theorem refFits_none (ao : Option Addr) (cap : Nat) (N : Nat → Int) (w : World) : Calls Tryd.prog 14 #[.slice ao 0 cap, .agg #[.int .i64 (N 0), .int .i64 (N 1), .int .i64 (N 2), .int .i64 (N 3), .int .i64 (N 4), .int .i64 (N 5), .int .i64 (N 6), .int .i64 (N 7)]] w fun e w' => e = .returned (.bool true) ∧ Below w.heap.size w w' := by
  have HW : Hid (Below w.heap.size w (w.alloc (.cells #[.int .i64 (N 0), .int .i64 (N 1), .int .i64 (N 2), .int .i64 (N 3), .int .i64 (N 4), .int .i64 (N 5), .int .i64 (N 6), .int .i64 (N 7)] 26))) := below_alloc1 _ _
  go_enter Tryd.func14, Tryd.ntmps14
  go_wp2
  go_loop [5] (fun i => i = .int .i64 0) (fun _ => 0)
  case atStart => rfl
  case round =>
    obtain rfl := hrel
    go_wp2
    go_ret
    exact ⟨rfl, HW.out⟩
/-- the reference's Fits, of right rows and right counts. -/
theorem refFits_right (l : List Rw) (v : Value) (N : Nat → Int) (w : World) (h : ReadsR w v l) (hf : fitsFault l N = 0) :
    Calls Tryd.prog 14 #[v, .agg #[.int .i64 (N 0), .int .i64 (N 1), .int .i64 (N 2), .int .i64 (N 3), .int .i64 (N 4), .int .i64 (N 5), .int .i64 (N 6), .int .i64 (N 7)]] w fun e w' => e = .returned (.bool (fitsIs l N)) ∧ Below w.heap.size w w' := by
  have e : fitsIs l N = l.all fun r => r.so N := by unfold fitsIs; rw [if_pos hf]
  rw [e]
  have hr : rowsFault l = 0 := by
    by_cases h0 : rowsFault l = 0
    · exact h0
    · unfold fitsFault at hf; rw [if_neg h0] at hf; exact hf
  have hn : countsFault N = 0 := by unfold fitsFault at hf; rw [if_pos hr] at hf; exact hf
  have h12 : ¬ 12 < l.length := fun h' => by unfold rowsFault at hr; rw [if_pos h'] at hr; cases hr
  have hw : l.any Rw.wrong = false := by
    rcases (Bool.eq_false_or_eq_true (l.any Rw.wrong)).symm with q | q
    · exact q
    · unfold rowsFault at hr; rw [if_neg h12, if_pos q] at hr; cases hr
  rcases h with ⟨ao, cap, rfl, rfl⟩ | ⟨b, off, cap, rfl, hB, h0, ⟨hl, _⟩, hc⟩
  · exact refFits_none ao cap N w
  · refine refFits_mid l.length b off cap (fun k => l.getD k ⟨fun _ => 0, 0⟩) N _ w (by omega) hB (fun k hk => ?_) (fun k hk => ?_) (counts_zero.1 hn).1 (fun k hk hso => ?_) fun hall => ?_
    · rw [getD_row hk]; exact hc k _ (List.getElem?_eq_getElem hk)
    · rw [getD_row hk]
      have := List.any_eq_false.1 hw l[k] (List.getElem_mem hk)
      exact (right_iff.1 (by simpa using this)).1
    · rw [getD_row hk] at hso
      rw [List.all_eq_false]
      exact ⟨l[k], List.getElem_mem hk, by rw [hso]; decide⟩
    · rw [List.all_eq_true]
      intro r hr
      obtain ⟨k, hk, rfl⟩ := List.getElem_of_mem hr
      have := hall k hk
      rw [getD_row hk] at this
      exact this
end Go.Proofs.YtedgbohobgnedadDoor
