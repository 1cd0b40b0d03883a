/-
  Proved: vennsame.Ints of two lists that read as the same numbers returns true; what was in memory is as it was (a contract that the statements lean on).
  Proved: vennsame.Atom of two atoms that read as the same returns true; what was in memory is as it was (a contract that the statements lean on).
  Proved: what math/bits.OnesCount returns, of a number of at most six bits, and that it leaves memory as it was (a contract that the statements lean on).
  Proved: what atom.says and atom.Holds return, of any atom and any world; what was in memory is as it was (contracts that the statements lean on).
  Plain facts on atoms as texts (chapter 3): a text that reads as an atom is the text of it; the text of an atom reads as it was; what is the same is part both ways. No program is read here.
  Proved: what sets.Size returns, of any numbers, and that it leaves memory as it was (a contract that the statements lean on).
  Proved: what Parse, Print and Holds of package atom return where vennlaw1.AtomBack calls them (contracts that its walk leans on).
-/
import Derived.Test.YtenmheenieifpabGreatDoorTermMade
import Derived.Test.YtenmheenieifpabGreatDoorAtomCheck
import Derived.Test.YtenmheenieifpabGreatDoorSetsDo
import Derived.Test.YtenmheenieifpabGreatDoorTermValue
import Derived.Test.YtenmheenieifpabGreatDoorAtomBackMath
import Derived.Test.YtenmheenieifpabGreatDoorAtomParse
import Derived.Test.YtenmheenieifpabGreatDoorAtomTellsPart3
import Derived.Test.YtenmheenieifpabGreatDoorAtomTellsPart4
namespace Go.Proofs.YtenmheenieifpabGreatDoor
open Go.ChangeShapes Go.WideShapes Go.ChangeAt Go.RowKit

set_option maxRecDepth 100000 in
set_option maxHeartbeats 1000000 in
theorem ints_same (t : List Int) (v v' : Value) (w : World) (h : Reads w v t) (h' : Reads w v' t) :
    Calls Tryz.prog 39 #[v, v'] w fun e w' => e = .returned (.bool true) ∧ Below w.heap.size w w' := by
  rcases h with ⟨ao, cap, rfl, rfl⟩ | ⟨b, off, cap, rfl, hB, h0, ⟨hl, _⟩, hc⟩
  · rcases h' with ⟨ao', cap', rfl, _⟩ | ⟨_, _, _, _, _, h0, _⟩
    · go_enter Tryz.func39, Tryz.ntmps39
      go_wp2
      refine wp_loop_rounds 1 ?_
      rw [rounds_succ]
      go_wp2
      go_ret
      exact ⟨rfl, Below.refl _ _⟩
    · simp at h0
  · rcases h' with ⟨_, _, _, rfl⟩ | ⟨b', off', cap', rfl, hB', _, _, hc'⟩
    · simp at h0
    · have HC : Hid (∀ k, k < t.length → w.cell? ⟨b, off + k, none⟩ = some (.int .i64 (t.getD k 0))) := hc
      have HC' : Hid (∀ k, k < t.length → w.cell? ⟨b', off' + k, none⟩ = some (.int .i64 (t.getD k 0))) := hc'
      have HB : Hid (b < w.heap.size ∧ b' < w.heap.size) := ⟨hB, hB'⟩
      clear hc hc' hB hB'
      obtain ⟨n, hn⟩ : ∃ n, n = t.length := ⟨_, rfl⟩
      rw [← hn] at hl h0 ⊢
      have HN : Hid (n = t.length) := hn
      clear hn
      go_enter Tryz.func39, Tryz.ntmps39
      go_wp2
      go_loopw [5] (fun i wr => ∃ k : Nat, k ≤ n ∧ i = .int .i64 k ∧ Below w.heap.size w wr) (fun i _ => n - (intOf i).toNat)
      case atStart => exact ⟨0, Nat.zero_le _, rfl, Below.refl _ _⟩
      case round =>
        obtain ⟨k, hk, rfl, hbel⟩ := hrel
        by_cases hlt : k < n
        · obtain ⟨s, hs⟩ : ∃ s, s = t.getD k 0 := ⟨_, rfl⟩
          have hkt : k < t.length := by rw [← HN.out]; exact hlt
          have c0 : wr.cell? ⟨b, off + k, none⟩ = some (.int .i64 s) := by rw [hs, hbel.cell HB.out.1]; exact HC.out k hkt
          have c1 : wr.cell? ⟨b', off' + k, none⟩ = some (.int .i64 s) := by rw [hs, hbel.cell HB.out.2]; exact HC'.out k hkt
          have HW : Hid (Below w.heap.size w wr) := hbel
          have hlt' : (k : Int) < (n : Int) := by omega
          clear hs hkt hbel
          go_wp2_with fail
          go_quiet (fail)
          go_wp2
          go_roundw
          case rel => exact ⟨k + 1, by omega, by go_num, HW.out.trans ((below_drewNs _ _).mono HW.out.size)⟩
          case measure => simp [intOf]; omega
        · obtain rfl : k = n := by omega
          have HW : Hid (Below w.heap.size w wr) := hbel
          clear hbel
          go_wp2
          go_ret
          exact ⟨rfl, HW.out⟩
end Go.Proofs.YtenmheenieifpabGreatDoor

namespace Go.Proofs.YtenmheenieifpabGreatDoor
open Go.ChangeShapes Go.WideShapes Go.ChangeAt Go.RowKit
set_option maxRecDepth 100000

set_option maxHeartbeats 2000000 in
theorem atom_same (k n : Int) (vs vt us ut : Value) (s t : List Int) (w : World) (hS : Reads w vs s) (hT : Reads w vt t) (hS' : Reads w us s) (hT' : Reads w ut t) :
    Calls Tryz.prog 15 #[.agg #[.int .i64 k, vs, vt, .int .i64 n], .agg #[.int .i64 k, us, ut, .int .i64 n]] w fun e w' => e = .returned (.bool true) ∧ Below w.heap.size w w' := by
  have h1 : ∀ W, Below w.heap.size w W → _ := fun W h => ints_same s vs us W (hS.below h) (hS'.below h)
  have h2 : ∀ W, Below w.heap.size w W → _ := fun W h => ints_same t vt ut W (hT.below h) (hT'.below h)
  obtain ⟨a0, b0, rfl, _⟩ := hS.slice
  obtain ⟨a1, b1, rfl, _⟩ := hT.slice
  obtain ⟨a2, b2, rfl, _⟩ := hS'.slice
  obtain ⟨a3, b3, rfl, _⟩ := hT'.slice
  clear hS hT hS' hT'
  obtain ⟨w1, hw1⟩ : ∃ w1, w1 = (w.alloc (.cells #[.int .i64 k, .slice a0 s.length b0, .slice a1 t.length b1, .int .i64 n] 24)).alloc (.cells #[.int .i64 k, .slice a2 s.length b2, .slice a3 t.length b3, .int .i64 n] 24) := ⟨_, rfl⟩
  have HB1 : Hid (Below w.heap.size w w1) := by unfold Hid; rw [hw1]; exact (below_alloc1 w _).trans ((below_alloc1 _ _).mono (by simp))
  have HX : Hid (w1.cell? ⟨w.heap.size, 2, none⟩ = some (.slice a1 t.length b1) ∧ w1.cell? ⟨w.heap.size + 1, 2, none⟩ = some (.slice a3 t.length b3) ∧ w.heap.size + 1 < w1.heap.size) := by
    unfold Hid; rw [hw1]
    refine ⟨?_, ?_, by simp⟩
    · rw [World.cell?_alloc_lt _ _ ⟨w.heap.size, 2, none⟩ (by simp)]; simp
    · rw [World.cell?_alloc_at _ _ _ _ (by simp)]; rfl
  have H1 : Hid (Calls Tryz.prog 39 #[.slice a0 s.length b0, .slice a2 s.length b2] w1 fun e w' => e = .returned (.bool true) ∧ Below w1.heap.size w1 w') := h1 w1 HB1.out
  have H2 : Hid (∀ W, Below w.heap.size w W → Calls Tryz.prog 39 #[.slice a1 t.length b1, .slice a3 t.length b3] W fun e w' => e = .returned (.bool true) ∧ Below W.heap.size W w') := h2
  clear h1 h2
  go_enter Tryz.func15, Tryz.ntmps15
  go_wp2_with fail
  rw [← hw1]
  clear hw1
  go_at_call 39
  refine H1.out.mono ?_
  rintro e w2 ⟨rfl, hb⟩
  have HB2 : Hid (Below w.heap.size w w2) := HB1.out.trans (hb.mono HB1.out.size)
  have x2 := (hb.cell (p := ⟨w.heap.size, 2, none⟩) (Nat.lt_of_succ_lt HX.out.2.2)).trans HX.out.1
  have y2 := (hb.cell (p := ⟨w.heap.size + 1, 2, none⟩) HX.out.2.2).trans HX.out.2.1
  clear hb
  go_wp2_with fail
  go_at_call 39
  refine (H2.out _ HB2.out).mono ?_
  rintro e w3 ⟨rfl, hb⟩
  have HB3 : Hid (Below w.heap.size w w3) := HB2.out.trans (hb.mono HB2.out.size)
  clear hb
  go_wp2
  go_ret
  exact ⟨rfl, HB3.out⟩
end Go.Proofs.YtenmheenieifpabGreatDoor

namespace Go.Proofs.YtenmheenieifpabGreatDoor
open Go.ChangeShapes Go.WideShapes Go.ChangeAt Go.RowKit

theorem ones64_any (x : Int) (h0 : 0 ≤ x) (h1 : x < 64) (w : World) :
    Calls Tryz.prog 66 #[.int .u64 x] w fun e w' => e = .returned (.int .i64 (pcN x)) ∧ w = w' := by
  go_enter Tryz.func66, Tryz.ntmps66
  go_wp2
  go_ret
  refine ⟨ret_int ?_, rfl⟩
  revert h1 h0
  intro h0 h1
  obtain ⟨n, rfl⟩ := Int.eq_ofNat_of_zero_le h0
  have h : n < 64 := by omega
  clear h0 h1
  revert n
  decide +kernel

theorem ones_any (x : Int) (h0 : 0 ≤ x) (h1 : x < 64) (w : World) :
    Calls Tryz.prog 43 #[.int .u64 x] w fun e w' => e = .returned (.int .i64 (pcN x)) ∧ w = w' := by
  go_enter Tryz.func43, Tryz.ntmps43
  go_wp2_with (go_at_call 66; refine (ones64_any _ h0 h1 _).mono ?_; rintro e w' ⟨rfl, rfl⟩)
  go_ret
  exact ⟨rfl, rfl⟩
end Go.Proofs.YtenmheenieifpabGreatDoor

namespace Go.Proofs.YtenmheenieifpabGreatDoor
open Go.ChangeShapes Go.WideShapes Go.ChangeAt Go.RowKit
set_option maxRecDepth 100000

theorem quiet_ones (x : Int) (h0 : 0 ≤ x) (h1 : x < 64) (W : World) : Calls Tryz.prog 43 #[.int .u64 x] W fun e w' => e = .returned (.int .i64 (pcN x)) ∧ w' = W := (ones_any x h0 h1 W).mono fun _ _ h => And.intro h.1 h.2.symm

set_option maxHeartbeats 1000000 in
theorem says_1 (n x y : Int) (sao tao : Option Addr) (sl scap tl tcap : Nat) (w : World) (x0 : 0 ≤ x) (x1 : x < 64) (y0 : 0 ≤ y) (y1 : y < 64) :
    Calls Tryz.prog 30 #[.agg #[.int .i64 1, .slice sao sl scap, .slice tao tl tcap, .int .i64 n], .int .i64 x, .int .i64 y] w fun e w' => e = .returned (.bool (saysB 1 n x y)) ∧ Below w.heap.size w w' := by
  have HB : Hid (Below w.heap.size w (w.alloc (.cells #[.int .i64 1, .slice sao sl scap, .slice tao tl tcap, .int .i64 n] 24))) := below_alloc1 w _
  have hp := pcN_le x
  have hq := pcN_le y
  have HR : Hid (saysB 1 n x y = (bits .andNot .i64 x y == 0)) := by
    unfold Hid saysB
    rw [less_bits x y x0 x1 y0 y1]; simp; rfl
  obtain ⟨R, hR⟩ : ∃ R, R = saysB 1 n x y := ⟨_, rfl⟩
  rw [← hR] at HR ⊢
  clear hR
  go_enter Tryz.func30, Tryz.ntmps30
  go_wp2_with (go_at_call 43; refine (ones_any _ ?_ ?_ _).mono ?_; omega; omega; rintro e w' ⟨rfl, rfl⟩)
  go_ret
  exact ⟨back_b HR.out.symm, HB.out⟩

set_option maxHeartbeats 1000000 in
theorem says_2 (n x y : Int) (sao tao : Option Addr) (sl scap tl tcap : Nat) (w : World) (x0 : 0 ≤ x) (x1 : x < 64) (y0 : 0 ≤ y) (y1 : y < 64) :
    Calls Tryz.prog 30 #[.agg #[.int .i64 2, .slice sao sl scap, .slice tao tl tcap, .int .i64 n], .int .i64 x, .int .i64 y] w fun e w' => e = .returned (.bool (saysB 2 n x y)) ∧ Below w.heap.size w w' := by
  have HB : Hid (Below w.heap.size w (w.alloc (.cells #[.int .i64 2, .slice sao sl scap, .slice tao tl tcap, .int .i64 n] 24))) := below_alloc1 w _
  have hp := pcN_le x
  have hq := pcN_le y
  have HR : Hid (saysB 2 n x y = (x == y)) := by
    unfold Hid saysB
    simp; rfl
  obtain ⟨R, hR⟩ : ∃ R, R = saysB 2 n x y := ⟨_, rfl⟩
  rw [← hR] at HR ⊢
  clear hR
  go_enter Tryz.func30, Tryz.ntmps30
  go_wp2_with (go_at_call 43; refine (ones_any _ ?_ ?_ _).mono ?_; omega; omega; rintro e w' ⟨rfl, rfl⟩)
  go_ret
  exact ⟨back_b HR.out.symm, HB.out⟩

set_option maxHeartbeats 1000000 in
theorem says_3 (n x y : Int) (sao tao : Option Addr) (sl scap tl tcap : Nat) (w : World) (x0 : 0 ≤ x) (x1 : x < 64) (y0 : 0 ≤ y) (y1 : y < 64) :
    Calls Tryz.prog 30 #[.agg #[.int .i64 3, .slice sao sl scap, .slice tao tl tcap, .int .i64 n], .int .i64 x, .int .i64 y] w fun e w' => e = .returned (.bool (saysB 3 n x y)) ∧ Below w.heap.size w w' := by
  have HB : Hid (Below w.heap.size w (w.alloc (.cells #[.int .i64 3, .slice sao sl scap, .slice tao tl tcap, .int .i64 n] 24))) := below_alloc1 w _
  have hp := pcN_le x
  have hq := pcN_le y
  have HR : Hid (saysB 3 n x y = decide (n ≤ pcN x)) := by
    unfold Hid saysB
    simp
  obtain ⟨R, hR⟩ : ∃ R, R = saysB 3 n x y := ⟨_, rfl⟩
  rw [← hR] at HR ⊢
  clear hR
  go_enter Tryz.func30, Tryz.ntmps30
  go_wp2_with (go_at_call 43; refine (ones_any _ ?_ ?_ _).mono ?_; omega; omega; rintro e w' ⟨rfl, rfl⟩)
  go_ret
  exact ⟨back_b HR.out.symm, HB.out⟩

set_option maxHeartbeats 1000000 in
theorem says_4 (n x y : Int) (sao tao : Option Addr) (sl scap tl tcap : Nat) (w : World) (x0 : 0 ≤ x) (x1 : x < 64) (y0 : 0 ≤ y) (y1 : y < 64) :
    Calls Tryz.prog 30 #[.agg #[.int .i64 4, .slice sao sl scap, .slice tao tl tcap, .int .i64 n], .int .i64 x, .int .i64 y] w fun e w' => e = .returned (.bool (saysB 4 n x y)) ∧ Below w.heap.size w w' := by
  have HB : Hid (Below w.heap.size w (w.alloc (.cells #[.int .i64 4, .slice sao sl scap, .slice tao tl tcap, .int .i64 n] 24))) := below_alloc1 w _
  have hp := pcN_le x
  have hq := pcN_le y
  have HR : Hid (saysB 4 n x y = decide (pcN x ≤ n)) := by
    unfold Hid saysB
    simp
  obtain ⟨R, hR⟩ : ∃ R, R = saysB 4 n x y := ⟨_, rfl⟩
  rw [← hR] at HR ⊢
  clear hR
  go_enter Tryz.func30, Tryz.ntmps30
  go_wp2_with (go_at_call 43; refine (ones_any _ ?_ ?_ _).mono ?_; omega; omega; rintro e w' ⟨rfl, rfl⟩)
  go_ret
  exact ⟨back_b HR.out.symm, HB.out⟩

set_option maxHeartbeats 1000000 in
theorem says_5 (n x y : Int) (sao tao : Option Addr) (sl scap tl tcap : Nat) (w : World) (x0 : 0 ≤ x) (x1 : x < 64) (y0 : 0 ≤ y) (y1 : y < 64) (n0 : -20 ≤ n) (n1 : n ≤ 20) :
    Calls Tryz.prog 30 #[.agg #[.int .i64 5, .slice sao sl scap, .slice tao tl tcap, .int .i64 n], .int .i64 x, .int .i64 y] w fun e w' => e = .returned (.bool (saysB 5 n x y)) ∧ Below w.heap.size w w' := by
  have HB : Hid (Below w.heap.size w (w.alloc (.cells #[.int .i64 5, .slice sao sl scap, .slice tao tl tcap, .int .i64 n] 24))) := below_alloc1 w _
  have hp := pcN_le x
  have hq := pcN_le y
  have HR : Hid (saysB 5 n x y = decide (pcN x ≤ pcN y + n)) := by
    unfold Hid saysB
    simp
  obtain ⟨R, hR⟩ : ∃ R, R = saysB 5 n x y := ⟨_, rfl⟩
  rw [← hR] at HR ⊢
  clear hR
  go_enter Tryz.func30, Tryz.ntmps30
  go_wp2_with (go_at_call 43; refine (ones_any _ ?_ ?_ _).mono ?_; omega; omega; rintro e w' ⟨rfl, rfl⟩)
  go_ret
  exact ⟨back_b HR.out.symm, HB.out⟩


theorem says_any (k n x y : Int) (sao tao : Option Addr) (sl scap tl tcap : Nat) (w : World) (hk : 1 ≤ k ∧ k ≤ 5) (x0 : 0 ≤ x) (x1 : x < 64) (y0 : 0 ≤ y) (y1 : y < 64) (n0 : -20 ≤ n) (n1 : n ≤ 20) :
    Calls Tryz.prog 30 #[.agg #[.int .i64 k, .slice sao sl scap, .slice tao tl tcap, .int .i64 n], .int .i64 x, .int .i64 y] w fun e w' => e = .returned (.bool (saysB k n x y)) ∧ Below w.heap.size w w' := by
  rcases five hk.1 hk.2 with rfl | rfl | rfl | rfl | rfl
  · exact says_1 n x y sao tao sl scap tl tcap w x0 x1 y0 y1
  · exact says_2 n x y sao tao sl scap tl tcap w x0 x1 y0 y1
  · exact says_3 n x y sao tao sl scap tl tcap w x0 x1 y0 y1
  · exact says_4 n x y sao tao sl scap tl tcap w x0 x1 y0 y1
  · exact says_5 n x y sao tao sl scap tl tcap w x0 x1 y0 y1 n0 n1

/-- the two boxes: the atom and the world. -/
def Boxes (w : World) (B : Nat) (k n : Int) (vs vt : Value) (u a b c : Int) : Prop :=
  w.cell? ⟨B, 0, none⟩ = some (.int .i64 k) ∧ w.cell? ⟨B, 1, none⟩ = some vs ∧ w.cell? ⟨B, 2, none⟩ = some vt ∧ w.cell? ⟨B, 3, none⟩ = some (.int .i64 n) ∧ w.cell? ⟨B + 1, 0, none⟩ = some (.int .i64 u) ∧ w.cell? ⟨B + 1, 1, none⟩ = some (.int .i64 a) ∧ w.cell? ⟨B + 1, 2, none⟩ = some (.int .i64 b) ∧ w.cell? ⟨B + 1, 3, none⟩ = some (.int .i64 c)
theorem Boxes.below {w w' : World} {B K : Nat} {k n : Int} {vs vt : Value} {u a b c : Int} (h : Boxes w B k n vs vt u a b c) (hb : Below K w w') (hK : B + 1 < K) : Boxes w' B k n vs vt u a b c := by
  obtain ⟨x0, x1, x2, x3, x4, x5, x6, x7⟩ := h
  have h0 : B < K := by omega
  refine ⟨?_, ?_, ?_, ?_, ?_, ?_, ?_, ?_⟩
  · rw [hb.cell h0]; exact x0
  · rw [hb.cell h0]; exact x1
  · rw [hb.cell h0]; exact x2
  · rw [hb.cell h0]; exact x3
  · rw [hb.cell hK]; exact x4
  · rw [hb.cell hK]; exact x5
  · rw [hb.cell hK]; exact x6
  · rw [hb.cell hK]; exact x7
theorem boxes_alloc (w : World) (k n : Int) (vs vt : Value) (u a b c : Int) : Boxes ((w.alloc (.cells #[.int .i64 k, vs, vt, .int .i64 n] 24)).alloc (.cells #[.int .i64 u, .int .i64 a, .int .i64 b, .int .i64 c] 27)) w.heap.size k n vs vt u a b c := by
  have h : ∀ j, ((w.alloc (.cells #[.int .i64 k, vs, vt, .int .i64 n] 24)).alloc (.cells #[.int .i64 u, .int .i64 a, .int .i64 b, .int .i64 c] 27)).cell? ⟨w.heap.size, j, none⟩ = (w.alloc (.cells #[.int .i64 k, vs, vt, .int .i64 n] 24)).cell? ⟨w.heap.size, j, none⟩ := fun j => World.cell?_alloc_lt _ _ ⟨w.heap.size, j, none⟩ (by simp)
  have e : w.heap.size + 1 = (w.alloc (.cells #[.int .i64 k, vs, vt, .int .i64 n] 24)).heap.size := by simp
  refine ⟨?_, ?_, ?_, ?_, ?_, ?_, ?_, ?_⟩
  · rw [h]; simp
  · rw [h]; simp
  · rw [h]; simp
  · rw [h]; simp
  · rw [e]; simp
  · rw [e]; simp
  · rw [e]; simp
  · rw [e]; simp


theorem holds_bad (k F : Int) (n : Int) (sao tao : Option Addr) (sl scap tl tcap : Nat) (u a b c : Int) (w : World)
    (hC : ∀ W, Below w.heap.size w W → Calls Tryz.prog 7 #[.agg #[.int .i64 k, .slice sao sl scap, .slice tao tl tcap, .int .i64 n]] W fun e w' => e = .returned (.iface 51 (.int .i64 F)) ∧ Below W.heap.size W w') :
    Calls Tryz.prog 12 #[.agg #[.int .i64 k, .slice sao sl scap, .slice tao tl tcap, .int .i64 n], .agg #[.int .i64 u, .int .i64 a, .int .i64 b, .int .i64 c]] w fun e w' => e = .returned (.tuple #[.bool false, (.iface 51 (.int .i64 F))]) ∧ Below w.heap.size w w' := by
  obtain ⟨w1, hw1⟩ : ∃ w1, w1 = (w.alloc (.cells #[.int .i64 k, .slice sao sl scap, .slice tao tl tcap, .int .i64 n] 24)).alloc (.cells #[.int .i64 u, .int .i64 a, .int .i64 b, .int .i64 c] 27) := ⟨_, rfl⟩
  have HB1 : Hid (Below w.heap.size w w1) := by unfold Hid; rw [hw1]; exact (below_alloc1 w _).trans ((below_alloc1 _ _).mono (by simp))
  have HX : Hid (Boxes w1 w.heap.size k n (.slice sao sl scap) (.slice tao tl tcap) u a b c) := by rw [hw1]; exact boxes_alloc w _ _ _ _ _ _ _ _
  have HK1 : Hid (w.heap.size + 1 < w1.heap.size) := by unfold Hid; rw [hw1]; simp
  have HC : Hid (Calls Tryz.prog 7 #[.agg #[.int .i64 k, .slice sao sl scap, .slice tao tl tcap, .int .i64 n]] w1 fun e w' => e = .returned (.iface 51 (.int .i64 F)) ∧ Below w1.heap.size w1 w') := hC w1 HB1.out
  clear hC
  obtain ⟨x0, x1, x2, x3, x4, x5, x6, x7⟩ := HX.out
  go_enter Tryz.func12, Tryz.ntmps12
  go_wp2_with fail
  rw [← hw1]
  clear hw1
  go_wp2_with (go_at_call 7; refine HC.out.mono ?_; rintro e w2 ⟨rfl, hb⟩; have HB2 : Hid (Below w.heap.size w w2) := HB1.out.trans (hb.mono (Nat.le_of_lt (Nat.lt_of_succ_lt HK1.out))); clear hb)
  go_ret2
  exact ⟨rfl, HB2.out⟩


theorem holds_world (k : Int) (n : Int) (sao tao : Option Addr) (sl scap tl tcap : Nat) (u a b c : Int) (w : World)
    (hC : ∀ W, Below w.heap.size w W → (Calls Tryz.prog 7 #[.agg #[.int .i64 k, .slice sao sl scap, .slice tao tl tcap, .int .i64 n]] W fun e w' => e = .returned .nilIface ∧ Below W.heap.size W w'))
    (hV : ∀ W, Below w.heap.size w W → Calls Tryz.prog 16 #[.slice sao sl scap, .agg #[.int .i64 u, .int .i64 a, .int .i64 b, .int .i64 c]] W fun e w' => e = .returned (.tuple #[.int .i64 0, (.iface 51 (.int .i64 1))]) ∧ Below W.heap.size W w') :
    Calls Tryz.prog 12 #[.agg #[.int .i64 k, .slice sao sl scap, .slice tao tl tcap, .int .i64 n], .agg #[.int .i64 u, .int .i64 a, .int .i64 b, .int .i64 c]] w fun e w' => e = .returned (.tuple #[.bool false, (.iface 51 (.int .i64 1))]) ∧ Below w.heap.size w w' := by
  obtain ⟨w1, hw1⟩ : ∃ w1, w1 = (w.alloc (.cells #[.int .i64 k, .slice sao sl scap, .slice tao tl tcap, .int .i64 n] 24)).alloc (.cells #[.int .i64 u, .int .i64 a, .int .i64 b, .int .i64 c] 27) := ⟨_, rfl⟩
  have HB1 : Hid (Below w.heap.size w w1) := by unfold Hid; rw [hw1]; exact (below_alloc1 w _).trans ((below_alloc1 _ _).mono (by simp))
  have HX : Hid (Boxes w1 w.heap.size k n (.slice sao sl scap) (.slice tao tl tcap) u a b c) := by rw [hw1]; exact boxes_alloc w _ _ _ _ _ _ _ _
  have HK1 : Hid (w.heap.size + 1 < w1.heap.size) := by unfold Hid; rw [hw1]; simp
  have HC : Hid (Calls Tryz.prog 7 #[.agg #[.int .i64 k, .slice sao sl scap, .slice tao tl tcap, .int .i64 n]] w1 fun e w' => e = .returned .nilIface ∧ Below w1.heap.size w1 w') := hC w1 HB1.out
  have HV : Hid (∀ W, Below w1.heap.size w1 W → Calls Tryz.prog 16 #[.slice sao sl scap, .agg #[.int .i64 u, .int .i64 a, .int .i64 b, .int .i64 c]] W fun e w' => e = .returned (.tuple #[.int .i64 0, (.iface 51 (.int .i64 1))]) ∧ Below W.heap.size W w') := fun W hW => hV W (HB1.out.trans (hW.mono (Nat.le_of_lt (Nat.lt_of_succ_lt HK1.out))))
  clear hC hV
  obtain ⟨x0, x1, x2, x3, x4, x5, x6, x7⟩ := HX.out
  go_enter Tryz.func12, Tryz.ntmps12
  go_wp2_with fail
  rw [← hw1]
  clear hw1
  go_wp2_with (first | (go_at_call 7; refine HC.out.mono ?_; rintro e w2 ⟨rfl, hb⟩; have HZ2 : Hid (Below w1.heap.size w1 w2) := hb; clear hb x0 x1 x2 x3 x4 x5 x6 x7; obtain ⟨x0, x1, x2, x3, x4, x5, x6, x7⟩ := HX.out.below HZ2.out HK1.out) | (go_at_call 16; refine (HV.out _ HZ2.out).mono ?_; rintro e w3 ⟨rfl, hb⟩; have HZ3 : Hid (Below w1.heap.size w1 w3) := HZ2.out.trans (hb.mono HZ2.out.size); clear hb))
  go_ret2
  exact ⟨rfl, HB1.out.trans (HZ3.out.mono (Nat.le_of_lt (Nat.lt_of_succ_lt HK1.out)))⟩


set_option maxHeartbeats 2000000 in
theorem holds_1 (x y : Int) (n : Int) (sao tao : Option Addr) (sl scap tl tcap : Nat) (u a b c : Int) (w : World) (hK : KindsLaid w) (x0 : 0 ≤ x) (x1 : x < 64) (y0 : 0 ≤ y) (y1 : y < 64) (n0 : -20 ≤ n) (n1 : n ≤ 20)
    (hC : ∀ W, Below w.heap.size w W → (Calls Tryz.prog 7 #[.agg #[.int .i64 1, .slice sao sl scap, .slice tao tl tcap, .int .i64 n]] W fun e w' => e = .returned .nilIface ∧ Below W.heap.size W w'))
    (hV : ∀ W, Below w.heap.size w W → Calls Tryz.prog 16 #[.slice sao sl scap, .agg #[.int .i64 u, .int .i64 a, .int .i64 b, .int .i64 c]] W fun e w' => e = .returned (.tuple #[.int .i64 x, .nilIface]) ∧ Below W.heap.size W w')
    (hV2 : ∀ W, Below w.heap.size w W → Calls Tryz.prog 16 #[.slice tao tl tcap, .agg #[.int .i64 u, .int .i64 a, .int .i64 b, .int .i64 c]] W fun e w' => e = .returned (.tuple #[.int .i64 y, .nilIface]) ∧ Below W.heap.size W w') :
    Calls Tryz.prog 12 #[.agg #[.int .i64 1, .slice sao sl scap, .slice tao tl tcap, .int .i64 n], .agg #[.int .i64 u, .int .i64 a, .int .i64 b, .int .i64 c]] w fun e w' => e = .returned (.tuple #[.bool (saysB 1 n x y), .nilIface]) ∧ Below w.heap.size w w' := by
  have HS : Hid (∀ W, Calls Tryz.prog 30 #[.agg #[.int .i64 1, .slice sao sl scap, .slice tao tl tcap, .int .i64 n], .int .i64 x, .int .i64 y] W fun e w' => e = .returned (.bool (saysB 1 n x y)) ∧ Below W.heap.size W w') := fun W => says_any 1 n x y sao tao sl scap tl tcap W (by decide) x0 x1 y0 y1 n0 n1
  clear x0 x1 y0 y1 n0 n1
  obtain ⟨R, hR⟩ : ∃ R, R = saysB 1 n x y := ⟨_, rfl⟩
  rw [← hR] at HS ⊢
  clear hR
  obtain ⟨w1, hw1⟩ : ∃ w1, w1 = (w.alloc (.cells #[.int .i64 1, .slice sao sl scap, .slice tao tl tcap, .int .i64 n] 24)).alloc (.cells #[.int .i64 u, .int .i64 a, .int .i64 b, .int .i64 c] 27) := ⟨_, rfl⟩
  have HB1 : Hid (Below w.heap.size w w1) := by unfold Hid; rw [hw1]; exact (below_alloc1 w _).trans ((below_alloc1 _ _).mono (by simp))
  have HX : Hid (Boxes w1 w.heap.size 1 n (.slice sao sl scap) (.slice tao tl tcap) u a b c) := by rw [hw1]; exact boxes_alloc w _ _ _ _ _ _ _ _
  have HK1 : Hid (w.heap.size + 1 < w1.heap.size) := by unfold Hid; rw [hw1]; simp
  have HKn : Hid (KindsLaid w1) := hK.below HB1.out
  have HC : Hid (Calls Tryz.prog 7 #[.agg #[.int .i64 1, .slice sao sl scap, .slice tao tl tcap, .int .i64 n]] w1 fun e w' => e = .returned .nilIface ∧ Below w1.heap.size w1 w') := hC w1 HB1.out
  have HV : Hid (∀ W, Below w1.heap.size w1 W → Calls Tryz.prog 16 #[.slice sao sl scap, .agg #[.int .i64 u, .int .i64 a, .int .i64 b, .int .i64 c]] W fun e w' => e = .returned (.tuple #[.int .i64 x, .nilIface]) ∧ Below W.heap.size W w') := fun W hW => hV W (HB1.out.trans (hW.mono (Nat.le_of_lt (Nat.lt_of_succ_lt HK1.out))))
  have HV2 : Hid (∀ W, Below w1.heap.size w1 W → Calls Tryz.prog 16 #[.slice tao tl tcap, .agg #[.int .i64 u, .int .i64 a, .int .i64 b, .int .i64 c]] W fun e w' => e = .returned (.tuple #[.int .i64 y, .nilIface]) ∧ Below W.heap.size W w') := fun W hW => hV2 W (HB1.out.trans (hW.mono (Nat.le_of_lt (Nat.lt_of_succ_lt HK1.out))))
  clear hC hV hK hV2
  obtain ⟨x0, x1, x2, x3, x4, x5, x6, x7⟩ := HX.out
  go_enter Tryz.func12, Tryz.ntmps12
  go_wp2_with fail
  rw [← hw1]
  clear hw1
  go_wp2_with (go_at_call 7; refine HC.out.mono ?_; rintro e w2 ⟨rfl, hb⟩; have HZ2 : Hid (Below w1.heap.size w1 w2) := hb; clear hb x0 x1 x2 x3 x4 x5 x6 x7; obtain ⟨x0, x1, x2, x3, x4, x5, x6, x7⟩ := HX.out.below HZ2.out HK1.out)
  go_wp2_with fail
  go_at_call 16
  refine (HV.out _ HZ2.out).mono ?_
  rintro e w3 ⟨rfl, hb⟩
  have HZ3 : Hid (Below w1.heap.size w1 w3) := HZ2.out.trans (hb.mono HZ2.out.size)
  have q0 : w3.cell? ⟨0, 4, none⟩ = some (.bool true) := HKn.out.below HZ3.out 4 (by decide)
  clear hb x0 x1 x2 x3 x4 x5 x6 x7
  obtain ⟨x0, x1, x2, x3, x4, x5, x6, x7⟩ := HX.out.below HZ3.out HK1.out
  go_wp2_with fail
  go_at_call 16
  refine (HV2.out _ HZ3.out).mono ?_
  rintro e w4 ⟨rfl, hb⟩
  have HZ4 : Hid (Below w1.heap.size w1 w4) := HZ3.out.trans (hb.mono HZ3.out.size)
  clear hb x0 x1 x2 x3 x4 x5 x6 x7
  obtain ⟨x0, x1, x2, x3, x4, x5, x6, x7⟩ := HX.out.below HZ4.out HK1.out
  go_wp2_with fail
  go_at_call 30
  refine (HS.out _).mono ?_
  rintro e w5 ⟨rfl, hb⟩
  have HZ5 : Hid (Below w1.heap.size w1 w5) := HZ4.out.trans (hb.mono HZ4.out.size)
  clear hb
  go_wp2
  go_ret2
  exact ⟨rfl, HB1.out.trans (HZ5.out.mono (Nat.le_of_lt (Nat.lt_of_succ_lt HK1.out)))⟩


set_option maxHeartbeats 2000000 in
theorem holds_2 (x y : Int) (n : Int) (sao tao : Option Addr) (sl scap tl tcap : Nat) (u a b c : Int) (w : World) (hK : KindsLaid w) (x0 : 0 ≤ x) (x1 : x < 64) (y0 : 0 ≤ y) (y1 : y < 64) (n0 : -20 ≤ n) (n1 : n ≤ 20)
    (hC : ∀ W, Below w.heap.size w W → (Calls Tryz.prog 7 #[.agg #[.int .i64 2, .slice sao sl scap, .slice tao tl tcap, .int .i64 n]] W fun e w' => e = .returned .nilIface ∧ Below W.heap.size W w'))
    (hV : ∀ W, Below w.heap.size w W → Calls Tryz.prog 16 #[.slice sao sl scap, .agg #[.int .i64 u, .int .i64 a, .int .i64 b, .int .i64 c]] W fun e w' => e = .returned (.tuple #[.int .i64 x, .nilIface]) ∧ Below W.heap.size W w')
    (hV2 : ∀ W, Below w.heap.size w W → Calls Tryz.prog 16 #[.slice tao tl tcap, .agg #[.int .i64 u, .int .i64 a, .int .i64 b, .int .i64 c]] W fun e w' => e = .returned (.tuple #[.int .i64 y, .nilIface]) ∧ Below W.heap.size W w') :
    Calls Tryz.prog 12 #[.agg #[.int .i64 2, .slice sao sl scap, .slice tao tl tcap, .int .i64 n], .agg #[.int .i64 u, .int .i64 a, .int .i64 b, .int .i64 c]] w fun e w' => e = .returned (.tuple #[.bool (saysB 2 n x y), .nilIface]) ∧ Below w.heap.size w w' := by
  have HS : Hid (∀ W, Calls Tryz.prog 30 #[.agg #[.int .i64 2, .slice sao sl scap, .slice tao tl tcap, .int .i64 n], .int .i64 x, .int .i64 y] W fun e w' => e = .returned (.bool (saysB 2 n x y)) ∧ Below W.heap.size W w') := fun W => says_any 2 n x y sao tao sl scap tl tcap W (by decide) x0 x1 y0 y1 n0 n1
  clear x0 x1 y0 y1 n0 n1
  obtain ⟨R, hR⟩ : ∃ R, R = saysB 2 n x y := ⟨_, rfl⟩
  rw [← hR] at HS ⊢
  clear hR
  obtain ⟨w1, hw1⟩ : ∃ w1, w1 = (w.alloc (.cells #[.int .i64 2, .slice sao sl scap, .slice tao tl tcap, .int .i64 n] 24)).alloc (.cells #[.int .i64 u, .int .i64 a, .int .i64 b, .int .i64 c] 27) := ⟨_, rfl⟩
  have HB1 : Hid (Below w.heap.size w w1) := by unfold Hid; rw [hw1]; exact (below_alloc1 w _).trans ((below_alloc1 _ _).mono (by simp))
  have HX : Hid (Boxes w1 w.heap.size 2 n (.slice sao sl scap) (.slice tao tl tcap) u a b c) := by rw [hw1]; exact boxes_alloc w _ _ _ _ _ _ _ _
  have HK1 : Hid (w.heap.size + 1 < w1.heap.size) := by unfold Hid; rw [hw1]; simp
  have HKn : Hid (KindsLaid w1) := hK.below HB1.out
  have HC : Hid (Calls Tryz.prog 7 #[.agg #[.int .i64 2, .slice sao sl scap, .slice tao tl tcap, .int .i64 n]] w1 fun e w' => e = .returned .nilIface ∧ Below w1.heap.size w1 w') := hC w1 HB1.out
  have HV : Hid (∀ W, Below w1.heap.size w1 W → Calls Tryz.prog 16 #[.slice sao sl scap, .agg #[.int .i64 u, .int .i64 a, .int .i64 b, .int .i64 c]] W fun e w' => e = .returned (.tuple #[.int .i64 x, .nilIface]) ∧ Below W.heap.size W w') := fun W hW => hV W (HB1.out.trans (hW.mono (Nat.le_of_lt (Nat.lt_of_succ_lt HK1.out))))
  have HV2 : Hid (∀ W, Below w1.heap.size w1 W → Calls Tryz.prog 16 #[.slice tao tl tcap, .agg #[.int .i64 u, .int .i64 a, .int .i64 b, .int .i64 c]] W fun e w' => e = .returned (.tuple #[.int .i64 y, .nilIface]) ∧ Below W.heap.size W w') := fun W hW => hV2 W (HB1.out.trans (hW.mono (Nat.le_of_lt (Nat.lt_of_succ_lt HK1.out))))
  clear hC hV hK hV2
  obtain ⟨x0, x1, x2, x3, x4, x5, x6, x7⟩ := HX.out
  go_enter Tryz.func12, Tryz.ntmps12
  go_wp2_with fail
  rw [← hw1]
  clear hw1
  go_wp2_with (go_at_call 7; refine HC.out.mono ?_; rintro e w2 ⟨rfl, hb⟩; have HZ2 : Hid (Below w1.heap.size w1 w2) := hb; clear hb x0 x1 x2 x3 x4 x5 x6 x7; obtain ⟨x0, x1, x2, x3, x4, x5, x6, x7⟩ := HX.out.below HZ2.out HK1.out)
  go_wp2_with fail
  go_at_call 16
  refine (HV.out _ HZ2.out).mono ?_
  rintro e w3 ⟨rfl, hb⟩
  have HZ3 : Hid (Below w1.heap.size w1 w3) := HZ2.out.trans (hb.mono HZ2.out.size)
  have q0 : w3.cell? ⟨0, 7, none⟩ = some (.bool true) := HKn.out.below HZ3.out 7 (by decide)
  clear hb x0 x1 x2 x3 x4 x5 x6 x7
  obtain ⟨x0, x1, x2, x3, x4, x5, x6, x7⟩ := HX.out.below HZ3.out HK1.out
  go_wp2_with fail
  go_at_call 16
  refine (HV2.out _ HZ3.out).mono ?_
  rintro e w4 ⟨rfl, hb⟩
  have HZ4 : Hid (Below w1.heap.size w1 w4) := HZ3.out.trans (hb.mono HZ3.out.size)
  clear hb x0 x1 x2 x3 x4 x5 x6 x7
  obtain ⟨x0, x1, x2, x3, x4, x5, x6, x7⟩ := HX.out.below HZ4.out HK1.out
  go_wp2_with fail
  go_at_call 30
  refine (HS.out _).mono ?_
  rintro e w5 ⟨rfl, hb⟩
  have HZ5 : Hid (Below w1.heap.size w1 w5) := HZ4.out.trans (hb.mono HZ4.out.size)
  clear hb
  go_wp2
  go_ret2
  exact ⟨rfl, HB1.out.trans (HZ5.out.mono (Nat.le_of_lt (Nat.lt_of_succ_lt HK1.out)))⟩


set_option maxHeartbeats 2000000 in
theorem holds_3 (x y : Int) (n : Int) (sao tao : Option Addr) (sl scap tl tcap : Nat) (u a b c : Int) (w : World) (hK : KindsLaid w) (x0 : 0 ≤ x) (x1 : x < 64) (y0 : 0 ≤ y) (y1 : y < 64) (n0 : -20 ≤ n) (n1 : n ≤ 20)
    (hC : ∀ W, Below w.heap.size w W → (Calls Tryz.prog 7 #[.agg #[.int .i64 3, .slice sao sl scap, .slice tao tl tcap, .int .i64 n]] W fun e w' => e = .returned .nilIface ∧ Below W.heap.size W w'))
    (hV : ∀ W, Below w.heap.size w W → Calls Tryz.prog 16 #[.slice sao sl scap, .agg #[.int .i64 u, .int .i64 a, .int .i64 b, .int .i64 c]] W fun e w' => e = .returned (.tuple #[.int .i64 x, .nilIface]) ∧ Below W.heap.size W w')
    (hy : y = 0) :
    Calls Tryz.prog 12 #[.agg #[.int .i64 3, .slice sao sl scap, .slice tao tl tcap, .int .i64 n], .agg #[.int .i64 u, .int .i64 a, .int .i64 b, .int .i64 c]] w fun e w' => e = .returned (.tuple #[.bool (saysB 3 n x y), .nilIface]) ∧ Below w.heap.size w w' := by
  subst hy
  have HS : Hid (∀ W, Calls Tryz.prog 30 #[.agg #[.int .i64 3, .slice sao sl scap, .slice tao tl tcap, .int .i64 n], .int .i64 x, .int .i64 0] W fun e w' => e = .returned (.bool (saysB 3 n x 0)) ∧ Below W.heap.size W w') := fun W => says_any 3 n x 0 sao tao sl scap tl tcap W (by decide) x0 x1 y0 y1 n0 n1
  clear x0 x1 y0 y1 n0 n1
  obtain ⟨R, hR⟩ : ∃ R, R = saysB 3 n x 0 := ⟨_, rfl⟩
  rw [← hR] at HS ⊢
  clear hR
  obtain ⟨w1, hw1⟩ : ∃ w1, w1 = (w.alloc (.cells #[.int .i64 3, .slice sao sl scap, .slice tao tl tcap, .int .i64 n] 24)).alloc (.cells #[.int .i64 u, .int .i64 a, .int .i64 b, .int .i64 c] 27) := ⟨_, rfl⟩
  have HB1 : Hid (Below w.heap.size w w1) := by unfold Hid; rw [hw1]; exact (below_alloc1 w _).trans ((below_alloc1 _ _).mono (by simp))
  have HX : Hid (Boxes w1 w.heap.size 3 n (.slice sao sl scap) (.slice tao tl tcap) u a b c) := by rw [hw1]; exact boxes_alloc w _ _ _ _ _ _ _ _
  have HK1 : Hid (w.heap.size + 1 < w1.heap.size) := by unfold Hid; rw [hw1]; simp
  have HKn : Hid (KindsLaid w1) := hK.below HB1.out
  have HC : Hid (Calls Tryz.prog 7 #[.agg #[.int .i64 3, .slice sao sl scap, .slice tao tl tcap, .int .i64 n]] w1 fun e w' => e = .returned .nilIface ∧ Below w1.heap.size w1 w') := hC w1 HB1.out
  have HV : Hid (∀ W, Below w1.heap.size w1 W → Calls Tryz.prog 16 #[.slice sao sl scap, .agg #[.int .i64 u, .int .i64 a, .int .i64 b, .int .i64 c]] W fun e w' => e = .returned (.tuple #[.int .i64 x, .nilIface]) ∧ Below W.heap.size W w') := fun W hW => hV W (HB1.out.trans (hW.mono (Nat.le_of_lt (Nat.lt_of_succ_lt HK1.out))))
  clear hC hV hK
  obtain ⟨x0, x1, x2, x3, x4, x5, x6, x7⟩ := HX.out
  go_enter Tryz.func12, Tryz.ntmps12
  go_wp2_with fail
  rw [← hw1]
  clear hw1
  go_wp2_with (go_at_call 7; refine HC.out.mono ?_; rintro e w2 ⟨rfl, hb⟩; have HZ2 : Hid (Below w1.heap.size w1 w2) := hb; clear hb x0 x1 x2 x3 x4 x5 x6 x7; obtain ⟨x0, x1, x2, x3, x4, x5, x6, x7⟩ := HX.out.below HZ2.out HK1.out)
  go_wp2_with fail
  go_at_call 16
  refine (HV.out _ HZ2.out).mono ?_
  rintro e w3 ⟨rfl, hb⟩
  have HZ3 : Hid (Below w1.heap.size w1 w3) := HZ2.out.trans (hb.mono HZ2.out.size)
  have q0 : w3.cell? ⟨0, 10, none⟩ = some (.bool false) := HKn.out.below HZ3.out 10 (by decide)
  clear hb x0 x1 x2 x3 x4 x5 x6 x7
  obtain ⟨x0, x1, x2, x3, x4, x5, x6, x7⟩ := HX.out.below HZ3.out HK1.out
  go_wp2_with fail
  go_at_call 30
  refine (HS.out _).mono ?_
  rintro e w5 ⟨rfl, hb⟩
  have HZ5 : Hid (Below w1.heap.size w1 w5) := HZ3.out.trans (hb.mono HZ3.out.size)
  clear hb
  go_wp2
  go_ret2
  exact ⟨rfl, HB1.out.trans (HZ5.out.mono (Nat.le_of_lt (Nat.lt_of_succ_lt HK1.out)))⟩


set_option maxHeartbeats 2000000 in
theorem holds_4 (x y : Int) (n : Int) (sao tao : Option Addr) (sl scap tl tcap : Nat) (u a b c : Int) (w : World) (hK : KindsLaid w) (x0 : 0 ≤ x) (x1 : x < 64) (y0 : 0 ≤ y) (y1 : y < 64) (n0 : -20 ≤ n) (n1 : n ≤ 20)
    (hC : ∀ W, Below w.heap.size w W → (Calls Tryz.prog 7 #[.agg #[.int .i64 4, .slice sao sl scap, .slice tao tl tcap, .int .i64 n]] W fun e w' => e = .returned .nilIface ∧ Below W.heap.size W w'))
    (hV : ∀ W, Below w.heap.size w W → Calls Tryz.prog 16 #[.slice sao sl scap, .agg #[.int .i64 u, .int .i64 a, .int .i64 b, .int .i64 c]] W fun e w' => e = .returned (.tuple #[.int .i64 x, .nilIface]) ∧ Below W.heap.size W w')
    (hy : y = 0) :
    Calls Tryz.prog 12 #[.agg #[.int .i64 4, .slice sao sl scap, .slice tao tl tcap, .int .i64 n], .agg #[.int .i64 u, .int .i64 a, .int .i64 b, .int .i64 c]] w fun e w' => e = .returned (.tuple #[.bool (saysB 4 n x y), .nilIface]) ∧ Below w.heap.size w w' := by
  subst hy
  have HS : Hid (∀ W, Calls Tryz.prog 30 #[.agg #[.int .i64 4, .slice sao sl scap, .slice tao tl tcap, .int .i64 n], .int .i64 x, .int .i64 0] W fun e w' => e = .returned (.bool (saysB 4 n x 0)) ∧ Below W.heap.size W w') := fun W => says_any 4 n x 0 sao tao sl scap tl tcap W (by decide) x0 x1 y0 y1 n0 n1
  clear x0 x1 y0 y1 n0 n1
  obtain ⟨R, hR⟩ : ∃ R, R = saysB 4 n x 0 := ⟨_, rfl⟩
  rw [← hR] at HS ⊢
  clear hR
  obtain ⟨w1, hw1⟩ : ∃ w1, w1 = (w.alloc (.cells #[.int .i64 4, .slice sao sl scap, .slice tao tl tcap, .int .i64 n] 24)).alloc (.cells #[.int .i64 u, .int .i64 a, .int .i64 b, .int .i64 c] 27) := ⟨_, rfl⟩
  have HB1 : Hid (Below w.heap.size w w1) := by unfold Hid; rw [hw1]; exact (below_alloc1 w _).trans ((below_alloc1 _ _).mono (by simp))
  have HX : Hid (Boxes w1 w.heap.size 4 n (.slice sao sl scap) (.slice tao tl tcap) u a b c) := by rw [hw1]; exact boxes_alloc w _ _ _ _ _ _ _ _
  have HK1 : Hid (w.heap.size + 1 < w1.heap.size) := by unfold Hid; rw [hw1]; simp
  have HKn : Hid (KindsLaid w1) := hK.below HB1.out
  have HC : Hid (Calls Tryz.prog 7 #[.agg #[.int .i64 4, .slice sao sl scap, .slice tao tl tcap, .int .i64 n]] w1 fun e w' => e = .returned .nilIface ∧ Below w1.heap.size w1 w') := hC w1 HB1.out
  have HV : Hid (∀ W, Below w1.heap.size w1 W → Calls Tryz.prog 16 #[.slice sao sl scap, .agg #[.int .i64 u, .int .i64 a, .int .i64 b, .int .i64 c]] W fun e w' => e = .returned (.tuple #[.int .i64 x, .nilIface]) ∧ Below W.heap.size W w') := fun W hW => hV W (HB1.out.trans (hW.mono (Nat.le_of_lt (Nat.lt_of_succ_lt HK1.out))))
  clear hC hV hK
  obtain ⟨x0, x1, x2, x3, x4, x5, x6, x7⟩ := HX.out
  go_enter Tryz.func12, Tryz.ntmps12
  go_wp2_with fail
  rw [← hw1]
  clear hw1
  go_wp2_with (go_at_call 7; refine HC.out.mono ?_; rintro e w2 ⟨rfl, hb⟩; have HZ2 : Hid (Below w1.heap.size w1 w2) := hb; clear hb x0 x1 x2 x3 x4 x5 x6 x7; obtain ⟨x0, x1, x2, x3, x4, x5, x6, x7⟩ := HX.out.below HZ2.out HK1.out)
  go_wp2_with fail
  go_at_call 16
  refine (HV.out _ HZ2.out).mono ?_
  rintro e w3 ⟨rfl, hb⟩
  have HZ3 : Hid (Below w1.heap.size w1 w3) := HZ2.out.trans (hb.mono HZ2.out.size)
  have q0 : w3.cell? ⟨0, 13, none⟩ = some (.bool false) := HKn.out.below HZ3.out 13 (by decide)
  clear hb x0 x1 x2 x3 x4 x5 x6 x7
  obtain ⟨x0, x1, x2, x3, x4, x5, x6, x7⟩ := HX.out.below HZ3.out HK1.out
  go_wp2_with fail
  go_at_call 30
  refine (HS.out _).mono ?_
  rintro e w5 ⟨rfl, hb⟩
  have HZ5 : Hid (Below w1.heap.size w1 w5) := HZ3.out.trans (hb.mono HZ3.out.size)
  clear hb
  go_wp2
  go_ret2
  exact ⟨rfl, HB1.out.trans (HZ5.out.mono (Nat.le_of_lt (Nat.lt_of_succ_lt HK1.out)))⟩


set_option maxHeartbeats 2000000 in
theorem holds_5 (x y : Int) (n : Int) (sao tao : Option Addr) (sl scap tl tcap : Nat) (u a b c : Int) (w : World) (hK : KindsLaid w) (x0 : 0 ≤ x) (x1 : x < 64) (y0 : 0 ≤ y) (y1 : y < 64) (n0 : -20 ≤ n) (n1 : n ≤ 20)
    (hC : ∀ W, Below w.heap.size w W → (Calls Tryz.prog 7 #[.agg #[.int .i64 5, .slice sao sl scap, .slice tao tl tcap, .int .i64 n]] W fun e w' => e = .returned .nilIface ∧ Below W.heap.size W w'))
    (hV : ∀ W, Below w.heap.size w W → Calls Tryz.prog 16 #[.slice sao sl scap, .agg #[.int .i64 u, .int .i64 a, .int .i64 b, .int .i64 c]] W fun e w' => e = .returned (.tuple #[.int .i64 x, .nilIface]) ∧ Below W.heap.size W w')
    (hV2 : ∀ W, Below w.heap.size w W → Calls Tryz.prog 16 #[.slice tao tl tcap, .agg #[.int .i64 u, .int .i64 a, .int .i64 b, .int .i64 c]] W fun e w' => e = .returned (.tuple #[.int .i64 y, .nilIface]) ∧ Below W.heap.size W w') :
    Calls Tryz.prog 12 #[.agg #[.int .i64 5, .slice sao sl scap, .slice tao tl tcap, .int .i64 n], .agg #[.int .i64 u, .int .i64 a, .int .i64 b, .int .i64 c]] w fun e w' => e = .returned (.tuple #[.bool (saysB 5 n x y), .nilIface]) ∧ Below w.heap.size w w' := by
  have HS : Hid (∀ W, Calls Tryz.prog 30 #[.agg #[.int .i64 5, .slice sao sl scap, .slice tao tl tcap, .int .i64 n], .int .i64 x, .int .i64 y] W fun e w' => e = .returned (.bool (saysB 5 n x y)) ∧ Below W.heap.size W w') := fun W => says_any 5 n x y sao tao sl scap tl tcap W (by decide) x0 x1 y0 y1 n0 n1
  clear x0 x1 y0 y1 n0 n1
  obtain ⟨R, hR⟩ : ∃ R, R = saysB 5 n x y := ⟨_, rfl⟩
  rw [← hR] at HS ⊢
  clear hR
  obtain ⟨w1, hw1⟩ : ∃ w1, w1 = (w.alloc (.cells #[.int .i64 5, .slice sao sl scap, .slice tao tl tcap, .int .i64 n] 24)).alloc (.cells #[.int .i64 u, .int .i64 a, .int .i64 b, .int .i64 c] 27) := ⟨_, rfl⟩
  have HB1 : Hid (Below w.heap.size w w1) := by unfold Hid; rw [hw1]; exact (below_alloc1 w _).trans ((below_alloc1 _ _).mono (by simp))
  have HX : Hid (Boxes w1 w.heap.size 5 n (.slice sao sl scap) (.slice tao tl tcap) u a b c) := by rw [hw1]; exact boxes_alloc w _ _ _ _ _ _ _ _
  have HK1 : Hid (w.heap.size + 1 < w1.heap.size) := by unfold Hid; rw [hw1]; simp
  have HKn : Hid (KindsLaid w1) := hK.below HB1.out
  have HC : Hid (Calls Tryz.prog 7 #[.agg #[.int .i64 5, .slice sao sl scap, .slice tao tl tcap, .int .i64 n]] w1 fun e w' => e = .returned .nilIface ∧ Below w1.heap.size w1 w') := hC w1 HB1.out
  have HV : Hid (∀ W, Below w1.heap.size w1 W → Calls Tryz.prog 16 #[.slice sao sl scap, .agg #[.int .i64 u, .int .i64 a, .int .i64 b, .int .i64 c]] W fun e w' => e = .returned (.tuple #[.int .i64 x, .nilIface]) ∧ Below W.heap.size W w') := fun W hW => hV W (HB1.out.trans (hW.mono (Nat.le_of_lt (Nat.lt_of_succ_lt HK1.out))))
  have HV2 : Hid (∀ W, Below w1.heap.size w1 W → Calls Tryz.prog 16 #[.slice tao tl tcap, .agg #[.int .i64 u, .int .i64 a, .int .i64 b, .int .i64 c]] W fun e w' => e = .returned (.tuple #[.int .i64 y, .nilIface]) ∧ Below W.heap.size W w') := fun W hW => hV2 W (HB1.out.trans (hW.mono (Nat.le_of_lt (Nat.lt_of_succ_lt HK1.out))))
  clear hC hV hK hV2
  obtain ⟨x0, x1, x2, x3, x4, x5, x6, x7⟩ := HX.out
  go_enter Tryz.func12, Tryz.ntmps12
  go_wp2_with fail
  rw [← hw1]
  clear hw1
  go_wp2_with (go_at_call 7; refine HC.out.mono ?_; rintro e w2 ⟨rfl, hb⟩; have HZ2 : Hid (Below w1.heap.size w1 w2) := hb; clear hb x0 x1 x2 x3 x4 x5 x6 x7; obtain ⟨x0, x1, x2, x3, x4, x5, x6, x7⟩ := HX.out.below HZ2.out HK1.out)
  go_wp2_with fail
  go_at_call 16
  refine (HV.out _ HZ2.out).mono ?_
  rintro e w3 ⟨rfl, hb⟩
  have HZ3 : Hid (Below w1.heap.size w1 w3) := HZ2.out.trans (hb.mono HZ2.out.size)
  have q0 : w3.cell? ⟨0, 16, none⟩ = some (.bool true) := HKn.out.below HZ3.out 16 (by decide)
  clear hb x0 x1 x2 x3 x4 x5 x6 x7
  obtain ⟨x0, x1, x2, x3, x4, x5, x6, x7⟩ := HX.out.below HZ3.out HK1.out
  go_wp2_with fail
  go_at_call 16
  refine (HV2.out _ HZ3.out).mono ?_
  rintro e w4 ⟨rfl, hb⟩
  have HZ4 : Hid (Below w1.heap.size w1 w4) := HZ3.out.trans (hb.mono HZ3.out.size)
  clear hb x0 x1 x2 x3 x4 x5 x6 x7
  obtain ⟨x0, x1, x2, x3, x4, x5, x6, x7⟩ := HX.out.below HZ4.out HK1.out
  go_wp2_with fail
  go_at_call 30
  refine (HS.out _).mono ?_
  rintro e w5 ⟨rfl, hb⟩
  have HZ5 : Hid (Below w1.heap.size w1 w5) := HZ4.out.trans (hb.mono HZ4.out.size)
  clear hb
  go_wp2
  go_ret2
  exact ⟨rfl, HB1.out.trans (HZ5.out.mono (Nat.le_of_lt (Nat.lt_of_succ_lt HK1.out)))⟩


theorem back_bool {a b : Bool} {x y : Value} (h : a = b) (h' : x = y) : Ending.returned (.tuple #[.bool a, x]) = .returned (.tuple #[.bool b, y]) := by rw [h, h']

/-- Holds, whatever the atom and the world. -/
theorem aholds_any (k n : Int) (vs vt : Value) (s t : List Int) (u a b c : Int) (w : World) (hS : Reads w vs s) (hT : Reads w vt t) (hK : KindsLaid w) :
    Calls Tryz.prog 12 #[.agg #[.int .i64 k, vs, vt, .int .i64 n], .agg #[.int .i64 u, .int .i64 a, .int .i64 b, .int .i64 c]] w fun e w' => e = .returned (.tuple #[.bool ((Wd.mk u a b c).holdsIs k s t n), errV ((Wd.mk u a b c).holdsFault k s t n)]) ∧ Below w.heap.size w w' := by
  have hC : ∀ W, Below w.heap.size w W → _ := fun W hW => acheck_any k n vs vt s t W (hS.below hW) (hT.below hW) (hK.below hW)
  have hV : ∀ W, Below w.heap.size w W → _ := fun W hW => value_any s vs u a b c W (hS.below hW)
  have hV2 : ∀ W, Below w.heap.size w W → _ := fun W hW => value_any t vt u a b c W (hT.below hW)
  obtain ⟨sao, scap, rfl, _⟩ := hS.slice
  obtain ⟨tao, tcap, rfl, _⟩ := hT.slice
  by_cases hf : atomFault k s t n = 0
  · obtain ⟨hk, hs, ht, n0, n1⟩ := atomFault_zero.1 hf
    rw [hf, errV_0] at hC
    have hm : mostN k ≤ 20 := by unfold mostN; split <;> omega
    by_cases hw : (Wd.mk u a b c).ok = true
    · have e1 : (Wd.mk u a b c).holdsFault k s t n = 0 := by unfold Wd.holdsFault; rw [if_pos hf, if_pos hw]
      have e2 : (Wd.mk u a b c).holdsIs k s t n = saysB k n ((Wd.mk u a b c).val s) ((Wd.mk u a b c).snd k t) := by unfold Wd.holdsIs; rw [if_pos e1]; rfl
      have e3 : (Wd.mk u a b c).answer s = (Wd.mk u a b c).val s := by unfold Wd.answer; rw [if_pos hs, if_pos hw]
      have e4 : (Wd.mk u a b c).fault s = 0 := by unfold Wd.fault; rw [if_pos hs, if_pos hw]
      rw [e1, e2, errV_0]
      rw [e3, e4, errV_0] at hV
      have ox := okB_lt (ok_val hw s)
      have oy := okB_lt (ok_val hw t)
      have hsec : secondB k = true → (Wd.mk u a b c).answer t = (Wd.mk u a b c).val t ∧ (Wd.mk u a b c).fault t = 0 ∧ (Wd.mk u a b c).snd k t = (Wd.mk u a b c).val t := by
        intro h
        have h0 := second_reads ht h
        refine ⟨?_, ?_, ?_⟩
        · unfold Wd.answer; rw [if_pos h0, if_pos hw]
        · unfold Wd.fault; rw [if_pos h0, if_pos hw]
        · unfold Wd.snd; rw [if_pos h]
      rcases five hk.1 hk.2 with rfl | rfl | rfl | rfl | rfl
      · obtain ⟨g1, g2, g3⟩ := hsec (by decide)
        rw [g1, g2, errV_0] at hV2; rw [g3]
        exact holds_1 _ _ n sao tao _ scap _ tcap u a b c w hK ox.2.2.1 ox.2.2.2 oy.2.2.1 oy.2.2.2 (by omega) (by omega) hC hV hV2
      · obtain ⟨g1, g2, g3⟩ := hsec (by decide)
        rw [g1, g2, errV_0] at hV2; rw [g3]
        exact holds_2 _ _ n sao tao _ scap _ tcap u a b c w hK ox.2.2.1 ox.2.2.2 oy.2.2.1 oy.2.2.2 (by omega) (by omega) hC hV hV2
      · exact holds_3 _ 0 n sao tao _ scap _ tcap u a b c w hK ox.2.2.1 ox.2.2.2 (Int.le_refl 0) (by decide) (by omega) (by omega) hC hV rfl
      · exact holds_4 _ 0 n sao tao _ scap _ tcap u a b c w hK ox.2.2.1 ox.2.2.2 (Int.le_refl 0) (by decide) (by omega) (by omega) hC hV rfl
      · obtain ⟨g1, g2, g3⟩ := hsec (by decide)
        rw [g1, g2, errV_0] at hV2; rw [g3]
        exact holds_5 _ _ n sao tao _ scap _ tcap u a b c w hK ox.2.2.1 ox.2.2.2 oy.2.2.1 oy.2.2.2 (by omega) (by omega) hC hV hV2
    · have e1 : (Wd.mk u a b c).holdsFault k s t n = 1 := by unfold Wd.holdsFault; rw [if_pos hf, if_neg hw]
      have e2 : (Wd.mk u a b c).holdsIs k s t n = false := by unfold Wd.holdsIs; rw [if_neg (by rw [e1]; decide)]
      have e3 : (Wd.mk u a b c).answer s = 0 := by unfold Wd.answer; rw [if_pos hs, if_neg hw]
      have e4 : (Wd.mk u a b c).fault s = 1 := by unfold Wd.fault; rw [if_pos hs, if_neg hw]
      rw [e1, e2, errV_no (by decide)]
      rw [e3, e4, errV_no (by decide)] at hV
      exact holds_world k n sao tao _ scap _ tcap u a b c w hC hV
  · have e1 : (Wd.mk u a b c).holdsFault k s t n = atomFault k s t n := by unfold Wd.holdsFault; rw [if_neg hf]
    have e2 : (Wd.mk u a b c).holdsIs k s t n = false := by unfold Wd.holdsIs; rw [if_neg (by rw [e1]; exact hf)]
    rw [e1, e2, errV_no hf]
    rw [errV_no hf] at hC
    exact holds_bad k _ n sao tao _ scap _ tcap u a b c w hC

end Go.Proofs.YtenmheenieifpabGreatDoor

namespace Go.Proofs.YtenmheenieifpabGreatDoor
open Go.RowKit
set_option maxRecDepth 100000

theorem kind_word {l : List UInt8} {k : Int} (h : kindOfN l = k) (hk : 1 ≤ k ∧ k ≤ 5) : l = kindWord k := by
  subst h
  unfold kindOfN at hk ⊢
  by_cases h1 : l = [115, 117, 98]
  · subst h1; rfl
  rw [if_neg h1] at hk ⊢
  by_cases h2 : l = [115, 97, 109, 101]
  · subst h2; rfl
  rw [if_neg h2] at hk ⊢
  by_cases h3 : l = [108, 101, 97, 115, 116]
  · subst h3; rfl
  rw [if_neg h3] at hk ⊢
  by_cases h4 : l = [109, 111, 115, 116]
  · subst h4; rfl
  rw [if_neg h4] at hk ⊢
  by_cases h5 : l = [110, 111, 109, 111, 114, 101]
  · subst h5; rfl
  rw [if_neg h5] at hk
  omega
theorem numOf_back {l : List UInt8} (h : (numOf l).isNone = false) : numText ((numOf l).getD 0) = l := by
  cases hn : numOf l with
  | none => rw [hn] at h; cases h
  | some n => exact (numOf_some.1 hn).2
theorem three_of {α : Type} {l : List α} (h : l.length = 3) : ∃ a b c, l = [a, b, c] := by
  match l, h with
  | [a, b, c], _ => exact ⟨a, b, c, rfl⟩
theorem four_of {α : Type} {l : List α} (h : l.length = 4) : ∃ a b c d, l = [a, b, c, d] := by
  match l, h with
  | [a, b, c, d], _ => exact ⟨a, b, c, d, rfl⟩
theorem words_kind {ws : List (List UInt8)} {k : Int} (h : wordsKind ws = k) (hk : 1 ≤ k ∧ k ≤ 5) : ws.length = manyN k ∧ ws.getD 0 [] = kindWord k := by
  unfold wordsKind at h
  by_cases hl : ws.length = manyN (kindOfN (ws.getD 0 []))
  · rw [if_pos hl] at h
    rw [h] at hl
    exact ⟨hl, kind_word h hk⟩
  · rw [if_neg hl] at h; omega
theorem words_ok {ws : List (List UInt8)} (h : wordsFault ws = 0) : (1 ≤ wordsKind ws ∧ wordsKind ws ≤ 5) ∧ partsBad (wordsKind ws) ws = false ∧ atomFault (wordsKind ws) (wordsS ws) (wordsT (wordsKind ws) ws) (wordsN (wordsKind ws) ws) = 0 := by
  unfold wordsFault at h
  by_cases h0 : wordsKind ws = 0
  · rw [if_pos h0] at h; cases h
  rw [if_neg h0] at h
  by_cases h1 : partsBad (wordsKind ws) ws = true
  · rw [if_pos h1] at h; cases h
  rw [if_neg h1] at h
  exact ⟨(atomFault_zero.1 h).1, by simpa using h1, h⟩
/-- words that read as an atom, joined, are its text. -/
theorem words_text {ws : List (List UInt8)} (h : wordsFault ws = 0) : atomText (wordsKind ws) (wordsS ws) (wordsT (wordsKind ws) ws) (wordsN (wordsKind ws) ws) = joinL ws := by
  obtain ⟨hk, hp, _⟩ := words_ok h
  obtain ⟨hl, h0⟩ := words_kind rfl hk
  generalize wordsKind ws = k at *
  rcases five hk.1 hk.2 with rfl | rfl | rfl | rfl | rfl
  · obtain ⟨a, b, c, rfl⟩ := three_of hl
    simp [partsBad, secondB, numberB] at hp h0
    subst h0
    simp [atomText, wordsS, wordsT, secondB, numberB, text_read hp.1, text_read hp.2, joinL]
  · obtain ⟨a, b, c, rfl⟩ := three_of hl
    simp [partsBad, secondB, numberB] at hp h0
    subst h0
    simp [atomText, wordsS, wordsT, secondB, numberB, text_read hp.1, text_read hp.2, joinL]
  · obtain ⟨a, b, c, rfl⟩ := three_of hl
    simp [partsBad, secondB, numberB] at hp h0
    subst h0
    have hn := numOf_back (l := c) (by rw [Option.isNone_eq_false_iff]; exact hp.2)
    simp [atomText, wordsS, wordsN, secondB, numberB, text_read hp.1, hn, joinL]
  · obtain ⟨a, b, c, rfl⟩ := three_of hl
    simp [partsBad, secondB, numberB] at hp h0
    subst h0
    have hn := numOf_back (l := c) (by rw [Option.isNone_eq_false_iff]; exact hp.2)
    simp [atomText, wordsS, wordsN, secondB, numberB, text_read hp.1, hn, joinL]
  · obtain ⟨a, b, c, d, rfl⟩ := four_of hl
    simp [partsBad, secondB, numberB] at hp h0
    subst h0
    have hn := numOf_back (l := d) (by rw [Option.isNone_eq_false_iff]; exact hp.2)
    simp [atomText, wordsS, wordsT, wordsN, secondB, numberB, text_read hp.1.1, text_read hp.1.2, hn, joinL]
/-- a text that Parse takes is the text of what it read. -/
theorem seen_text {s : ByteArray} (h : wordsFault (seen s) = 0) : strOf (atomText (wordsKind (seen s)) (wordsS (seen s)) (wordsT (wordsKind (seen s)) (seen s)) (wordsN (wordsKind (seen s)) (seen s))) = s := by
  rw [words_text h, seen, join_split, strOf_data]

theorem plain_kind (k : Int) : plainB (kindWord k) = true := by unfold kindWord; (repeat' split) <;> rfl
theorem plain_byte (s : Int) : (byteOf s != 32) = true := by unfold byteOf; (repeat' split) <;> rfl
theorem plain_text (t : List Int) : plainB (textN t) = true := by
  unfold plainB textN
  rw [List.all_map, List.all_eq_true]
  intro x _
  exact plain_byte x
theorem nums_plain : nums.all (fun n => plainB (numText n)) = true := by decide +kernel
theorem plain_num {n : Int} (h : -99 ≤ n ∧ n ≤ 99) : plainB (numText n) = true := List.all_eq_true.1 nums_plain n (mem_nums.2 h)
theorem kind_of_word {k : Int} (hk : 1 ≤ k ∧ k ≤ 5) : kindOfN (kindWord k) = k := by
  rcases five hk.1 hk.2 with rfl | rfl | rfl | rfl | rfl <;> rfl
/-- the words of an atom. -/
def atomWords (k : Int) (s t : List Int) (n : Int) : List (List UInt8) := kindWord k :: textN s :: ((if secondB k = true then [textN t] else []) ++ (if numberB k = true then [numText n] else []))
/-- an atom's text is cut into its words. -/
theorem seen_words {k n : Int} {s t : List Int} (h : atomFault k s t n = 0) : seen (strOf (atomText k s t n)) = atomWords k s t n := by
  obtain ⟨hk, hs, ht, n0, n1⟩ := atomFault_zero.1 h
  have hm : mostN k ≤ 20 := by unfold mostN; split <;> omega
  have pn := plain_num (n := n) ⟨by omega, by omega⟩
  have pk := plain_kind k
  have ps := plain_text s
  have pt := plain_text t
  have hz : 4 ≤ (strOf (atomText k s t n)).size := by
    rw [strOf_size]
    have : 3 ≤ (kindWord k).length := by unfold kindWord; (repeat' split) <;> simp
    unfold atomText
    simp
    omega
  unfold seen
  rw [if_pos hz, strOf_list]
  unfold atomText atomWords
  rcases five hk.1 hk.2 with rfl | rfl | rfl | rfl | rfl
  · simp only [show secondB 1 = true from rfl, show numberB 1 = false from rfl, if_true, Bool.false_eq_true, if_false, List.append_nil, List.append_assoc, List.cons_append]
    rw [split_word pk, split_word ps, split_last pt]
  · simp only [show secondB 2 = true from rfl, show numberB 2 = false from rfl, if_true, Bool.false_eq_true, if_false, List.append_nil, List.append_assoc, List.cons_append]
    rw [split_word pk, split_word ps, split_last pt]
  · simp only [show secondB 3 = false from rfl, show numberB 3 = true from rfl, if_true, Bool.false_eq_true, if_false, List.nil_append, List.append_assoc, List.cons_append]
    rw [split_word pk, split_word ps, split_last pn]
  · simp only [show secondB 4 = false from rfl, show numberB 4 = true from rfl, if_true, Bool.false_eq_true, if_false, List.nil_append, List.append_assoc, List.cons_append]
    rw [split_word pk, split_word ps, split_last pn]
  · simp only [show secondB 5 = true from rfl, show numberB 5 = true from rfl, if_true, List.nil_append, List.append_assoc, List.cons_append]
    rw [split_word pk, split_word ps, split_word pt, split_last pn]
/-- the words of an atom read as it was. -/
theorem words_back {k n : Int} {s t : List Int} (h : atomFault k s t n = 0) : wordsFault (atomWords k s t n) = 0 ∧ wordsKind (atomWords k s t n) = k ∧ wordsS (atomWords k s t n) = s ∧ wordsT k (atomWords k s t n) = t ∧ wordsN k (atomWords k s t n) = n := by
  obtain ⟨hk, hs, ht, n0, n1⟩ := atomFault_zero.1 h
  have ss := (fault_zero.1 hs).2.2.1
  have es := read_text ss
  have ls := letters_text ss
  have hm : mostN k ≤ 20 := by unfold mostN; split <;> omega
  have en := numOf_text (n := n) ⟨by omega, by omega⟩
  have ek : wordsKind (atomWords k s t n) = k := by
    have e0 : (atomWords k s t n).getD 0 [] = kindWord k := rfl
    unfold wordsKind
    rw [e0, kind_of_word hk, if_pos]
    rcases five hk.1 hk.2 with rfl | rfl | rfl | rfl | rfl <;> rfl
  have eS : wordsS (atomWords k s t n) = s := es
  have eT : wordsT k (atomWords k s t n) = t := by
    unfold wordsT
    by_cases h2 : secondB k = true
    · have h0 := second_reads ht h2
      rw [if_pos h2]
      have : (atomWords k s t n).getD 2 [] = textN t := by unfold atomWords; rw [if_pos h2]; rfl
      rw [this, read_text (fault_zero.1 h0).2.2.1]
    · rw [if_neg h2]
      unfold secondFault at ht
      rw [if_neg h2] at ht
      by_cases hl : 0 < t.length
      · rw [if_pos hl] at ht; cases ht
      · exact (List.length_eq_zero_iff.1 (by omega)).symm
  have eN : wordsN k (atomWords k s t n) = n := by
    unfold wordsN
    by_cases h2 : numberB k = true
    · rw [if_pos h2]
      have : (atomWords k s t n).getD ((atomWords k s t n).length - 1) [] = numText n := by
        rcases five hk.1 hk.2 with rfl | rfl | rfl | rfl | rfl
        · cases h2
        · cases h2
        all_goals rfl
      rw [this, en]; rfl
    · rw [if_neg h2]
      unfold mostN at n0 n1
      rw [if_neg h2] at n0 n1
      omega
  have eP : partsBad k (atomWords k s t n) = false := by
    have l1 : lettersB ((atomWords k s t n).getD 1 []) = true := ls
    unfold partsBad
    rw [l1]
    by_cases h2 : secondB k = true
    · have h0 := second_reads ht h2
      have l2 : lettersB ((atomWords k s t n).getD 2 []) = true := by
        have : (atomWords k s t n).getD 2 [] = textN t := by unfold atomWords; rw [if_pos h2]; rfl
        rw [this]; exact letters_text (fault_zero.1 h0).2.2.1
      rw [l2]
      by_cases h3 : numberB k = true
      · have : (atomWords k s t n).getD ((atomWords k s t n).length - 1) [] = numText n := by
          rcases five hk.1 hk.2 with rfl | rfl | rfl | rfl | rfl
          · cases h3
          · cases h3
          all_goals rfl
        rw [this, en]; simp
      · simp [h3]
    · by_cases h3 : numberB k = true
      · have : (atomWords k s t n).getD ((atomWords k s t n).length - 1) [] = numText n := by
          rcases five hk.1 hk.2 with rfl | rfl | rfl | rfl | rfl
          · cases h3
          · cases h3
          all_goals rfl
        rw [this, en]; simp [h2]
      · simp [h2, h3]
  refine ⟨?_, ek, eS, eT, eN⟩
  unfold wordsFault
  rw [ek, if_neg (by omega), eP, eS, eT, eN]
  simpa using h
theorem atomText_size {k n : Int} {s t : List Int} (h : atomFault k s t n = 0) : (atomText k s t n).length ≤ 100 := by
  obtain ⟨hk, hs, ht, n0, n1⟩ := atomFault_zero.1 h
  have l1 : (textN s).length ≤ 12 := by have := (fault_zero.1 hs).2.1; simp [textN]; omega
  have l2 : secondB k = true → (textN t).length ≤ 12 := fun h2 => by have := (fault_zero.1 (second_reads ht h2)).2.1; simp [textN]; omega
  have l3 : (numText n).length ≤ 3 := by
    unfold numText digitsN
    (repeat' split) <;> simp
  have l0 : (kindWord k).length ≤ 6 := by unfold kindWord; (repeat' split) <;> simp
  unfold atomText
  by_cases h2 : secondB k = true
  · have := l2 h2
    by_cases h3 : numberB k = true <;> simp [h2, h3] <;> omega
  · by_cases h3 : numberB k = true <;> simp [h2, h3] <;> omega

/-! ### what is the same is part both ways -/
theorem same_subs {u x y : Int} (hx : okB u x = true) (hy : okB u y = true) : decide (x = y) = (decide (lessN x y = 0) && decide (lessN y x = 0)) :=
  uptoSets (P := fun _ x y => decide (x = y) = (decide (lessN x y = 0) && decide (lessN y x = 0))) (by decide +kernel) u x y hx hy
theorem words_fact : wordsFault (seen ⟨#[110, 111, 109, 111, 114, 101, 32, 65, 32, 66, 32, 45, 51]⟩) = 0 ∧ wordsKind (seen ⟨#[110, 111, 109, 111, 114, 101, 32, 65, 32, 66, 32, 45, 51]⟩) = 5 ∧ wordsT 5 (seen ⟨#[110, 111, 109, 111, 114, 101, 32, 65, 32, 66, 32, 45, 51]⟩) = [1] ∧ wordsN 5 (seen ⟨#[110, 111, 109, 111, 114, 101, 32, 65, 32, 66, 32, 45, 51]⟩) = -3 := by decide +kernel
end Go.Proofs.YtenmheenieifpabGreatDoor

namespace Go.Proofs.YtenmheenieifpabGreatDoor
open Go.ChangeShapes Go.WideShapes Go.ChangeAt Go.RowKit

theorem size_ok (u s : Int) (h : okB u s = true) (w : World) :
    Calls Tryz.prog 17 #[.int .i64 u, .int .i64 s] w fun e w' => e = .returned (.tuple #[.int .i64 (pcN s), .nilIface]) ∧ w = w' := by
  obtain ⟨u0, u1, s0, s1⟩ := okB_lt h
  go_enter Tryz.func17, Tryz.ntmps17
  go_wp2_with (first | (go_at_call 42; refine (check_ok _ _ h _).mono ?_; rintro e w' ⟨rfl, rfl⟩) | (go_at_call 43; refine (ones_any _ ?_ ?_ _).mono ?_; omega; omega; rintro e w' ⟨rfl, rfl⟩))
  go_ret2
  exact ⟨rfl, rfl⟩

theorem size_no (u s : Int) (h : okB u s = false) (w : World) :
    Calls Tryz.prog 17 #[.int .i64 u, .int .i64 s] w fun e w' => e = .returned (.tuple #[.int .i64 0, .iface 51 (.int .i64 1)]) ∧ w = w' := by
  go_enter Tryz.func17, Tryz.ntmps17
  go_wp2_with (go_at_call 42; refine (check_no _ _ h _).mono ?_; rintro e w' ⟨rfl, rfl⟩)
  go_ret2
  exact ⟨rfl, rfl⟩
end Go.Proofs.YtenmheenieifpabGreatDoor

namespace Go.Proofs.YtenmheenieifpabGreatDoor
open Go.ChangeShapes Go.WideShapes Go.ChangeAt Go.RowKit
set_option maxRecDepth 100000

/-- what a walk carries from world to world: below K all is as it was in w1. -/
def Car (K : Nat) (w1 w : World) : Prop := Below K w1 w ∧ K ≤ w.heap.size
theorem Car.step {K : Nat} {w1 w w' : World} (h : Car K w1 w) (hb : Below w.heap.size w w') : Car K w1 w' := ⟨h.1.trans (hb.mono h.2), Nat.le_trans h.2 hb.size⟩

/-- Parse of a text that is an atom. -/
theorem aparse_good (s : ByteArray) (hz : s.size ≤ 9223372036854775806) {k n : Int} {p q : List Int} (h : wordsFault (seen s) = 0) (hk : wordsKind (seen s) = k) (hp : wordsS (seen s) = p) (hq : wordsT k (seen s) = q) (hn : wordsN k (seen s) = n) (w : World) (hK : KindsLaid w) (hL : LibLaid w) :
    Calls Tryz.prog 14 #[.string s] w fun e w' => ∃ a0 c0 a1 c1, e = .returned (.tuple #[.agg #[.int .i64 k, .slice a0 p.length c0, .slice a1 q.length c1, .int .i64 n], .nilIface]) ∧ Reads w' (.slice a0 p.length c0) p ∧ Reads w' (.slice a1 q.length c1) q ∧ Below w.heap.size w w' := by
  refine (aparse_any s hz w hK hL).mono ?_
  rintro e w' ⟨a, rfl, hg, _, hb⟩
  obtain ⟨v0, v1, rfl, r0, r1⟩ := hg h
  rw [h, errV_0, hk]
  rw [hk] at r1
  rw [hp] at r0
  rw [hq] at r1
  rw [hn]
  obtain ⟨a0, c0, rfl, _⟩ := r0.slice
  obtain ⟨a1, c1, rfl, _⟩ := r1.slice
  exact ⟨a0, c0, a1, c1, rfl, r0, r1, hb⟩
/-- .. of one that is none. -/
theorem aparse_none (s : ByteArray) (hz : s.size ≤ 9223372036854775806) (h : ¬ wordsFault (seen s) = 0) (w : World) (hK : KindsLaid w) (hL : LibLaid w) :
    Calls Tryz.prog 14 #[.string s] w fun e w' => e = .returned (.tuple #[.agg #[.int .i64 0, .slice none 0 0, .slice none 0 0, .int .i64 0], .iface 51 (.int .i64 (wordsFault (seen s)))]) ∧ Below w.heap.size w w' := by
  refine (aparse_any s hz w hK hL).mono ?_
  rintro e w' ⟨a, rfl, _, hg, hb⟩
  rw [hg h, errV_no h]
  exact ⟨rfl, hb⟩
/-- .. of nomore A B -3. -/
theorem aparse_fact (w : World) (hK : KindsLaid w) (hL : LibLaid w) :
    Calls Tryz.prog 14 #[.string { data := #[110, 111, 109, 111, 114, 101, 32, 65, 32, 66, 32, 45, 51] }] w fun e w' => ∃ a0 l0 c0 b o c, e = .returned (.tuple #[.agg #[.int .i64 5, .slice a0 l0 c0, .slice (some ⟨b, o, none⟩) 1 c, .int .i64 (-3)], .nilIface]) ∧ b < w'.heap.size ∧ w'.cell? ⟨b, o, none⟩ = some (.int .i64 1) ∧ Below w.heap.size w w' := by
  obtain ⟨h0, h1, h2, h3⟩ := words_fact
  refine (aparse_good { data := #[110, 111, 109, 111, 114, 101, 32, 65, 32, 66, 32, 45, 51] } (by decide) h0 h1 rfl h2 h3 w hK hL).mono ?_
  rintro e w' ⟨a0, c0, a1, c1, he, r0, r1, hb⟩
  rcases r1 with ⟨_, _, _, h⟩ | ⟨b, o, c, hv, hB, _, _, hc⟩
  · cases h
  · cases hv
    exact ⟨a0, _, c0, b, o, _, he, hB, hc 0 (by decide), hb⟩
/-- Print of what Parse read. -/
theorem aprint_text (k n : Int) (vs vt : Value) (s t : List Int) (P : ByteArray) (h : atomFault k s t n = 0) (hP : strOf (atomText k s t n) = P) (w : World) (hS : Reads w vs s) (hT : Reads w vt t) (hK : KindsLaid w) (hL : LibLaid w) :
    Calls Tryz.prog 9 #[.agg #[.int .i64 k, vs, vt, .int .i64 n]] w fun e w' => e = .returned (.tuple #[.string P, .nilIface]) ∧ Below w.heap.size w w' := by
  have := aprint_any k n vs vt s t w hS hT hK hL
  have e : aprintS k s t n = P := by unfold aprintS; rw [if_pos h, hP]
  rw [e, h, errV_0] at this
  exact this
theorem aprint_none (k n : Int) (vs vt : Value) (s t : List Int) (h : ¬ atomFault k s t n = 0) (w : World) (hS : Reads w vs s) (hT : Reads w vt t) (hK : KindsLaid w) (hL : LibLaid w) :
    Calls Tryz.prog 9 #[.agg #[.int .i64 k, vs, vt, .int .i64 n]] w fun e w' => e = .returned (.tuple #[.string ⟨#[]⟩, .iface 51 (.int .i64 (atomFault k s t n))]) ∧ Below w.heap.size w w' := by
  have := aprint_any k n vs vt s t w hS hT hK hL
  have e : aprintS k s t n = ⟨#[]⟩ := by unfold aprintS; rw [if_neg h]
  rw [e, errV_no h] at this
  exact this

/-! ### Holds -/
theorem same_zero {W : Wd} {p q : List Int} (h : W.holdsFault 2 p q 0 = 0) : W.ok = true ∧ faultN p = 0 ∧ faultN q = 0 := by
  unfold Wd.holdsFault at h
  by_cases h1 : atomFault 2 p q 0 = 0
  · rw [if_pos h1] at h
    obtain ⟨_, hp, hq, _⟩ := atomFault_zero.1 h1
    refine ⟨?_, hp, second_reads hq (by decide)⟩
    by_cases h2 : W.ok = true
    · exact h2
    · rw [if_neg h2] at h; cases h
  · rw [if_neg h1] at h; exact absurd h h1
theorem two_fault {k : Int} (hk : k = 1 ∨ k = 2) {p q : List Int} (hp : faultN p = 0) (hq : faultN q = 0) : atomFault k p q 0 = 0 := by
  refine atomFault_zero.2 ⟨by omega, hp, ?_, ?_⟩
  · unfold secondFault
    rcases hk with rfl | rfl <;> exact hq
  · unfold mostN
    rcases hk with rfl | rfl <;> exact ⟨by decide, by decide⟩
theorem one_fault {k n : Int} (hk : k = 3 ∨ k = 4) (h0 : -20 ≤ n) (h1 : n ≤ 20) {p : List Int} (hp : faultN p = 0) : atomFault k p [] n = 0 := by
  refine atomFault_zero.2 ⟨by omega, hp, ?_, ?_⟩
  · rcases hk with rfl | rfl <;> rfl
  · unfold mostN
    rcases hk with rfl | rfl <;> exact ⟨by simp [numberB]; omega, by simp [numberB]; omega⟩
theorem holds_good (k n : Int) (vs vt : Value) (s t : List Int) (u a b c : Int) (x : Bool) (hw : (Wd.mk u a b c).ok = true) (hf : atomFault k s t n = 0) (hx : (Wd.mk u a b c).holds k s t n = x) (w : World) (hS : Reads w vs s) (hT : Reads w vt t) (hK : KindsLaid w) :
    Calls Tryz.prog 12 #[.agg #[.int .i64 k, vs, vt, .int .i64 n], .agg #[.int .i64 u, .int .i64 a, .int .i64 b, .int .i64 c]] w fun e w' => e = .returned (.tuple #[.bool x, .nilIface]) ∧ Below w.heap.size w w' := by
  have := aholds_any k n vs vt s t u a b c w hS hT hK
  have e0 : (Wd.mk u a b c).holdsFault k s t n = 0 := by unfold Wd.holdsFault; rw [if_pos hf, if_pos hw]
  have e1 : (Wd.mk u a b c).holdsIs k s t n = x := by unfold Wd.holdsIs; rw [if_pos e0, hx]
  rw [e0, e1, errV_0] at this
  exact this
theorem holds_none (k n : Int) (vs vt : Value) (s t : List Int) (u a b c : Int) (h : ¬ (Wd.mk u a b c).holdsFault k s t n = 0) (w : World) (hS : Reads w vs s) (hT : Reads w vt t) (hK : KindsLaid w) :
    Calls Tryz.prog 12 #[.agg #[.int .i64 k, vs, vt, .int .i64 n], .agg #[.int .i64 u, .int .i64 a, .int .i64 b, .int .i64 c]] w fun e w' => e = .returned (.tuple #[.bool false, .iface 51 (.int .i64 ((Wd.mk u a b c).holdsFault k s t n))]) ∧ Below w.heap.size w w' := by
  have := aholds_any k n vs vt s t u a b c w hS hT hK
  have e1 : (Wd.mk u a b c).holdsIs k s t n = false := by unfold Wd.holdsIs; rw [if_neg h]
  rw [e1, errV_no h] at this
  exact this
theorem reads_nil (w : World) : Reads w (.slice none 0 0) [] := Or.inl ⟨none, 0, rfl, rfl⟩
end Go.Proofs.YtenmheenieifpabGreatDoor
