/-
  Proved: what atom.Check (and checkSecond) returns, of any atom, where the table of kinds lies as the program's text lays it; what was in memory is as it was (a contract that the statements lean on).
-/
import Derived.Test.YtfnkbbpjfjendaiGreatDoorLibTX2
import Derived.Test.YtfnkbbpjfjendaiGreatDoorLibTX4
namespace Go.Proofs.YtfnkbbpjfjendaiGreatDoor
open Go.ChangeShapes Go.WideShapes Go.ChangeAt Go.RowKit

/-- the cells of the table of kinds. -/
def kindCells : List Value := [.string ⟨#[]⟩, .bool false, .bool false, .string ⟨#[115, 117, 98]⟩, .bool true, .bool false, .string ⟨#[115, 97, 109, 101]⟩, .bool true, .bool false, .string ⟨#[108, 101, 97, 115, 116]⟩, .bool false, .bool true, .string ⟨#[109, 111, 115, 116]⟩, .bool false, .bool true, .string ⟨#[110, 111, 109, 111, 114, 101]⟩, .bool true, .bool true]
/-- the table lies as it was laid. -/
def KindsLaid (w : World) : Prop := ∀ j, j < 18 → w.cell? ⟨1, j, none⟩ = some (kindCells.getD j .nilIface)
theorem KindsLaid.lt {w : World} (h : KindsLaid w) : 1 < w.heap.size := World.block_lt_of_cell? w ⟨1, 0, none⟩ (h 0 (by decide))
theorem KindsLaid.at {K : Nat} {w w' : World} (h : KindsLaid w) (hb : Below K w w') (hK : w.heap.size ≤ K) : KindsLaid w' := fun j hj => by
  rw [hb.cell (p := ⟨1, j, none⟩) (Nat.lt_of_lt_of_le h.lt hK)]; exact h j hj
theorem KindsLaid.below {w w' : World} (h : KindsLaid w) (hb : Below w.heap.size w w') : KindsLaid w' := h.at hb (Nat.le_refl _)

theorem Reads.slice {w : World} {v : Value} {t : List Int} (h : Reads w v t) : ∃ ao cap, v = .slice ao t.length cap ∧ t.length ≤ 9223372036854775807 := by
  rcases h with ⟨ao, cap, rfl, rfl⟩ | ⟨b, off, cap, rfl, _, _, h, _⟩
  · exact ⟨ao, cap, rfl, by simp⟩
  · exact ⟨_, cap, rfl, h.1⟩
theorem errV_0 : errV 0 = .nilIface := rfl

set_option maxRecDepth 100000 in
theorem csecond_1 (n : Int) (sao tao : Option Addr) (sl scap tcap : Nat) (t : List Int) (w : World) (hT : Reads w (.slice tao t.length tcap) t) (hK : KindsLaid w) :
    Calls Tryz.prog 53 #[.agg #[.int .i64 1, .slice sao sl scap, .slice tao t.length tcap, .int .i64 n]] w fun e w' => e = .returned (errV (faultN t)) ∧ Below w.heap.size w w' := by
  have hb1 := below_alloc1 w (.cells #[.int .i64 1, .slice sao sl scap, .slice tao t.length tcap, .int .i64 n] 40)
  have hq : (w.alloc (.cells #[.int .i64 1, .slice sao sl scap, .slice tao t.length tcap, .int .i64 n] 40)).cell? ⟨1, 4, none⟩ = some (.bool true) := (hK.below hb1) 4 (by decide)
  have HC : Hid (Calls Tryz.prog 52 #[.slice tao t.length tcap] (w.alloc (.cells #[.int .i64 1, .slice sao sl scap, .slice tao t.length tcap, .int .i64 n] 40)) fun e w' => e = .returned (errV (faultN t)) ∧ (w.alloc (.cells #[.int .i64 1, .slice sao sl scap, .slice tao t.length tcap, .int .i64 n] 40)) = w') := tcheck_any t _ _ (hT.below hb1)
  have HB : Hid (Below w.heap.size w (w.alloc (.cells #[.int .i64 1, .slice sao sl scap, .slice tao t.length tcap, .int .i64 n] 40))) := hb1
  clear hb1 hT hK
  obtain ⟨tl, htl⟩ : ∃ tl, tl = t.length := ⟨_, rfl⟩
  rw [← htl] at HC HB hq ⊢
  clear htl
  obtain ⟨E, hE⟩ : ∃ E, E = errV (faultN t) := ⟨_, rfl⟩
  rw [← hE] at HC ⊢
  clear hE
  go_enter Tryz.func53, Tryz.ntmps53
  go_wp2_with (go_at_call 52; refine HC.out.mono ?_; rintro e w' ⟨rfl, rfl⟩)
  go_ret
  exact ⟨rfl, HB.out⟩

set_option maxRecDepth 100000 in
theorem csecond_2 (n : Int) (sao tao : Option Addr) (sl scap tcap : Nat) (t : List Int) (w : World) (hT : Reads w (.slice tao t.length tcap) t) (hK : KindsLaid w) :
    Calls Tryz.prog 53 #[.agg #[.int .i64 2, .slice sao sl scap, .slice tao t.length tcap, .int .i64 n]] w fun e w' => e = .returned (errV (faultN t)) ∧ Below w.heap.size w w' := by
  have hb1 := below_alloc1 w (.cells #[.int .i64 2, .slice sao sl scap, .slice tao t.length tcap, .int .i64 n] 40)
  have hq : (w.alloc (.cells #[.int .i64 2, .slice sao sl scap, .slice tao t.length tcap, .int .i64 n] 40)).cell? ⟨1, 7, none⟩ = some (.bool true) := (hK.below hb1) 7 (by decide)
  have HC : Hid (Calls Tryz.prog 52 #[.slice tao t.length tcap] (w.alloc (.cells #[.int .i64 2, .slice sao sl scap, .slice tao t.length tcap, .int .i64 n] 40)) fun e w' => e = .returned (errV (faultN t)) ∧ (w.alloc (.cells #[.int .i64 2, .slice sao sl scap, .slice tao t.length tcap, .int .i64 n] 40)) = w') := tcheck_any t _ _ (hT.below hb1)
  have HB : Hid (Below w.heap.size w (w.alloc (.cells #[.int .i64 2, .slice sao sl scap, .slice tao t.length tcap, .int .i64 n] 40))) := hb1
  clear hb1 hT hK
  obtain ⟨tl, htl⟩ : ∃ tl, tl = t.length := ⟨_, rfl⟩
  rw [← htl] at HC HB hq ⊢
  clear htl
  obtain ⟨E, hE⟩ : ∃ E, E = errV (faultN t) := ⟨_, rfl⟩
  rw [← hE] at HC ⊢
  clear hE
  go_enter Tryz.func53, Tryz.ntmps53
  go_wp2_with (go_at_call 52; refine HC.out.mono ?_; rintro e w' ⟨rfl, rfl⟩)
  go_ret
  exact ⟨rfl, HB.out⟩

set_option maxRecDepth 100000 in
theorem csecond_5 (n : Int) (sao tao : Option Addr) (sl scap tcap : Nat) (t : List Int) (w : World) (hT : Reads w (.slice tao t.length tcap) t) (hK : KindsLaid w) :
    Calls Tryz.prog 53 #[.agg #[.int .i64 5, .slice sao sl scap, .slice tao t.length tcap, .int .i64 n]] w fun e w' => e = .returned (errV (faultN t)) ∧ Below w.heap.size w w' := by
  have hb1 := below_alloc1 w (.cells #[.int .i64 5, .slice sao sl scap, .slice tao t.length tcap, .int .i64 n] 40)
  have hq : (w.alloc (.cells #[.int .i64 5, .slice sao sl scap, .slice tao t.length tcap, .int .i64 n] 40)).cell? ⟨1, 16, none⟩ = some (.bool true) := (hK.below hb1) 16 (by decide)
  have HC : Hid (Calls Tryz.prog 52 #[.slice tao t.length tcap] (w.alloc (.cells #[.int .i64 5, .slice sao sl scap, .slice tao t.length tcap, .int .i64 n] 40)) fun e w' => e = .returned (errV (faultN t)) ∧ (w.alloc (.cells #[.int .i64 5, .slice sao sl scap, .slice tao t.length tcap, .int .i64 n] 40)) = w') := tcheck_any t _ _ (hT.below hb1)
  have HB : Hid (Below w.heap.size w (w.alloc (.cells #[.int .i64 5, .slice sao sl scap, .slice tao t.length tcap, .int .i64 n] 40))) := hb1
  clear hb1 hT hK
  obtain ⟨tl, htl⟩ : ∃ tl, tl = t.length := ⟨_, rfl⟩
  rw [← htl] at HC HB hq ⊢
  clear htl
  obtain ⟨E, hE⟩ : ∃ E, E = errV (faultN t) := ⟨_, rfl⟩
  rw [← hE] at HC ⊢
  clear hE
  go_enter Tryz.func53, Tryz.ntmps53
  go_wp2_with (go_at_call 52; refine HC.out.mono ?_; rintro e w' ⟨rfl, rfl⟩)
  go_ret
  exact ⟨rfl, HB.out⟩

set_option maxRecDepth 100000 in
theorem csecond_3 (n : Int) (sao tao : Option Addr) (sl scap tl tcap : Nat) (w : World) (hl : tl ≤ 9223372036854775807) (hK : KindsLaid w) :
    Calls Tryz.prog 53 #[.agg #[.int .i64 3, .slice sao sl scap, .slice tao tl tcap, .int .i64 n]] w fun e w' => e = .returned (errV (if 0 < tl then 3 else 0)) ∧ Below w.heap.size w w' := by
  have hb1 := below_alloc1 w (.cells #[.int .i64 3, .slice sao sl scap, .slice tao tl tcap, .int .i64 n] 40)
  have hq : (w.alloc (.cells #[.int .i64 3, .slice sao sl scap, .slice tao tl tcap, .int .i64 n] 40)).cell? ⟨1, 10, none⟩ = some (.bool false) := (hK.below hb1) 10 (by decide)
  have HB : Hid (Below w.heap.size w (w.alloc (.cells #[.int .i64 3, .slice sao sl scap, .slice tao tl tcap, .int .i64 n] 40))) := hb1
  clear hb1 hK
  by_cases h : 0 < tl
  · rw [if_pos h]
    go_enter Tryz.func53, Tryz.ntmps53
    go_wp2
    go_ret
    exact ⟨rfl, HB.out⟩
  · rw [if_neg h]
    obtain rfl : tl = 0 := by omega
    go_enter Tryz.func53, Tryz.ntmps53
    go_wp2
    go_ret
    exact ⟨rfl, HB.out⟩

set_option maxRecDepth 100000 in
theorem csecond_4 (n : Int) (sao tao : Option Addr) (sl scap tl tcap : Nat) (w : World) (hl : tl ≤ 9223372036854775807) (hK : KindsLaid w) :
    Calls Tryz.prog 53 #[.agg #[.int .i64 4, .slice sao sl scap, .slice tao tl tcap, .int .i64 n]] w fun e w' => e = .returned (errV (if 0 < tl then 3 else 0)) ∧ Below w.heap.size w w' := by
  have hb1 := below_alloc1 w (.cells #[.int .i64 4, .slice sao sl scap, .slice tao tl tcap, .int .i64 n] 40)
  have hq : (w.alloc (.cells #[.int .i64 4, .slice sao sl scap, .slice tao tl tcap, .int .i64 n] 40)).cell? ⟨1, 13, none⟩ = some (.bool false) := (hK.below hb1) 13 (by decide)
  have HB : Hid (Below w.heap.size w (w.alloc (.cells #[.int .i64 4, .slice sao sl scap, .slice tao tl tcap, .int .i64 n] 40))) := hb1
  clear hb1 hK
  by_cases h : 0 < tl
  · rw [if_pos h]
    go_enter Tryz.func53, Tryz.ntmps53
    go_wp2
    go_ret
    exact ⟨rfl, HB.out⟩
  · rw [if_neg h]
    obtain rfl : tl = 0 := by omega
    go_enter Tryz.func53, Tryz.ntmps53
    go_wp2
    go_ret
    exact ⟨rfl, HB.out⟩

theorem csecond_any (k n : Int) (vs vt : Value) (s t : List Int) (w : World) (hk : 1 ≤ k ∧ k ≤ 5) (hS : Reads w vs s) (hT : Reads w vt t) (hK : KindsLaid w) :
    Calls Tryz.prog 53 #[.agg #[.int .i64 k, vs, vt, .int .i64 n]] w fun e w' => e = .returned (errV (secondFault k t)) ∧ Below w.heap.size w w' := by
  obtain ⟨sao, scap, rfl, _⟩ := hS.slice
  obtain ⟨tao, tcap, rfl, hl⟩ := hT.slice
  rcases five hk.1 hk.2 with rfl | rfl | rfl | rfl | rfl
  · exact csecond_1 n sao tao _ scap tcap t w hT hK
  · exact csecond_2 n sao tao _ scap tcap t w hT hK
  · exact csecond_3 n sao tao _ scap _ tcap w hl hK
  · exact csecond_4 n sao tao _ scap _ tcap w hl hK
  · exact csecond_5 n sao tao _ scap tcap t w hT hK

set_option maxRecDepth 100000 in
theorem acheck_kind (k : Int) (n : Int) (sao tao : Option Addr) (sl scap tl tcap : Nat) (w : World) (hk : ¬ (1 ≤ k ∧ k ≤ 5)) :
    Calls Tryz.prog 30 #[.agg #[.int .i64 k, .slice sao sl scap, .slice tao tl tcap, .int .i64 n]] w fun e w' => e = .returned (.iface 55 (.int .i64 1)) ∧ Below w.heap.size w w' := by
  have HB : Hid (Below w.heap.size w (w.alloc (.cells #[.int .i64 k, .slice sao sl scap, .slice tao tl tcap, .int .i64 n] 40))) := below_alloc1 w _
  by_cases h : k < 1
  · clear hk
    go_enter Tryz.func30, Tryz.ntmps30
    go_wp2
    go_ret
    exact ⟨rfl, HB.out⟩
  · have h5 : 5 < k := by omega
    clear hk
    go_enter Tryz.func30, Tryz.ntmps30
    go_wp2
    go_ret
    exact ⟨rfl, HB.out⟩

set_option maxRecDepth 100000 in
theorem acheck_first1 (F : Int) (n : Int) (sao tao : Option Addr) (sl scap tl tcap : Nat) (w : World) (HC : Hid (Calls Tryz.prog 52 #[.slice sao sl scap] (w.alloc (.cells #[.int .i64 1, .slice sao sl scap, .slice tao tl tcap, .int .i64 n] 40)) fun e w' => e = .returned (.iface 55 (.int .i64 F)) ∧ (w.alloc (.cells #[.int .i64 1, .slice sao sl scap, .slice tao tl tcap, .int .i64 n] 40)) = w')) :
    Calls Tryz.prog 30 #[.agg #[.int .i64 1, .slice sao sl scap, .slice tao tl tcap, .int .i64 n]] w fun e w' => e = .returned (.iface 55 (.int .i64 F)) ∧ Below w.heap.size w w' := by
  have HB : Hid (Below w.heap.size w (w.alloc (.cells #[.int .i64 1, .slice sao sl scap, .slice tao tl tcap, .int .i64 n] 40))) := below_alloc1 w _
  go_enter Tryz.func30, Tryz.ntmps30
  go_wp2_with (go_at_call 52; refine HC.out.mono ?_; rintro e w' ⟨rfl, rfl⟩)
  go_ret
  exact ⟨rfl, HB.out⟩

set_option maxRecDepth 100000 in
theorem acheck_second1 (F : Int) (n : Int) (sao tao : Option Addr) (sl scap tl tcap : Nat) (w : World) (HC : Hid (Calls Tryz.prog 52 #[.slice sao sl scap] (w.alloc (.cells #[.int .i64 1, .slice sao sl scap, .slice tao tl tcap, .int .i64 n] 40)) fun e w' => e = .returned .nilIface ∧ (w.alloc (.cells #[.int .i64 1, .slice sao sl scap, .slice tao tl tcap, .int .i64 n] 40)) = w')) (HS : Hid (Calls Tryz.prog 53 #[.agg #[.int .i64 1, .slice sao sl scap, .slice tao tl tcap, .int .i64 n]] (w.alloc (.cells #[.int .i64 1, .slice sao sl scap, .slice tao tl tcap, .int .i64 n] 40)) fun e w' => e = .returned (.iface 55 (.int .i64 F)) ∧ Below (w.alloc (.cells #[.int .i64 1, .slice sao sl scap, .slice tao tl tcap, .int .i64 n] 40)).heap.size (w.alloc (.cells #[.int .i64 1, .slice sao sl scap, .slice tao tl tcap, .int .i64 n] 40)) w')) :
    Calls Tryz.prog 30 #[.agg #[.int .i64 1, .slice sao sl scap, .slice tao tl tcap, .int .i64 n]] w fun e w' => e = .returned (.iface 55 (.int .i64 F)) ∧ Below w.heap.size w w' := by
  have HB : Hid (Below w.heap.size w (w.alloc (.cells #[.int .i64 1, .slice sao sl scap, .slice tao tl tcap, .int .i64 n] 40))) := below_alloc1 w _
  go_enter Tryz.func30, Tryz.ntmps30
  go_wp2_with (first | (go_at_call 52; refine HC.out.mono ?_; rintro e w' ⟨rfl, rfl⟩) | (go_at_call 53; refine HS.out.mono ?_; rintro e w2 ⟨rfl, hb⟩; have HB2 : Hid (Below w.heap.size w w2) := HB.out.trans (hb.mono HB.out.size); clear hb))
  go_ret
  exact ⟨rfl, HB2.out⟩

set_option maxRecDepth 100000 in
theorem acheck_third1 (n : Int) (sao tao : Option Addr) (sl scap tl tcap : Nat) (w : World) (hK : KindsLaid w) (HC : Hid (Calls Tryz.prog 52 #[.slice sao sl scap] (w.alloc (.cells #[.int .i64 1, .slice sao sl scap, .slice tao tl tcap, .int .i64 n] 40)) fun e w' => e = .returned .nilIface ∧ (w.alloc (.cells #[.int .i64 1, .slice sao sl scap, .slice tao tl tcap, .int .i64 n] 40)) = w')) (HS : Hid (Calls Tryz.prog 53 #[.agg #[.int .i64 1, .slice sao sl scap, .slice tao tl tcap, .int .i64 n]] (w.alloc (.cells #[.int .i64 1, .slice sao sl scap, .slice tao tl tcap, .int .i64 n] 40)) fun e w' => e = .returned .nilIface ∧ Below (w.alloc (.cells #[.int .i64 1, .slice sao sl scap, .slice tao tl tcap, .int .i64 n] 40)).heap.size (w.alloc (.cells #[.int .i64 1, .slice sao sl scap, .slice tao tl tcap, .int .i64 n] 40)) w')) :
    Calls Tryz.prog 30 #[.agg #[.int .i64 1, .slice sao sl scap, .slice tao tl tcap, .int .i64 n]] w fun e w' => e = .returned (errV (if -0 ≤ n ∧ n ≤ 0 then 0 else 1)) ∧ Below w.heap.size w w' := by
  have HB : Hid (Below w.heap.size w (w.alloc (.cells #[.int .i64 1, .slice sao sl scap, .slice tao tl tcap, .int .i64 n] 40))) := below_alloc1 w _
  have HX : Hid ((w.alloc (.cells #[.int .i64 1, .slice sao sl scap, .slice tao tl tcap, .int .i64 n] 40)).cell? ⟨1, 5, none⟩ = some (.bool false) ∧ (w.alloc (.cells #[.int .i64 1, .slice sao sl scap, .slice tao tl tcap, .int .i64 n] 40)).cell? ⟨w.heap.size, 0, none⟩ = some (.int .i64 1) ∧ (w.alloc (.cells #[.int .i64 1, .slice sao sl scap, .slice tao tl tcap, .int .i64 n] 40)).cell? ⟨w.heap.size, 3, none⟩ = some (.int .i64 n)) := ⟨hK.below HB.out 5 (by decide), by simp, by simp⟩
  have HL : Hid (1 < (w.alloc (.cells #[.int .i64 1, .slice sao sl scap, .slice tao tl tcap, .int .i64 n] 40)).heap.size ∧ w.heap.size < (w.alloc (.cells #[.int .i64 1, .slice sao sl scap, .slice tao tl tcap, .int .i64 n] 40)).heap.size) := ⟨(hK.below HB.out).lt, by simp⟩
  clear hK
  by_cases h1 : n < -0
  · rw [if_neg (by omega), errV_no (by decide)]
    go_enter Tryz.func30, Tryz.ntmps30
    go_wp2_with (first | (go_at_call 52; refine HC.out.mono ?_; rintro e w' ⟨rfl, rfl⟩) | (go_at_call 53; refine HS.out.mono ?_; rintro e w2 ⟨rfl, hb⟩; have HB2 : Hid (Below w.heap.size w w2) := HB.out.trans (hb.mono HB.out.size); have q0 := (hb.cell (p := ⟨1, 5, none⟩) HL.out.1).trans HX.out.1; have q1 := (hb.cell (p := ⟨w.heap.size, 0, none⟩) HL.out.2).trans HX.out.2.1; have q2 := (hb.cell (p := ⟨w.heap.size, 3, none⟩) HL.out.2).trans HX.out.2.2; clear hb))
    go_ret
    exact ⟨rfl, HB2.out⟩
  by_cases h2 : 0 < n
  · rw [if_neg (by omega), errV_no (by decide)]
    go_enter Tryz.func30, Tryz.ntmps30
    go_wp2_with (first | (go_at_call 52; refine HC.out.mono ?_; rintro e w' ⟨rfl, rfl⟩) | (go_at_call 53; refine HS.out.mono ?_; rintro e w2 ⟨rfl, hb⟩; have HB2 : Hid (Below w.heap.size w w2) := HB.out.trans (hb.mono HB.out.size); have q0 := (hb.cell (p := ⟨1, 5, none⟩) HL.out.1).trans HX.out.1; have q1 := (hb.cell (p := ⟨w.heap.size, 0, none⟩) HL.out.2).trans HX.out.2.1; have q2 := (hb.cell (p := ⟨w.heap.size, 3, none⟩) HL.out.2).trans HX.out.2.2; clear hb))
    go_ret
    exact ⟨rfl, HB2.out⟩
  · rw [if_pos (by omega), errV_0]
    go_enter Tryz.func30, Tryz.ntmps30
    go_wp2_with (first | (go_at_call 52; refine HC.out.mono ?_; rintro e w' ⟨rfl, rfl⟩) | (go_at_call 53; refine HS.out.mono ?_; rintro e w2 ⟨rfl, hb⟩; have HB2 : Hid (Below w.heap.size w w2) := HB.out.trans (hb.mono HB.out.size); have q0 := (hb.cell (p := ⟨1, 5, none⟩) HL.out.1).trans HX.out.1; have q1 := (hb.cell (p := ⟨w.heap.size, 0, none⟩) HL.out.2).trans HX.out.2.1; have q2 := (hb.cell (p := ⟨w.heap.size, 3, none⟩) HL.out.2).trans HX.out.2.2; clear hb))
    go_ret
    exact ⟨rfl, HB2.out⟩

set_option maxRecDepth 100000 in
theorem acheck_first2 (F : Int) (n : Int) (sao tao : Option Addr) (sl scap tl tcap : Nat) (w : World) (HC : Hid (Calls Tryz.prog 52 #[.slice sao sl scap] (w.alloc (.cells #[.int .i64 2, .slice sao sl scap, .slice tao tl tcap, .int .i64 n] 40)) fun e w' => e = .returned (.iface 55 (.int .i64 F)) ∧ (w.alloc (.cells #[.int .i64 2, .slice sao sl scap, .slice tao tl tcap, .int .i64 n] 40)) = w')) :
    Calls Tryz.prog 30 #[.agg #[.int .i64 2, .slice sao sl scap, .slice tao tl tcap, .int .i64 n]] w fun e w' => e = .returned (.iface 55 (.int .i64 F)) ∧ Below w.heap.size w w' := by
  have HB : Hid (Below w.heap.size w (w.alloc (.cells #[.int .i64 2, .slice sao sl scap, .slice tao tl tcap, .int .i64 n] 40))) := below_alloc1 w _
  go_enter Tryz.func30, Tryz.ntmps30
  go_wp2_with (go_at_call 52; refine HC.out.mono ?_; rintro e w' ⟨rfl, rfl⟩)
  go_ret
  exact ⟨rfl, HB.out⟩

set_option maxRecDepth 100000 in
theorem acheck_second2 (F : Int) (n : Int) (sao tao : Option Addr) (sl scap tl tcap : Nat) (w : World) (HC : Hid (Calls Tryz.prog 52 #[.slice sao sl scap] (w.alloc (.cells #[.int .i64 2, .slice sao sl scap, .slice tao tl tcap, .int .i64 n] 40)) fun e w' => e = .returned .nilIface ∧ (w.alloc (.cells #[.int .i64 2, .slice sao sl scap, .slice tao tl tcap, .int .i64 n] 40)) = w')) (HS : Hid (Calls Tryz.prog 53 #[.agg #[.int .i64 2, .slice sao sl scap, .slice tao tl tcap, .int .i64 n]] (w.alloc (.cells #[.int .i64 2, .slice sao sl scap, .slice tao tl tcap, .int .i64 n] 40)) fun e w' => e = .returned (.iface 55 (.int .i64 F)) ∧ Below (w.alloc (.cells #[.int .i64 2, .slice sao sl scap, .slice tao tl tcap, .int .i64 n] 40)).heap.size (w.alloc (.cells #[.int .i64 2, .slice sao sl scap, .slice tao tl tcap, .int .i64 n] 40)) w')) :
    Calls Tryz.prog 30 #[.agg #[.int .i64 2, .slice sao sl scap, .slice tao tl tcap, .int .i64 n]] w fun e w' => e = .returned (.iface 55 (.int .i64 F)) ∧ Below w.heap.size w w' := by
  have HB : Hid (Below w.heap.size w (w.alloc (.cells #[.int .i64 2, .slice sao sl scap, .slice tao tl tcap, .int .i64 n] 40))) := below_alloc1 w _
  go_enter Tryz.func30, Tryz.ntmps30
  go_wp2_with (first | (go_at_call 52; refine HC.out.mono ?_; rintro e w' ⟨rfl, rfl⟩) | (go_at_call 53; refine HS.out.mono ?_; rintro e w2 ⟨rfl, hb⟩; have HB2 : Hid (Below w.heap.size w w2) := HB.out.trans (hb.mono HB.out.size); clear hb))
  go_ret
  exact ⟨rfl, HB2.out⟩

set_option maxRecDepth 100000 in
theorem acheck_third2 (n : Int) (sao tao : Option Addr) (sl scap tl tcap : Nat) (w : World) (hK : KindsLaid w) (HC : Hid (Calls Tryz.prog 52 #[.slice sao sl scap] (w.alloc (.cells #[.int .i64 2, .slice sao sl scap, .slice tao tl tcap, .int .i64 n] 40)) fun e w' => e = .returned .nilIface ∧ (w.alloc (.cells #[.int .i64 2, .slice sao sl scap, .slice tao tl tcap, .int .i64 n] 40)) = w')) (HS : Hid (Calls Tryz.prog 53 #[.agg #[.int .i64 2, .slice sao sl scap, .slice tao tl tcap, .int .i64 n]] (w.alloc (.cells #[.int .i64 2, .slice sao sl scap, .slice tao tl tcap, .int .i64 n] 40)) fun e w' => e = .returned .nilIface ∧ Below (w.alloc (.cells #[.int .i64 2, .slice sao sl scap, .slice tao tl tcap, .int .i64 n] 40)).heap.size (w.alloc (.cells #[.int .i64 2, .slice sao sl scap, .slice tao tl tcap, .int .i64 n] 40)) w')) :
    Calls Tryz.prog 30 #[.agg #[.int .i64 2, .slice sao sl scap, .slice tao tl tcap, .int .i64 n]] w fun e w' => e = .returned (errV (if -0 ≤ n ∧ n ≤ 0 then 0 else 1)) ∧ Below w.heap.size w w' := by
  have HB : Hid (Below w.heap.size w (w.alloc (.cells #[.int .i64 2, .slice sao sl scap, .slice tao tl tcap, .int .i64 n] 40))) := below_alloc1 w _
  have HX : Hid ((w.alloc (.cells #[.int .i64 2, .slice sao sl scap, .slice tao tl tcap, .int .i64 n] 40)).cell? ⟨1, 8, none⟩ = some (.bool false) ∧ (w.alloc (.cells #[.int .i64 2, .slice sao sl scap, .slice tao tl tcap, .int .i64 n] 40)).cell? ⟨w.heap.size, 0, none⟩ = some (.int .i64 2) ∧ (w.alloc (.cells #[.int .i64 2, .slice sao sl scap, .slice tao tl tcap, .int .i64 n] 40)).cell? ⟨w.heap.size, 3, none⟩ = some (.int .i64 n)) := ⟨hK.below HB.out 8 (by decide), by simp, by simp⟩
  have HL : Hid (1 < (w.alloc (.cells #[.int .i64 2, .slice sao sl scap, .slice tao tl tcap, .int .i64 n] 40)).heap.size ∧ w.heap.size < (w.alloc (.cells #[.int .i64 2, .slice sao sl scap, .slice tao tl tcap, .int .i64 n] 40)).heap.size) := ⟨(hK.below HB.out).lt, by simp⟩
  clear hK
  by_cases h1 : n < -0
  · rw [if_neg (by omega), errV_no (by decide)]
    go_enter Tryz.func30, Tryz.ntmps30
    go_wp2_with (first | (go_at_call 52; refine HC.out.mono ?_; rintro e w' ⟨rfl, rfl⟩) | (go_at_call 53; refine HS.out.mono ?_; rintro e w2 ⟨rfl, hb⟩; have HB2 : Hid (Below w.heap.size w w2) := HB.out.trans (hb.mono HB.out.size); have q0 := (hb.cell (p := ⟨1, 8, none⟩) HL.out.1).trans HX.out.1; have q1 := (hb.cell (p := ⟨w.heap.size, 0, none⟩) HL.out.2).trans HX.out.2.1; have q2 := (hb.cell (p := ⟨w.heap.size, 3, none⟩) HL.out.2).trans HX.out.2.2; clear hb))
    go_ret
    exact ⟨rfl, HB2.out⟩
  by_cases h2 : 0 < n
  · rw [if_neg (by omega), errV_no (by decide)]
    go_enter Tryz.func30, Tryz.ntmps30
    go_wp2_with (first | (go_at_call 52; refine HC.out.mono ?_; rintro e w' ⟨rfl, rfl⟩) | (go_at_call 53; refine HS.out.mono ?_; rintro e w2 ⟨rfl, hb⟩; have HB2 : Hid (Below w.heap.size w w2) := HB.out.trans (hb.mono HB.out.size); have q0 := (hb.cell (p := ⟨1, 8, none⟩) HL.out.1).trans HX.out.1; have q1 := (hb.cell (p := ⟨w.heap.size, 0, none⟩) HL.out.2).trans HX.out.2.1; have q2 := (hb.cell (p := ⟨w.heap.size, 3, none⟩) HL.out.2).trans HX.out.2.2; clear hb))
    go_ret
    exact ⟨rfl, HB2.out⟩
  · rw [if_pos (by omega), errV_0]
    go_enter Tryz.func30, Tryz.ntmps30
    go_wp2_with (first | (go_at_call 52; refine HC.out.mono ?_; rintro e w' ⟨rfl, rfl⟩) | (go_at_call 53; refine HS.out.mono ?_; rintro e w2 ⟨rfl, hb⟩; have HB2 : Hid (Below w.heap.size w w2) := HB.out.trans (hb.mono HB.out.size); have q0 := (hb.cell (p := ⟨1, 8, none⟩) HL.out.1).trans HX.out.1; have q1 := (hb.cell (p := ⟨w.heap.size, 0, none⟩) HL.out.2).trans HX.out.2.1; have q2 := (hb.cell (p := ⟨w.heap.size, 3, none⟩) HL.out.2).trans HX.out.2.2; clear hb))
    go_ret
    exact ⟨rfl, HB2.out⟩

set_option maxRecDepth 100000 in
theorem acheck_first3 (F : Int) (n : Int) (sao tao : Option Addr) (sl scap tl tcap : Nat) (w : World) (HC : Hid (Calls Tryz.prog 52 #[.slice sao sl scap] (w.alloc (.cells #[.int .i64 3, .slice sao sl scap, .slice tao tl tcap, .int .i64 n] 40)) fun e w' => e = .returned (.iface 55 (.int .i64 F)) ∧ (w.alloc (.cells #[.int .i64 3, .slice sao sl scap, .slice tao tl tcap, .int .i64 n] 40)) = w')) :
    Calls Tryz.prog 30 #[.agg #[.int .i64 3, .slice sao sl scap, .slice tao tl tcap, .int .i64 n]] w fun e w' => e = .returned (.iface 55 (.int .i64 F)) ∧ Below w.heap.size w w' := by
  have HB : Hid (Below w.heap.size w (w.alloc (.cells #[.int .i64 3, .slice sao sl scap, .slice tao tl tcap, .int .i64 n] 40))) := below_alloc1 w _
  go_enter Tryz.func30, Tryz.ntmps30
  go_wp2_with (go_at_call 52; refine HC.out.mono ?_; rintro e w' ⟨rfl, rfl⟩)
  go_ret
  exact ⟨rfl, HB.out⟩

set_option maxRecDepth 100000 in
theorem acheck_second3 (F : Int) (n : Int) (sao tao : Option Addr) (sl scap tl tcap : Nat) (w : World) (HC : Hid (Calls Tryz.prog 52 #[.slice sao sl scap] (w.alloc (.cells #[.int .i64 3, .slice sao sl scap, .slice tao tl tcap, .int .i64 n] 40)) fun e w' => e = .returned .nilIface ∧ (w.alloc (.cells #[.int .i64 3, .slice sao sl scap, .slice tao tl tcap, .int .i64 n] 40)) = w')) (HS : Hid (Calls Tryz.prog 53 #[.agg #[.int .i64 3, .slice sao sl scap, .slice tao tl tcap, .int .i64 n]] (w.alloc (.cells #[.int .i64 3, .slice sao sl scap, .slice tao tl tcap, .int .i64 n] 40)) fun e w' => e = .returned (.iface 55 (.int .i64 F)) ∧ Below (w.alloc (.cells #[.int .i64 3, .slice sao sl scap, .slice tao tl tcap, .int .i64 n] 40)).heap.size (w.alloc (.cells #[.int .i64 3, .slice sao sl scap, .slice tao tl tcap, .int .i64 n] 40)) w')) :
    Calls Tryz.prog 30 #[.agg #[.int .i64 3, .slice sao sl scap, .slice tao tl tcap, .int .i64 n]] w fun e w' => e = .returned (.iface 55 (.int .i64 F)) ∧ Below w.heap.size w w' := by
  have HB : Hid (Below w.heap.size w (w.alloc (.cells #[.int .i64 3, .slice sao sl scap, .slice tao tl tcap, .int .i64 n] 40))) := below_alloc1 w _
  go_enter Tryz.func30, Tryz.ntmps30
  go_wp2_with (first | (go_at_call 52; refine HC.out.mono ?_; rintro e w' ⟨rfl, rfl⟩) | (go_at_call 53; refine HS.out.mono ?_; rintro e w2 ⟨rfl, hb⟩; have HB2 : Hid (Below w.heap.size w w2) := HB.out.trans (hb.mono HB.out.size); clear hb))
  go_ret
  exact ⟨rfl, HB2.out⟩

set_option maxRecDepth 100000 in
theorem acheck_third3 (n : Int) (sao tao : Option Addr) (sl scap tl tcap : Nat) (w : World) (hK : KindsLaid w) (HC : Hid (Calls Tryz.prog 52 #[.slice sao sl scap] (w.alloc (.cells #[.int .i64 3, .slice sao sl scap, .slice tao tl tcap, .int .i64 n] 40)) fun e w' => e = .returned .nilIface ∧ (w.alloc (.cells #[.int .i64 3, .slice sao sl scap, .slice tao tl tcap, .int .i64 n] 40)) = w')) (HS : Hid (Calls Tryz.prog 53 #[.agg #[.int .i64 3, .slice sao sl scap, .slice tao tl tcap, .int .i64 n]] (w.alloc (.cells #[.int .i64 3, .slice sao sl scap, .slice tao tl tcap, .int .i64 n] 40)) fun e w' => e = .returned .nilIface ∧ Below (w.alloc (.cells #[.int .i64 3, .slice sao sl scap, .slice tao tl tcap, .int .i64 n] 40)).heap.size (w.alloc (.cells #[.int .i64 3, .slice sao sl scap, .slice tao tl tcap, .int .i64 n] 40)) w')) :
    Calls Tryz.prog 30 #[.agg #[.int .i64 3, .slice sao sl scap, .slice tao tl tcap, .int .i64 n]] w fun e w' => e = .returned (errV (if -20 ≤ n ∧ n ≤ 20 then 0 else 1)) ∧ Below w.heap.size w w' := by
  have HB : Hid (Below w.heap.size w (w.alloc (.cells #[.int .i64 3, .slice sao sl scap, .slice tao tl tcap, .int .i64 n] 40))) := below_alloc1 w _
  have HX : Hid ((w.alloc (.cells #[.int .i64 3, .slice sao sl scap, .slice tao tl tcap, .int .i64 n] 40)).cell? ⟨1, 11, none⟩ = some (.bool true) ∧ (w.alloc (.cells #[.int .i64 3, .slice sao sl scap, .slice tao tl tcap, .int .i64 n] 40)).cell? ⟨w.heap.size, 0, none⟩ = some (.int .i64 3) ∧ (w.alloc (.cells #[.int .i64 3, .slice sao sl scap, .slice tao tl tcap, .int .i64 n] 40)).cell? ⟨w.heap.size, 3, none⟩ = some (.int .i64 n)) := ⟨hK.below HB.out 11 (by decide), by simp, by simp⟩
  have HL : Hid (1 < (w.alloc (.cells #[.int .i64 3, .slice sao sl scap, .slice tao tl tcap, .int .i64 n] 40)).heap.size ∧ w.heap.size < (w.alloc (.cells #[.int .i64 3, .slice sao sl scap, .slice tao tl tcap, .int .i64 n] 40)).heap.size) := ⟨(hK.below HB.out).lt, by simp⟩
  clear hK
  by_cases h1 : n < -20
  · rw [if_neg (by omega), errV_no (by decide)]
    go_enter Tryz.func30, Tryz.ntmps30
    go_wp2_with (first | (go_at_call 52; refine HC.out.mono ?_; rintro e w' ⟨rfl, rfl⟩) | (go_at_call 53; refine HS.out.mono ?_; rintro e w2 ⟨rfl, hb⟩; have HB2 : Hid (Below w.heap.size w w2) := HB.out.trans (hb.mono HB.out.size); have q0 := (hb.cell (p := ⟨1, 11, none⟩) HL.out.1).trans HX.out.1; have q1 := (hb.cell (p := ⟨w.heap.size, 0, none⟩) HL.out.2).trans HX.out.2.1; have q2 := (hb.cell (p := ⟨w.heap.size, 3, none⟩) HL.out.2).trans HX.out.2.2; clear hb))
    go_ret
    exact ⟨rfl, HB2.out⟩
  by_cases h2 : 20 < n
  · rw [if_neg (by omega), errV_no (by decide)]
    go_enter Tryz.func30, Tryz.ntmps30
    go_wp2_with (first | (go_at_call 52; refine HC.out.mono ?_; rintro e w' ⟨rfl, rfl⟩) | (go_at_call 53; refine HS.out.mono ?_; rintro e w2 ⟨rfl, hb⟩; have HB2 : Hid (Below w.heap.size w w2) := HB.out.trans (hb.mono HB.out.size); have q0 := (hb.cell (p := ⟨1, 11, none⟩) HL.out.1).trans HX.out.1; have q1 := (hb.cell (p := ⟨w.heap.size, 0, none⟩) HL.out.2).trans HX.out.2.1; have q2 := (hb.cell (p := ⟨w.heap.size, 3, none⟩) HL.out.2).trans HX.out.2.2; clear hb))
    go_ret
    exact ⟨rfl, HB2.out⟩
  · rw [if_pos (by omega), errV_0]
    go_enter Tryz.func30, Tryz.ntmps30
    go_wp2_with (first | (go_at_call 52; refine HC.out.mono ?_; rintro e w' ⟨rfl, rfl⟩) | (go_at_call 53; refine HS.out.mono ?_; rintro e w2 ⟨rfl, hb⟩; have HB2 : Hid (Below w.heap.size w w2) := HB.out.trans (hb.mono HB.out.size); have q0 := (hb.cell (p := ⟨1, 11, none⟩) HL.out.1).trans HX.out.1; have q1 := (hb.cell (p := ⟨w.heap.size, 0, none⟩) HL.out.2).trans HX.out.2.1; have q2 := (hb.cell (p := ⟨w.heap.size, 3, none⟩) HL.out.2).trans HX.out.2.2; clear hb))
    go_ret
    exact ⟨rfl, HB2.out⟩

set_option maxRecDepth 100000 in
theorem acheck_first4 (F : Int) (n : Int) (sao tao : Option Addr) (sl scap tl tcap : Nat) (w : World) (HC : Hid (Calls Tryz.prog 52 #[.slice sao sl scap] (w.alloc (.cells #[.int .i64 4, .slice sao sl scap, .slice tao tl tcap, .int .i64 n] 40)) fun e w' => e = .returned (.iface 55 (.int .i64 F)) ∧ (w.alloc (.cells #[.int .i64 4, .slice sao sl scap, .slice tao tl tcap, .int .i64 n] 40)) = w')) :
    Calls Tryz.prog 30 #[.agg #[.int .i64 4, .slice sao sl scap, .slice tao tl tcap, .int .i64 n]] w fun e w' => e = .returned (.iface 55 (.int .i64 F)) ∧ Below w.heap.size w w' := by
  have HB : Hid (Below w.heap.size w (w.alloc (.cells #[.int .i64 4, .slice sao sl scap, .slice tao tl tcap, .int .i64 n] 40))) := below_alloc1 w _
  go_enter Tryz.func30, Tryz.ntmps30
  go_wp2_with (go_at_call 52; refine HC.out.mono ?_; rintro e w' ⟨rfl, rfl⟩)
  go_ret
  exact ⟨rfl, HB.out⟩

set_option maxRecDepth 100000 in
theorem acheck_second4 (F : Int) (n : Int) (sao tao : Option Addr) (sl scap tl tcap : Nat) (w : World) (HC : Hid (Calls Tryz.prog 52 #[.slice sao sl scap] (w.alloc (.cells #[.int .i64 4, .slice sao sl scap, .slice tao tl tcap, .int .i64 n] 40)) fun e w' => e = .returned .nilIface ∧ (w.alloc (.cells #[.int .i64 4, .slice sao sl scap, .slice tao tl tcap, .int .i64 n] 40)) = w')) (HS : Hid (Calls Tryz.prog 53 #[.agg #[.int .i64 4, .slice sao sl scap, .slice tao tl tcap, .int .i64 n]] (w.alloc (.cells #[.int .i64 4, .slice sao sl scap, .slice tao tl tcap, .int .i64 n] 40)) fun e w' => e = .returned (.iface 55 (.int .i64 F)) ∧ Below (w.alloc (.cells #[.int .i64 4, .slice sao sl scap, .slice tao tl tcap, .int .i64 n] 40)).heap.size (w.alloc (.cells #[.int .i64 4, .slice sao sl scap, .slice tao tl tcap, .int .i64 n] 40)) w')) :
    Calls Tryz.prog 30 #[.agg #[.int .i64 4, .slice sao sl scap, .slice tao tl tcap, .int .i64 n]] w fun e w' => e = .returned (.iface 55 (.int .i64 F)) ∧ Below w.heap.size w w' := by
  have HB : Hid (Below w.heap.size w (w.alloc (.cells #[.int .i64 4, .slice sao sl scap, .slice tao tl tcap, .int .i64 n] 40))) := below_alloc1 w _
  go_enter Tryz.func30, Tryz.ntmps30
  go_wp2_with (first | (go_at_call 52; refine HC.out.mono ?_; rintro e w' ⟨rfl, rfl⟩) | (go_at_call 53; refine HS.out.mono ?_; rintro e w2 ⟨rfl, hb⟩; have HB2 : Hid (Below w.heap.size w w2) := HB.out.trans (hb.mono HB.out.size); clear hb))
  go_ret
  exact ⟨rfl, HB2.out⟩

set_option maxRecDepth 100000 in
theorem acheck_third4 (n : Int) (sao tao : Option Addr) (sl scap tl tcap : Nat) (w : World) (hK : KindsLaid w) (HC : Hid (Calls Tryz.prog 52 #[.slice sao sl scap] (w.alloc (.cells #[.int .i64 4, .slice sao sl scap, .slice tao tl tcap, .int .i64 n] 40)) fun e w' => e = .returned .nilIface ∧ (w.alloc (.cells #[.int .i64 4, .slice sao sl scap, .slice tao tl tcap, .int .i64 n] 40)) = w')) (HS : Hid (Calls Tryz.prog 53 #[.agg #[.int .i64 4, .slice sao sl scap, .slice tao tl tcap, .int .i64 n]] (w.alloc (.cells #[.int .i64 4, .slice sao sl scap, .slice tao tl tcap, .int .i64 n] 40)) fun e w' => e = .returned .nilIface ∧ Below (w.alloc (.cells #[.int .i64 4, .slice sao sl scap, .slice tao tl tcap, .int .i64 n] 40)).heap.size (w.alloc (.cells #[.int .i64 4, .slice sao sl scap, .slice tao tl tcap, .int .i64 n] 40)) w')) :
    Calls Tryz.prog 30 #[.agg #[.int .i64 4, .slice sao sl scap, .slice tao tl tcap, .int .i64 n]] w fun e w' => e = .returned (errV (if -20 ≤ n ∧ n ≤ 20 then 0 else 1)) ∧ Below w.heap.size w w' := by
  have HB : Hid (Below w.heap.size w (w.alloc (.cells #[.int .i64 4, .slice sao sl scap, .slice tao tl tcap, .int .i64 n] 40))) := below_alloc1 w _
  have HX : Hid ((w.alloc (.cells #[.int .i64 4, .slice sao sl scap, .slice tao tl tcap, .int .i64 n] 40)).cell? ⟨1, 14, none⟩ = some (.bool true) ∧ (w.alloc (.cells #[.int .i64 4, .slice sao sl scap, .slice tao tl tcap, .int .i64 n] 40)).cell? ⟨w.heap.size, 0, none⟩ = some (.int .i64 4) ∧ (w.alloc (.cells #[.int .i64 4, .slice sao sl scap, .slice tao tl tcap, .int .i64 n] 40)).cell? ⟨w.heap.size, 3, none⟩ = some (.int .i64 n)) := ⟨hK.below HB.out 14 (by decide), by simp, by simp⟩
  have HL : Hid (1 < (w.alloc (.cells #[.int .i64 4, .slice sao sl scap, .slice tao tl tcap, .int .i64 n] 40)).heap.size ∧ w.heap.size < (w.alloc (.cells #[.int .i64 4, .slice sao sl scap, .slice tao tl tcap, .int .i64 n] 40)).heap.size) := ⟨(hK.below HB.out).lt, by simp⟩
  clear hK
  by_cases h1 : n < -20
  · rw [if_neg (by omega), errV_no (by decide)]
    go_enter Tryz.func30, Tryz.ntmps30
    go_wp2_with (first | (go_at_call 52; refine HC.out.mono ?_; rintro e w' ⟨rfl, rfl⟩) | (go_at_call 53; refine HS.out.mono ?_; rintro e w2 ⟨rfl, hb⟩; have HB2 : Hid (Below w.heap.size w w2) := HB.out.trans (hb.mono HB.out.size); have q0 := (hb.cell (p := ⟨1, 14, none⟩) HL.out.1).trans HX.out.1; have q1 := (hb.cell (p := ⟨w.heap.size, 0, none⟩) HL.out.2).trans HX.out.2.1; have q2 := (hb.cell (p := ⟨w.heap.size, 3, none⟩) HL.out.2).trans HX.out.2.2; clear hb))
    go_ret
    exact ⟨rfl, HB2.out⟩
  by_cases h2 : 20 < n
  · rw [if_neg (by omega), errV_no (by decide)]
    go_enter Tryz.func30, Tryz.ntmps30
    go_wp2_with (first | (go_at_call 52; refine HC.out.mono ?_; rintro e w' ⟨rfl, rfl⟩) | (go_at_call 53; refine HS.out.mono ?_; rintro e w2 ⟨rfl, hb⟩; have HB2 : Hid (Below w.heap.size w w2) := HB.out.trans (hb.mono HB.out.size); have q0 := (hb.cell (p := ⟨1, 14, none⟩) HL.out.1).trans HX.out.1; have q1 := (hb.cell (p := ⟨w.heap.size, 0, none⟩) HL.out.2).trans HX.out.2.1; have q2 := (hb.cell (p := ⟨w.heap.size, 3, none⟩) HL.out.2).trans HX.out.2.2; clear hb))
    go_ret
    exact ⟨rfl, HB2.out⟩
  · rw [if_pos (by omega), errV_0]
    go_enter Tryz.func30, Tryz.ntmps30
    go_wp2_with (first | (go_at_call 52; refine HC.out.mono ?_; rintro e w' ⟨rfl, rfl⟩) | (go_at_call 53; refine HS.out.mono ?_; rintro e w2 ⟨rfl, hb⟩; have HB2 : Hid (Below w.heap.size w w2) := HB.out.trans (hb.mono HB.out.size); have q0 := (hb.cell (p := ⟨1, 14, none⟩) HL.out.1).trans HX.out.1; have q1 := (hb.cell (p := ⟨w.heap.size, 0, none⟩) HL.out.2).trans HX.out.2.1; have q2 := (hb.cell (p := ⟨w.heap.size, 3, none⟩) HL.out.2).trans HX.out.2.2; clear hb))
    go_ret
    exact ⟨rfl, HB2.out⟩

set_option maxRecDepth 100000 in
theorem acheck_first5 (F : Int) (n : Int) (sao tao : Option Addr) (sl scap tl tcap : Nat) (w : World) (HC : Hid (Calls Tryz.prog 52 #[.slice sao sl scap] (w.alloc (.cells #[.int .i64 5, .slice sao sl scap, .slice tao tl tcap, .int .i64 n] 40)) fun e w' => e = .returned (.iface 55 (.int .i64 F)) ∧ (w.alloc (.cells #[.int .i64 5, .slice sao sl scap, .slice tao tl tcap, .int .i64 n] 40)) = w')) :
    Calls Tryz.prog 30 #[.agg #[.int .i64 5, .slice sao sl scap, .slice tao tl tcap, .int .i64 n]] w fun e w' => e = .returned (.iface 55 (.int .i64 F)) ∧ Below w.heap.size w w' := by
  have HB : Hid (Below w.heap.size w (w.alloc (.cells #[.int .i64 5, .slice sao sl scap, .slice tao tl tcap, .int .i64 n] 40))) := below_alloc1 w _
  go_enter Tryz.func30, Tryz.ntmps30
  go_wp2_with (go_at_call 52; refine HC.out.mono ?_; rintro e w' ⟨rfl, rfl⟩)
  go_ret
  exact ⟨rfl, HB.out⟩

set_option maxRecDepth 100000 in
theorem acheck_second5 (F : Int) (n : Int) (sao tao : Option Addr) (sl scap tl tcap : Nat) (w : World) (HC : Hid (Calls Tryz.prog 52 #[.slice sao sl scap] (w.alloc (.cells #[.int .i64 5, .slice sao sl scap, .slice tao tl tcap, .int .i64 n] 40)) fun e w' => e = .returned .nilIface ∧ (w.alloc (.cells #[.int .i64 5, .slice sao sl scap, .slice tao tl tcap, .int .i64 n] 40)) = w')) (HS : Hid (Calls Tryz.prog 53 #[.agg #[.int .i64 5, .slice sao sl scap, .slice tao tl tcap, .int .i64 n]] (w.alloc (.cells #[.int .i64 5, .slice sao sl scap, .slice tao tl tcap, .int .i64 n] 40)) fun e w' => e = .returned (.iface 55 (.int .i64 F)) ∧ Below (w.alloc (.cells #[.int .i64 5, .slice sao sl scap, .slice tao tl tcap, .int .i64 n] 40)).heap.size (w.alloc (.cells #[.int .i64 5, .slice sao sl scap, .slice tao tl tcap, .int .i64 n] 40)) w')) :
    Calls Tryz.prog 30 #[.agg #[.int .i64 5, .slice sao sl scap, .slice tao tl tcap, .int .i64 n]] w fun e w' => e = .returned (.iface 55 (.int .i64 F)) ∧ Below w.heap.size w w' := by
  have HB : Hid (Below w.heap.size w (w.alloc (.cells #[.int .i64 5, .slice sao sl scap, .slice tao tl tcap, .int .i64 n] 40))) := below_alloc1 w _
  go_enter Tryz.func30, Tryz.ntmps30
  go_wp2_with (first | (go_at_call 52; refine HC.out.mono ?_; rintro e w' ⟨rfl, rfl⟩) | (go_at_call 53; refine HS.out.mono ?_; rintro e w2 ⟨rfl, hb⟩; have HB2 : Hid (Below w.heap.size w w2) := HB.out.trans (hb.mono HB.out.size); clear hb))
  go_ret
  exact ⟨rfl, HB2.out⟩

set_option maxRecDepth 100000 in
theorem acheck_third5 (n : Int) (sao tao : Option Addr) (sl scap tl tcap : Nat) (w : World) (hK : KindsLaid w) (HC : Hid (Calls Tryz.prog 52 #[.slice sao sl scap] (w.alloc (.cells #[.int .i64 5, .slice sao sl scap, .slice tao tl tcap, .int .i64 n] 40)) fun e w' => e = .returned .nilIface ∧ (w.alloc (.cells #[.int .i64 5, .slice sao sl scap, .slice tao tl tcap, .int .i64 n] 40)) = w')) (HS : Hid (Calls Tryz.prog 53 #[.agg #[.int .i64 5, .slice sao sl scap, .slice tao tl tcap, .int .i64 n]] (w.alloc (.cells #[.int .i64 5, .slice sao sl scap, .slice tao tl tcap, .int .i64 n] 40)) fun e w' => e = .returned .nilIface ∧ Below (w.alloc (.cells #[.int .i64 5, .slice sao sl scap, .slice tao tl tcap, .int .i64 n] 40)).heap.size (w.alloc (.cells #[.int .i64 5, .slice sao sl scap, .slice tao tl tcap, .int .i64 n] 40)) w')) :
    Calls Tryz.prog 30 #[.agg #[.int .i64 5, .slice sao sl scap, .slice tao tl tcap, .int .i64 n]] w fun e w' => e = .returned (errV (if -20 ≤ n ∧ n ≤ 20 then 0 else 1)) ∧ Below w.heap.size w w' := by
  have HB : Hid (Below w.heap.size w (w.alloc (.cells #[.int .i64 5, .slice sao sl scap, .slice tao tl tcap, .int .i64 n] 40))) := below_alloc1 w _
  have HX : Hid ((w.alloc (.cells #[.int .i64 5, .slice sao sl scap, .slice tao tl tcap, .int .i64 n] 40)).cell? ⟨1, 17, none⟩ = some (.bool true) ∧ (w.alloc (.cells #[.int .i64 5, .slice sao sl scap, .slice tao tl tcap, .int .i64 n] 40)).cell? ⟨w.heap.size, 0, none⟩ = some (.int .i64 5) ∧ (w.alloc (.cells #[.int .i64 5, .slice sao sl scap, .slice tao tl tcap, .int .i64 n] 40)).cell? ⟨w.heap.size, 3, none⟩ = some (.int .i64 n)) := ⟨hK.below HB.out 17 (by decide), by simp, by simp⟩
  have HL : Hid (1 < (w.alloc (.cells #[.int .i64 5, .slice sao sl scap, .slice tao tl tcap, .int .i64 n] 40)).heap.size ∧ w.heap.size < (w.alloc (.cells #[.int .i64 5, .slice sao sl scap, .slice tao tl tcap, .int .i64 n] 40)).heap.size) := ⟨(hK.below HB.out).lt, by simp⟩
  clear hK
  by_cases h1 : n < -20
  · rw [if_neg (by omega), errV_no (by decide)]
    go_enter Tryz.func30, Tryz.ntmps30
    go_wp2_with (first | (go_at_call 52; refine HC.out.mono ?_; rintro e w' ⟨rfl, rfl⟩) | (go_at_call 53; refine HS.out.mono ?_; rintro e w2 ⟨rfl, hb⟩; have HB2 : Hid (Below w.heap.size w w2) := HB.out.trans (hb.mono HB.out.size); have q0 := (hb.cell (p := ⟨1, 17, none⟩) HL.out.1).trans HX.out.1; have q1 := (hb.cell (p := ⟨w.heap.size, 0, none⟩) HL.out.2).trans HX.out.2.1; have q2 := (hb.cell (p := ⟨w.heap.size, 3, none⟩) HL.out.2).trans HX.out.2.2; clear hb))
    go_ret
    exact ⟨rfl, HB2.out⟩
  by_cases h2 : 20 < n
  · rw [if_neg (by omega), errV_no (by decide)]
    go_enter Tryz.func30, Tryz.ntmps30
    go_wp2_with (first | (go_at_call 52; refine HC.out.mono ?_; rintro e w' ⟨rfl, rfl⟩) | (go_at_call 53; refine HS.out.mono ?_; rintro e w2 ⟨rfl, hb⟩; have HB2 : Hid (Below w.heap.size w w2) := HB.out.trans (hb.mono HB.out.size); have q0 := (hb.cell (p := ⟨1, 17, none⟩) HL.out.1).trans HX.out.1; have q1 := (hb.cell (p := ⟨w.heap.size, 0, none⟩) HL.out.2).trans HX.out.2.1; have q2 := (hb.cell (p := ⟨w.heap.size, 3, none⟩) HL.out.2).trans HX.out.2.2; clear hb))
    go_ret
    exact ⟨rfl, HB2.out⟩
  · rw [if_pos (by omega), errV_0]
    go_enter Tryz.func30, Tryz.ntmps30
    go_wp2_with (first | (go_at_call 52; refine HC.out.mono ?_; rintro e w' ⟨rfl, rfl⟩) | (go_at_call 53; refine HS.out.mono ?_; rintro e w2 ⟨rfl, hb⟩; have HB2 : Hid (Below w.heap.size w w2) := HB.out.trans (hb.mono HB.out.size); have q0 := (hb.cell (p := ⟨1, 17, none⟩) HL.out.1).trans HX.out.1; have q1 := (hb.cell (p := ⟨w.heap.size, 0, none⟩) HL.out.2).trans HX.out.2.1; have q2 := (hb.cell (p := ⟨w.heap.size, 3, none⟩) HL.out.2).trans HX.out.2.2; clear hb))
    go_ret
    exact ⟨rfl, HB2.out⟩

/-- Check, whatever the atom. -/
theorem acheck_any (k n : Int) (vs vt : Value) (s t : List Int) (w : World) (hS : Reads w vs s) (hT : Reads w vt t) (hK : KindsLaid w) :
    Calls Tryz.prog 30 #[.agg #[.int .i64 k, vs, vt, .int .i64 n]] w fun e w' => e = .returned (errV (atomFault k s t n)) ∧ Below w.heap.size w w' := by
  have hb1 := below_alloc1 w (.cells #[.int .i64 k, vs, vt, .int .i64 n] 40)
  have hC := tcheck_any s vs _ (hS.below hb1)
  have hS2 := fun h => csecond_any k n vs vt s t _ h (hS.below hb1) (hT.below hb1) (hK.below hb1)
  obtain ⟨sao, scap, rfl, _⟩ := hS.slice
  obtain ⟨tao, tcap, rfl, hl⟩ := hT.slice
  by_cases hk : 1 ≤ k ∧ k ≤ 5
  · have hS3 := hS2 hk
    clear hS2
    by_cases hs : faultN s = 0
    · rw [hs, errV_0] at hC
      by_cases ht : secondFault k t = 0
      · rw [ht, errV_0] at hS3
        rw [atomFault_third hk hs ht]
        clear hs ht
        rcases five hk.1 hk.2 with rfl | rfl | rfl | rfl | rfl
        · exact acheck_third1 n sao tao _ scap _ tcap w hK hC hS3
        · exact acheck_third2 n sao tao _ scap _ tcap w hK hC hS3
        · exact acheck_third3 n sao tao _ scap _ tcap w hK hC hS3
        · exact acheck_third4 n sao tao _ scap _ tcap w hK hC hS3
        · exact acheck_third5 n sao tao _ scap _ tcap w hK hC hS3
      · rw [errV_no ht] at hS3
        rw [atomFault_second hk hs ht, errV_no ht]
        obtain ⟨F, hF⟩ : ∃ F, F = secondFault k t := ⟨_, rfl⟩
        rw [← hF] at hS3 ⊢
        clear hs ht hF
        rcases five hk.1 hk.2 with rfl | rfl | rfl | rfl | rfl
        · exact acheck_second1 F n sao tao _ scap _ tcap w hC hS3
        · exact acheck_second2 F n sao tao _ scap _ tcap w hC hS3
        · exact acheck_second3 F n sao tao _ scap _ tcap w hC hS3
        · exact acheck_second4 F n sao tao _ scap _ tcap w hC hS3
        · exact acheck_second5 F n sao tao _ scap _ tcap w hC hS3
    · rw [errV_no hs] at hC
      rw [atomFault_first hk hs, errV_no hs]
      rcases five hk.1 hk.2 with rfl | rfl | rfl | rfl | rfl
      · exact acheck_first1 _ n sao tao _ scap _ tcap w hC
      · exact acheck_first2 _ n sao tao _ scap _ tcap w hC
      · exact acheck_first3 _ n sao tao _ scap _ tcap w hC
      · exact acheck_first4 _ n sao tao _ scap _ tcap w hC
      · exact acheck_first5 _ n sao tao _ scap _ tcap w hC
  · rw [atomFault_kind hk, errV_no (by decide)]
    exact acheck_kind k n sao tao _ scap _ tcap w hk
end Go.Proofs.YtfnkbbpjfjendaiGreatDoor
