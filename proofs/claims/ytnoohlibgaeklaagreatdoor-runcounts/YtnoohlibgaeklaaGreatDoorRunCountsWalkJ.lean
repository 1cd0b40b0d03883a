/-
  Proved: vennlaw3.RunCounts returns true where run.Run and the reference's Cut and Digits answer as chapter 20 says; what was in memory is as it was (the walk that the statement leans on).
-/
import Derived.Test.YtnoohlibgaeklaaGreatDoorRows
import Derived.WalkKit
import Derived.ProofKit
import Derived.OpenShut
import Derived.Below
import Derived.Deep.Cut
import Derived.Deep.QuietTactic
import Derived.Deep.RegionWith
import Derived.BigQuiet
namespace Go.Proofs.YtnoohlibgaeklaaGreatDoor
open Go.ChangeShapes Go.WideShapes Go.ChangeAt Go.RowKit
set_option maxRecDepth 100000

theorem drewN_below {B : Nat} {a w : World} (h : Below B a w) : ∀ n, Below B a (w.drewN n)
  | 0 => h
  | n + 1 => (drewN_below h n).drew

theorem runCounts_bad (a b : Int) (h : ¬ (0 ≤ a ∧ a ≤ 4 ∧ 0 ≤ b ∧ b ≤ 4)) (w : World)
    (HRun : Hid (∀ W, Below w.heap.size w W → Calls Tryz.prog 6 #[.string ⟨#[115, 97, 121, 32, 108, 101, 97, 115, 116, 32, 65, 32, 50, 49, 10]⟩] W fun e w' => e = .returned (.string ⟨#[98, 97, 100, 10]⟩) ∧ Below W.heap.size W w')) :
    Calls Tryz.prog 5 #[.int .i64 a, .int .i64 b] w fun e w' => e = .returned (.bool true) ∧ Below w.heap.size w w' := by
  have hc : a < 0 ∨ (¬ a < 0 ∧ 4 < a) ∨ (¬ a < 0 ∧ ¬ 4 < a ∧ b < 0) ∨ (¬ a < 0 ∧ ¬ 4 < a ∧ ¬ b < 0 ∧ 4 < b) := by omega
  clear h
  rcases hc with h1 | ⟨h1, h2⟩ | ⟨h1, h2, h3⟩ | ⟨h1, h2, h3, h4⟩
  all_goals
    go_enter Tryz.func5, Tryz.ntmps5
    go_wp2_with fail
    go_at_call 6
    refine (HRun.out _ (Below.refl _ _)).mono ?_
    rintro e w1 ⟨rfl, hb⟩
    have HB1 : Hid (Below w.heap.size w w1) := hb
    clear hb
    go_wp2
    go_ret
    exact ⟨by first | rfl | simp, HB1.out⟩

set_option maxHeartbeats 8000000 in
theorem runCounts_in (a b : Nat) (ha : a ≤ 4) (hb : b ≤ 4) (DA DB T : ByteArray) (hDA : DA.size ≤ 9) (hDB : DB.size ≤ 9) (w : World)
    (HDa : Hid (∀ W, Calls Tryz.prog 9 #[.int .i64 a] W fun e w' => e = .returned (.string DA) ∧ w' = W))
    (HDb : Hid (∀ W, Calls Tryz.prog 9 #[.int .i64 b] W fun e w' => e = .returned (.string DB) ∧ w' = W))
    (HRun : Hid (∀ W, Below w.heap.size w W → Calls Tryz.prog 6 #[.string ((((((⟨#[115, 97, 121, 32, 108, 101, 97, 115, 116, 32, 65, 32]⟩ ++ DA) ++ ⟨#[10, 115, 97, 121, 32, 109, 111, 115, 116, 32, 65, 32]⟩) ++ DB) ++ ⟨#[10, 115, 112, 97, 110, 32, 65, 10, 97, 115, 107, 32, 108, 101, 97, 115, 116, 32, 65, 32]⟩) ++ DA) ++ ⟨#[10]⟩)] W fun e w' => e = .returned (.string T) ∧ Below W.heap.size W w'))
    (HCut : Hid (∀ W, Below w.heap.size w W → Calls Tryz.prog 7 #[.string T, .int .u8 10] W fun e w' => ∃ g cap, e = .returned (.slice (some ⟨g, 0, none⟩) 5 cap) ∧ w'.cell? ⟨g, 0, none⟩ = some (.string ⟨#[111, 107]⟩) ∧ w'.cell? ⟨g, 1, none⟩ = some (.string (if b < a then ⟨#[69, 114, 114, 67, 108, 97, 115, 104]⟩ else ⟨#[111, 107]⟩)) ∧ w'.cell? ⟨g, 2, none⟩ = some (.string (if b < a then DA ++ ⟨#[32, 52]⟩ else (DA ++ ⟨#[32]⟩) ++ DB)) ∧ w'.cell? ⟨g, 3, none⟩ = some (.string ⟨#[121, 101, 115]⟩) ∧ Below W.heap.size W w')) :
    Calls Tryz.prog 5 #[.int .i64 a, .int .i64 b] w fun e w' => e = .returned (.bool true) ∧ Below w.heap.size w w' := by
  have h1 : ¬ (a : Int) < 0 := by omega
  have h2 : ¬ 4 < (a : Int) := by omega
  have h3 : ¬ (b : Int) < 0 := by omega
  have h4 : ¬ 4 < (b : Int) := by omega
  have s1 : ((⟨#[115, 97, 121, 32, 108, 101, 97, 115, 116, 32, 65, 32]⟩ : ByteArray) ++ DA).size ≤ 21 := by simp only [ByteArray.size_append]; show _ ≤ _; first | (have : ((⟨#[115, 97, 121, 32, 108, 101, 97, 115, 116, 32, 65, 32]⟩ : ByteArray)).size = 12 := rfl; have : (⟨#[10, 115, 97, 121, 32, 109, 111, 115, 116, 32, 65, 32]⟩ : ByteArray).size = 12 := rfl; have : (⟨#[10, 115, 112, 97, 110, 32, 65, 10, 97, 115, 107, 32, 108, 101, 97, 115, 116, 32, 65, 32]⟩ : ByteArray).size = 20 := rfl; have : (⟨#[10]⟩ : ByteArray).size = 1 := rfl; omega)
  have s2 : (((⟨#[115, 97, 121, 32, 108, 101, 97, 115, 116, 32, 65, 32]⟩ : ByteArray) ++ DA) ++ ⟨#[10, 115, 97, 121, 32, 109, 111, 115, 116, 32, 65, 32]⟩).size ≤ 33 := by simp only [ByteArray.size_append]; show _ ≤ _; first | (have : ((⟨#[115, 97, 121, 32, 108, 101, 97, 115, 116, 32, 65, 32]⟩ : ByteArray)).size = 12 := rfl; have : (⟨#[10, 115, 97, 121, 32, 109, 111, 115, 116, 32, 65, 32]⟩ : ByteArray).size = 12 := rfl; have : (⟨#[10, 115, 112, 97, 110, 32, 65, 10, 97, 115, 107, 32, 108, 101, 97, 115, 116, 32, 65, 32]⟩ : ByteArray).size = 20 := rfl; have : (⟨#[10]⟩ : ByteArray).size = 1 := rfl; omega)
  have s3 : ((((⟨#[115, 97, 121, 32, 108, 101, 97, 115, 116, 32, 65, 32]⟩ : ByteArray) ++ DA) ++ ⟨#[10, 115, 97, 121, 32, 109, 111, 115, 116, 32, 65, 32]⟩) ++ DB).size ≤ 42 := by simp only [ByteArray.size_append]; show _ ≤ _; first | (have : ((⟨#[115, 97, 121, 32, 108, 101, 97, 115, 116, 32, 65, 32]⟩ : ByteArray)).size = 12 := rfl; have : (⟨#[10, 115, 97, 121, 32, 109, 111, 115, 116, 32, 65, 32]⟩ : ByteArray).size = 12 := rfl; have : (⟨#[10, 115, 112, 97, 110, 32, 65, 10, 97, 115, 107, 32, 108, 101, 97, 115, 116, 32, 65, 32]⟩ : ByteArray).size = 20 := rfl; have : (⟨#[10]⟩ : ByteArray).size = 1 := rfl; omega)
  have s4 : (((((⟨#[115, 97, 121, 32, 108, 101, 97, 115, 116, 32, 65, 32]⟩ : ByteArray) ++ DA) ++ ⟨#[10, 115, 97, 121, 32, 109, 111, 115, 116, 32, 65, 32]⟩) ++ DB) ++ ⟨#[10, 115, 112, 97, 110, 32, 65, 10, 97, 115, 107, 32, 108, 101, 97, 115, 116, 32, 65, 32]⟩).size ≤ 62 := by simp only [ByteArray.size_append]; show _ ≤ _; first | (have : ((⟨#[115, 97, 121, 32, 108, 101, 97, 115, 116, 32, 65, 32]⟩ : ByteArray)).size = 12 := rfl; have : (⟨#[10, 115, 97, 121, 32, 109, 111, 115, 116, 32, 65, 32]⟩ : ByteArray).size = 12 := rfl; have : (⟨#[10, 115, 112, 97, 110, 32, 65, 10, 97, 115, 107, 32, 108, 101, 97, 115, 116, 32, 65, 32]⟩ : ByteArray).size = 20 := rfl; have : (⟨#[10]⟩ : ByteArray).size = 1 := rfl; omega)
  have s5 : ((((((⟨#[115, 97, 121, 32, 108, 101, 97, 115, 116, 32, 65, 32]⟩ : ByteArray) ++ DA) ++ ⟨#[10, 115, 97, 121, 32, 109, 111, 115, 116, 32, 65, 32]⟩) ++ DB) ++ ⟨#[10, 115, 112, 97, 110, 32, 65, 10, 97, 115, 107, 32, 108, 101, 97, 115, 116, 32, 65, 32]⟩) ++ DA).size ≤ 71 := by simp only [ByteArray.size_append]; show _ ≤ _; first | (have : ((⟨#[115, 97, 121, 32, 108, 101, 97, 115, 116, 32, 65, 32]⟩ : ByteArray)).size = 12 := rfl; have : (⟨#[10, 115, 97, 121, 32, 109, 111, 115, 116, 32, 65, 32]⟩ : ByteArray).size = 12 := rfl; have : (⟨#[10, 115, 112, 97, 110, 32, 65, 10, 97, 115, 107, 32, 108, 101, 97, 115, 116, 32, 65, 32]⟩ : ByteArray).size = 20 := rfl; have : (⟨#[10]⟩ : ByteArray).size = 1 := rfl; omega)
  have s6 : (((((((⟨#[115, 97, 121, 32, 108, 101, 97, 115, 116, 32, 65, 32]⟩ : ByteArray) ++ DA) ++ ⟨#[10, 115, 97, 121, 32, 109, 111, 115, 116, 32, 65, 32]⟩) ++ DB) ++ ⟨#[10, 115, 112, 97, 110, 32, 65, 10, 97, 115, 107, 32, 108, 101, 97, 115, 116, 32, 65, 32]⟩) ++ DA) ++ ⟨#[10]⟩).size ≤ 72 := by simp only [ByteArray.size_append]; show _ ≤ _; first | (have : ((⟨#[115, 97, 121, 32, 108, 101, 97, 115, 116, 32, 65, 32]⟩ : ByteArray)).size = 12 := rfl; have : (⟨#[10, 115, 97, 121, 32, 109, 111, 115, 116, 32, 65, 32]⟩ : ByteArray).size = 12 := rfl; have : (⟨#[10, 115, 112, 97, 110, 32, 65, 10, 97, 115, 107, 32, 108, 101, 97, 115, 116, 32, 65, 32]⟩ : ByteArray).size = 20 := rfl; have : (⟨#[10]⟩ : ByteArray).size = 1 := rfl; omega)
  by_cases hab : b < a
  · rw [if_pos hab, if_pos hab] at HCut
    have habz : (b : Int) < (a : Int) := by omega
    go_enter Tryz.func5, Tryz.ntmps5
    go_wp2_with fail
    go_at_call 9
    refine (HDa.out _).mono ?_
    rintro e w1 ⟨rfl, rfl⟩
    go_wp2_with fail
    go_at_call 9
    refine (HDb.out _).mono ?_
    rintro e w2 ⟨rfl, rfl⟩
    go_wp2_with fail
    go_at_call 9
    refine (HDa.out _).mono ?_
    rintro e w3 ⟨rfl, rfl⟩
    go_wp2_with fail
    go_at_call 6
    refine (HRun.out _ (Below.refl _ _)).mono ?_
    rintro e w4 ⟨rfl, hb4⟩
    have HB4 : Hid (Below _ _ w4) := hb4
    clear hb4 s1 s2 s3 s4 s5 s6
    go_wp2_with fail
    go_at_call 7
    refine (HCut.out _ HB4.out).mono ?_
    rintro e w5 ⟨g, cap, rfl, c0, c1, c2, c3, hb5⟩
    have HB5 : Hid (Below _ _ w5) := HB4.out.trans (hb5.mono HB4.out.size)
    clear hb5
    go_wp2_with fail
    have q1 : (DA ++ (⟨#[32, 52]⟩ : ByteArray)).size ≤ 11 := by rw [ByteArray.size_append]; have : (⟨#[32, 52]⟩ : ByteArray).size = 2 := rfl; omega
    have HD1 := HDa.out
    go_quiet (first | (go_at_call 9; refine Calls.quiet_of_same (HD1 _)))
    go_wp2
    go_ret
    exact ⟨by first | rfl | simp, drewN_below HB5.out _⟩
  · rw [if_neg hab, if_neg hab] at HCut
    have habz : ¬ (b : Int) < (a : Int) := by omega
    go_enter Tryz.func5, Tryz.ntmps5
    go_wp2_with fail
    go_at_call 9
    refine (HDa.out _).mono ?_
    rintro e w1 ⟨rfl, rfl⟩
    go_wp2_with fail
    go_at_call 9
    refine (HDb.out _).mono ?_
    rintro e w2 ⟨rfl, rfl⟩
    go_wp2_with fail
    go_at_call 9
    refine (HDa.out _).mono ?_
    rintro e w3 ⟨rfl, rfl⟩
    go_wp2_with fail
    go_at_call 6
    refine (HRun.out _ (Below.refl _ _)).mono ?_
    rintro e w4 ⟨rfl, hb4⟩
    have HB4 : Hid (Below _ _ w4) := hb4
    clear hb4 s1 s2 s3 s4 s5 s6
    go_wp2_with fail
    go_at_call 7
    refine (HCut.out _ HB4.out).mono ?_
    rintro e w5 ⟨g, cap, rfl, c0, c1, c2, c3, hb5⟩
    have HB5 : Hid (Below _ _ w5) := HB4.out.trans (hb5.mono HB4.out.size)
    clear hb5
    go_wp2_with fail
    have q0 : (DA ++ (⟨#[32]⟩ : ByteArray)).size ≤ 10 := by rw [ByteArray.size_append]; have : (⟨#[32]⟩ : ByteArray).size = 1 := rfl; omega
    have q1 : (DA ++ (⟨#[32]⟩ : ByteArray) ++ DB).size ≤ 19 := by rw [ByteArray.size_append]; omega
    have HD1 := HDa.out
    have HD2 := HDb.out
    go_quiet (first | (go_at_call_of 9 (Value.int .i64 (a : Int)); refine Calls.quiet_of_same (HD1 _)) | (go_at_call 9; refine Calls.quiet_of_same (HD2 _)))
    go_wp2
    go_ret
    exact ⟨by first | rfl | simp, drewN_below HB5.out _⟩
end Go.Proofs.YtnoohlibgaeklaaGreatDoor
