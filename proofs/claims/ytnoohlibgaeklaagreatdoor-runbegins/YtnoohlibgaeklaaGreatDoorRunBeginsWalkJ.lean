/-
  Proved: vennlaw3.RunBegins returns true where run.Run answers to the first lines of a text by a beginning of its answers to all; what was in memory is as it was (the walk that the statement leans on).
-/
import Derived.Test.YtnoohlibgaeklaaGreatDoorRows
import Derived.WalkKit
import Derived.ProofKit
import Derived.OpenShut
import Derived.Below
import Derived.Deep.Cut
namespace Go.Proofs.YtnoohlibgaeklaaGreatDoor
open Go.ChangeShapes Go.WideShapes Go.ChangeAt Go.RowKit
set_option maxRecDepth 100000

/-- a text ends there, or has no line yet, or a line ends just ahead. -/
def EndsAt (s : ByteArray) (k : Nat) : Prop := k = s.size ∨ k = 0 ∨ ∃ (j : Nat) (h : j < s.size), k = j + 1 ∧ s[j]'h = 10

theorem runBegins_long (s : ByteArray) (many : Int) (hz : 3000 < s.size) (w : World)
    (HFact : Hid (∀ W, Below w.heap.size w W → Calls Tryz.prog 6 #[.string ⟨#[119, 111, 114, 108, 100, 115, 10, 115, 97, 121, 32, 108, 101, 97, 115, 116, 32, 65, 32, 51, 10, 102, 108, 121, 10, 97, 115, 107, 32, 115, 117, 98, 32, 66, 32, 65, 10, 115, 112, 97, 110, 32, 65, 10, 100, 101, 110, 121, 32, 108, 101, 97, 115, 116, 32, 65, 32, 52, 10, 115, 112, 97, 110, 32, 65, 126, 10, 109, 97, 110, 121, 10]⟩] W fun e w' => e = .returned (.string ⟨#[52, 48, 57, 54, 10, 111, 107, 10, 98, 97, 100, 10, 111, 112, 101, 110, 10, 51, 32, 52, 10, 111, 107, 10, 49, 32, 49, 10, 50, 10]⟩) ∧ Below W.heap.size W w'))
    (HRun : Hid (∀ W, Below w.heap.size w W → Calls Tryz.prog 6 #[.string s] W fun e w' => e = .returned (.string ⟨#[116, 111, 111, 32, 108, 111, 110, 103, 10]⟩) ∧ Below W.heap.size W w')) :
    Calls Tryz.prog 4 #[.string s, .int .i64 many] w fun e w' => e = .returned (.bool true) ∧ Below w.heap.size w w' := by
  have hz' : (3000 : Int) < (s.size : Int) := by omega
  clear hz
  go_enter Tryz.func4, Tryz.ntmps4
  go_wp2_with fail
  go_at_call 6
  refine (HFact.out _ (Below.refl _ _)).mono ?_
  rintro e w1 ⟨rfl, hb⟩
  have HB1 : Hid (Below w.heap.size w w1) := hb
  clear hb
  go_wp2_with fail
  go_at_call 6
  refine (HRun.out _ HB1.out).mono ?_
  rintro e w2 ⟨rfl, hb⟩
  have HB2 : Hid (Below w.heap.size w w2) := HB1.out.trans (hb.mono HB1.out.size)
  clear hb
  go_wp2
  go_ret
  exact ⟨by first | rfl | simp, HB2.out⟩

set_option maxHeartbeats 8000000 in
theorem runBegins_in (s : ByteArray) (many : Int) (hz : s.size ≤ 3000) (R : ByteArray → ByteArray) (w : World)
    (HFact : Hid (∀ W, Below w.heap.size w W → Calls Tryz.prog 6 #[.string ⟨#[119, 111, 114, 108, 100, 115, 10, 115, 97, 121, 32, 108, 101, 97, 115, 116, 32, 65, 32, 51, 10, 102, 108, 121, 10, 97, 115, 107, 32, 115, 117, 98, 32, 66, 32, 65, 10, 115, 112, 97, 110, 32, 65, 10, 100, 101, 110, 121, 32, 108, 101, 97, 115, 116, 32, 65, 32, 52, 10, 115, 112, 97, 110, 32, 65, 126, 10, 109, 97, 110, 121, 10]⟩] W fun e w' => e = .returned (.string ⟨#[52, 48, 57, 54, 10, 111, 107, 10, 98, 97, 100, 10, 111, 112, 101, 110, 10, 51, 32, 52, 10, 111, 107, 10, 49, 32, 49, 10, 50, 10]⟩) ∧ Below W.heap.size W w'))
    (HRun : Hid (∀ x W, Below w.heap.size w W → Calls Tryz.prog 6 #[.string x] W fun e w' => e = .returned (.string (R x)) ∧ Below W.heap.size W w'))
    (HPre : Hid (∀ k, k ≤ s.size → EndsAt s k → (R (s.extract 0 k)).size ≤ (R s).size ∧ (R s).extract 0 (R (s.extract 0 k)).size = R (s.extract 0 k)))
    (HSz : Hid ((R s).size ≤ 1048576)) :
    Calls Tryz.prog 4 #[.string s, .int .i64 many] w fun e w' => e = .returned (.bool true) ∧ Below w.heap.size w w' := by
  have hz' : ¬ (3000 : Int) < (s.size : Int) := by omega
  go_enter Tryz.func4, Tryz.ntmps4
  go_wp2_with fail
  go_at_call 6
  refine (HFact.out _ (Below.refl _ _)).mono ?_
  rintro e w1 ⟨rfl, hb⟩
  have HB1 : Hid (Below w.heap.size w w1) := hb
  clear hb
  go_wp2
  go_loopw [7, 8] (fun kv nv wr => ∃ k n : Nat, k ≤ s.size ∧ n ≤ k ∧ kv = .int .i64 k ∧ nv = .int .i64 n ∧ ((n : Int) < many ∨ Hid (EndsAt s k)) ∧ w1 = wr) (fun kv _ _ => s.size - (intOf kv).toNat)
  case atStart => exact ⟨0, 0, Nat.zero_le _, Nat.le_refl _, rfl, rfl, Or.inr (Or.inr (Or.inl rfl)), rfl⟩
  case round =>
    obtain ⟨k, n, hk, hnk, rfl, rfl, hor, hwr⟩ := hrel
    subst hwr
    have HOr : Hid ((n : Int) < many ∨ Hid (EndsAt s k)) := hor
    clear hor
    by_cases hlt : k < s.size
    · have hltz : (k : Int) < (s.size : Int) := by omega
      by_cases hn : (n : Int) < many
      · by_cases hb : s[k]'hlt = 10
        · have hb' : (((s[k]'hlt).toNat : Int) == 10) = true := by rw [hb]; rfl
          have HE : Hid (EndsAt s (k + 1)) := Or.inr (Or.inr ⟨k, hlt, rfl, hb⟩)
          clear hb
          go_wp2
          go_roundw
          case rel => exact ⟨k + 1, n + 1, by omega, by omega, by go_num, by go_num, Or.inr HE, by first | rfl | trivial⟩
          case measure => simp [intOf]; omega
        · have hb' : (((s[k]'hlt).toNat : Int) == 10) = false := by
            simp only [beq_eq_false_iff_ne, ne_eq]
            intro h
            exact hb (UInt8.toNat_inj.1 (by have : (s[k]'hlt).toNat = 10 := by omega
                                            rw [this]; rfl))
          clear hb
          go_wp2
          go_roundw
          case rel => exact ⟨k + 1, n, by omega, by omega, by go_num, rfl, Or.inl hn, by first | rfl | trivial⟩
          case measure => simp [intOf]; omega
      · have HE : Hid (EndsAt s k) := by
          rcases HOr.out with h | h
          · exact absurd h hn
          · exact h
        clear HOr
        obtain ⟨p1, p2⟩ := HPre.out k hk HE.out
        have HA := HRun.out (s.extract 0 k)
        have HB := HRun.out s
        have hs := HSz.out
        obtain ⟨A, hA⟩ : ∃ A, A = R (s.extract 0 k) := ⟨_, rfl⟩
        obtain ⟨B, hB⟩ : ∃ B, B = R s := ⟨_, rfl⟩
        rw [← hA] at HA p1 p2
        rw [← hB] at HB p1 p2 hs
        have HAr : Hid _ := HA
        have HBr : Hid _ := HB
        have HE2 : Hid (B.extract 0 A.size = A) := p2
        have p1' : (A.size : Int) ≤ (B.size : Int) := by omega
        have p0 : (0 : Int) ≤ (A.size : Int) := by omega
        have k0 : (0 : Int) ≤ (k : Int) := by omega
        have k1 : (k : Int) ≤ (s.size : Int) := by omega
        clear hA hB HA HB p2 HE
        go_wp2_with fail
        go_at_call 6
        refine (HAr.out _ HB1.out).mono ?_
        rintro e w3 ⟨rfl, hb⟩
        have HB3 : Hid (Below w.heap.size w w3) := HB1.out.trans (hb.mono HB1.out.size)
        clear hb
        go_wp2_with fail
        go_at_call 6
        refine (HBr.out _ HB3.out).mono ?_
        rintro e w4 ⟨rfl, hb⟩
        have HB4 : Hid (Below w.heap.size w w4) := HB3.out.trans (hb.mono HB3.out.size)
        clear hb
        go_wp2
        go_ret
        exact ⟨by first | (rw [HE2.out]; done) | (rw [HE2.out]; rfl) | (rw [HE2.out]; simp), HB4.out⟩
    · obtain rfl : k = s.size := by omega
      have hltz : ¬ (s.size : Int) < (s.size : Int) := by omega
      have HE : Hid (EndsAt s s.size) := Or.inl rfl
      clear HOr
      have HB := HRun.out s
      have hs := HSz.out
      obtain ⟨B, hB⟩ : ∃ B, B = R s := ⟨_, rfl⟩
      rw [← hB] at HB hs
      have HBr : Hid _ := HB
      have HE2 : Hid (B.extract 0 B.size = B) := by unfold Hid; simp
      have p0 : (0 : Int) ≤ (B.size : Int) := by omega
      have k0 : (0 : Int) ≤ (s.size : Int) := by omega
      clear hB HB HE
      go_wp2_with fail
      go_at_call 6
      refine (HBr.out _ HB1.out).mono ?_
      rintro e w3 ⟨rfl, hb⟩
      have HB3 : Hid (Below w.heap.size w w3) := HB1.out.trans (hb.mono HB1.out.size)
      clear hb
      go_wp2_with fail
      go_at_call 6
      refine (HBr.out _ HB3.out).mono ?_
      rintro e w4 ⟨rfl, hb⟩
      have HB4 : Hid (Below w.heap.size w w4) := HB3.out.trans (hb.mono HB3.out.size)
      clear hb
      go_wp2
      go_ret
      exact ⟨by first | rfl | (rw [HE2.out]; done) | (rw [HE2.out]; rfl) | (rw [HE2.out]; simp) | simp, HB4.out⟩
end Go.Proofs.YtnoohlibgaeklaaGreatDoor
