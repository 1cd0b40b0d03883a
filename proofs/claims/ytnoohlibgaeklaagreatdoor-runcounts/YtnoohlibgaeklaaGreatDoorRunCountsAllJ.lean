/-
  Proved: vennlaw3.RunCounts returns true, of any numbers, where run.Run answers as chapter 20 says; what was in memory is as it was (the walk that the statement leans on).
-/
import Derived.Test.YtnoohlibgaeklaaGreatDoorRunCountsWalkJ
import Derived.Test.YtnoohlibgaeklaaGreatDoorLibA12
import Derived.Test.YtnoohlibgaeklaaGreatDoorLibA8
namespace Go.Proofs.YtnoohlibgaeklaaGreatDoor
open Go.ChangeShapes Go.WideShapes Go.ChangeAt Go.RowKit
set_option maxRecDepth 100000

def countsP (a b : Nat) : List (List UInt8) := if b < a then [[111, 107], [69, 114, 114, 67, 108, 97, 115, 104], decT a ++ [32, 52], [121, 101, 115], []] else [[111, 107], [111, 107], decT a ++ [32] ++ decT b, [121, 101, 115], []]
theorem counts_cut : ∀ a, a < 5 → ∀ b, b < 5 → cutB 10 (countsA a b) = countsP a b := by decide +kernel
theorem txt_join (a b : List UInt8) : txtOf a ++ txtOf b = txtOf (a ++ b) := by
  apply ByteArray.ext
  simp [txtOf]
theorem runCounts_of (a b : Int) (w : World)
    (cRun : ∀ (x : ByteArray) (W : World), Below w.heap.size w W → Calls Tryz.prog 6 #[.string x] W fun e w' => e = .returned (.string (txtOf (runT x.data.toList))) ∧ Below W.heap.size W w') :
    Calls Tryz.prog 5 #[.int .i64 a, .int .i64 b] w fun e w' => e = .returned (.bool true) ∧ Below w.heap.size w w' := by
  by_cases h : 0 ≤ a ∧ a ≤ 4 ∧ 0 ≤ b ∧ b ≤ 4
  · obtain ⟨h1, h2, h3, h4⟩ := h
    obtain ⟨a, rfl⟩ := Int.eq_ofNat_of_zero_le h1
    obtain ⟨b, rfl⟩ := Int.eq_ofNat_of_zero_le h3
    have ha : a < 5 := by omega
    have hb : b < 5 := by omega
    refine runCounts_in a b (by omega) (by omega) (txtOf (decT a)) (txtOf (decT b)) (txtOf (countsA a b)) (by rw [txtOf_size]; exact decF_length 8 a) (by rw [txtOf_size]; exact decF_length 8 b) w (fun W => ?_) (fun W => ?_) (fun W hW => ?_) (fun W hW => ?_)
    · exact (refDigits_any a (by omega) W).mono fun _ _ h => ⟨h.1, h.2.symm⟩
    · exact (refDigits_any b (by omega) W).mono fun _ _ h => ⟨h.1, h.2.symm⟩
    · have hc := cRun (txtOf (countsT a b)) W hW
      have e : (txtOf (countsT a b)).data.toList = countsT a b := rfl
      rw [e, counts_fact a ha b hb] at hc
      have e2 : txtOf (countsT a b) = (((((txtOf [115, 97, 121, 32, 108, 101, 97, 115, 116, 32, 65, 32] ++ txtOf (decT a)) ++ txtOf [10, 115, 97, 121, 32, 109, 111, 115, 116, 32, 65, 32]) ++ txtOf (decT b)) ++ txtOf [10, 115, 112, 97, 110, 32, 65, 10, 97, 115, 107, 32, 108, 101, 97, 115, 116, 32, 65, 32]) ++ txtOf (decT a)) ++ txtOf [10] := by
        simp only [txt_join]; rfl
      rw [e2] at hc
      exact hc
    · have hs : (countsA a b).length ≤ 1048576 := by
        have := decF_length 8 a
        have := decF_length 8 b
        have e8 : ∀ u, decT u = decF 8 u := fun _ => rfl
        unfold countsA
        split <;> simp only [List.length_append, List.length_cons, List.length_nil, e8] <;> omega
      have hC := refCut_at 10 (txtOf (countsA a b)) (by rw [txtOf_size]; exact hs) W
      have e : (txtOf (countsA a b)).data.toList = countsA a b := rfl
      rw [e, counts_cut a ha b hb] at hC
      refine hC.mono ?_
      rintro e w' ⟨v, rfl, ⟨g, cap, rfl, hg, hcap, hc⟩, hbl⟩
      have hlen : (countsP a b).length = 5 := by unfold countsP; split <;> rfl
      rw [hlen] at hc
      refine ⟨g, cap, by rw [hlen], ?_, ?_, ?_, ?_, hbl⟩
      · have := hc 0 (by decide)
        rw [this]; unfold countsP; split <;> rfl
      · have := hc 1 (by decide)
        rw [this]; unfold countsP; split <;> rfl
      · have := hc 2 (by decide)
        rw [this]; unfold countsP
        split
        · rw [show (⟨#[32, 52]⟩ : ByteArray) = txtOf [32, 52] from rfl, txt_join]; rfl
        · rw [show (⟨#[32]⟩ : ByteArray) = txtOf [32] from rfl, txt_join, txt_join]; rfl
      · have := hc 3 (by decide)
        rw [this]; unfold countsP; split <;> rfl
  · refine runCounts_bad a b h w fun W hW => ?_
    have hc := cRun (txtOf [115, 97, 121, 32, 108, 101, 97, 115, 116, 32, 65, 32, 50, 49, 10]) W hW
    have e : (txtOf [115, 97, 121, 32, 108, 101, 97, 115, 116, 32, 65, 32, 50, 49, 10]).data.toList = [115, 97, 121, 32, 108, 101, 97, 115, 116, 32, 65, 32, 50, 49, 10] := rfl
    rw [e, counts_bad] at hc
    exact hc
end Go.Proofs.YtnoohlibgaeklaaGreatDoor
