/-
  Proved: vennlaw3.RunBegins returns true, of any text and any number, where run.Run answers as chapter 20 says; what was in memory is as it was (the walk that the statement leans on).
-/
import Derived.Test.YtnoohlibgaeklaaGreatDoorRunBeginsWalkJ
import Derived.Test.YtnoohlibgaeklaaGreatDoorLibA12
namespace Go.Proofs.YtnoohlibgaeklaaGreatDoor
open Go.ChangeShapes Go.WideShapes Go.ChangeAt Go.RowKit
set_option maxRecDepth 100000

theorem ends_parts {s : ByteArray} {k : Nat} (hk : k ≤ s.size) (h : EndsAt s k) : partsAt s.data.toList k := by
  have hl : s.data.toList.length = s.size := Array.length_toList
  rcases h with rfl | rfl | ⟨j, hj, rfl, hb⟩
  · exact Or.inl hl.symm
  · exact Or.inr (Or.inl rfl)
  · refine Or.inr (Or.inr ⟨s.data.toList.take j, ?_⟩)
    rw [List.take_add_one, List.getElem?_eq_getElem (by rw [hl]; exact hj)]
    have e : s.data.toList[j]'(by rw [hl]; exact hj) = 10 := hb
    rw [e]; rfl
theorem extract_list (s : ByteArray) (k : Nat) : (s.extract 0 k).data.toList = s.data.toList.take k := by
  rw [ByteArray.data_extract, Array.toList_extract]
  simp
theorem txt_begins {a b r : List UInt8} (h : b = a ++ r) : (txtOf a).size ≤ (txtOf b).size ∧ (txtOf b).extract 0 (txtOf a).size = txtOf a := by
  subst h
  rw [txtOf_size, txtOf_size, List.length_append]
  refine ⟨by omega, ?_⟩
  apply ByteArray.ext
  apply Array.ext'
  rw [extract_list]
  unfold txtOf
  simp
theorem runBegins_of (s : ByteArray) (many : Int) (w : World)
    (cRun : ∀ (x : ByteArray) (W : World), Below w.heap.size w W → Calls Tryz.prog 6 #[.string x] W fun e w' => e = .returned (.string (txtOf (runT x.data.toList))) ∧ Below W.heap.size W w') :
    Calls Tryz.prog 4 #[.string s, .int .i64 many] w fun e w' => e = .returned (.bool true) ∧ Below w.heap.size w w' := by
  have hl : s.data.toList.length = s.size := Array.length_toList
  have hF : ∀ W, Below w.heap.size w W → Calls Tryz.prog 6 #[.string (txtOf beginsT)] W fun e w' => e = .returned (.string (txtOf beginsA)) ∧ Below W.heap.size W w' := fun W hW => by
    have h := cRun (txtOf beginsT) W hW
    have e : (txtOf beginsT).data.toList = beginsT := rfl
    rw [e, begins_fact] at h
    exact h
  by_cases hz : 3000 < s.size
  · have e : runT s.data.toList = longW := by unfold runT; rw [if_pos (by rw [hl]; exact hz)]
    refine runBegins_long s many hz w hF fun W hW => ?_
    have h := cRun s W hW
    rw [e] at h
    exact h
  · refine runBegins_in s many (by omega) (fun x => txtOf (runT x.data.toList)) w hF cRun (fun k hk he => ?_) (by unfold Hid; rw [txtOf_size]; exact Nat.le_trans (runT_short _) (by decide))
    obtain ⟨r, hr⟩ := runT_begins (t := s.data.toList) (by omega) (by omega : k ≤ s.data.toList.length) (ends_parts hk he)
    rw [← extract_list] at hr
    exact txt_begins hr
end Go.Proofs.YtnoohlibgaeklaaGreatDoor
