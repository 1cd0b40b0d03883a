/-
  Proved: vennlaw3.RunAnswers returns true, of any text, where run.Run answers as chapter 20 says; what was in memory is as it was (the walk that the statement leans on).
-/
import Derived.Test.YtnoohlibgaeklaaGreatDoorRunAnswersWalkJ
namespace Go.Proofs.YtnoohlibgaeklaaGreatDoor
open Go.ChangeShapes Go.WideShapes Go.ChangeAt Go.RowKit
set_option maxRecDepth 100000
set_option maxHeartbeats 16000000
set_option maxRecDepth 100000
theorem runAnswers_long (s : ByteArray) (hz : 3000 < s.size) (w : World)
    (HRun : Hid (Calls Tryz.prog 6 #[.string s] w (Bk w (.string (txtOf longW))))) :
    Calls Tryz.prog 3 #[.string s] w (Bk w (.bool true)) := by
 have hz' : (3000 : Int) < (s.size : Int) := by omega
 clear hz
 have q : ((txtOf longW).toList == [116, 111, 111, 32, 108, 111, 110, 103, 10]) = true := wq_yes longW
 go_enter Tryz.func3, Tryz.ntmps3
 go_wp2_with fail
 go_at_call 6
 refine HRun.out.mono ?_
 rintro e w1 ⟨rfl, hb⟩
 have HB1 := hide hb
 clear hb
 go_wp2
 go_ret
 exact ⟨by first | rfl | (rw [q]) | simp, HB1.out⟩
theorem runAnswers_of (s : ByteArray) (w : World)
    (cRun : Calls Tryz.prog 6 #[.string s] w (Bk w (.string (txtOf (runT s.data.toList))))) :
    Calls Tryz.prog 3 #[.string s] w (Bk w (.bool true)) := by
 have hl : s.data.toList.length = s.size := Array.length_toList
 by_cases hz : 3000 < s.size
 ·have e : runT s.data.toList = longW := by unfold runT; rw [if_pos (by rw [hl]; exact hz)]
  rw [e] at cRun
  exact runAnswers_long s hz w cRun
 ·obtain ⟨t, ht⟩ := nm s.data.toList
  have es : s = strOf t := by rw [ht]; exact (strOf_data s).symm
  rw [← ht] at cRun hl
  have e : runT t = runF [] (runL t) := by unfold runT; rw [if_neg (by omega)]
  rw [e] at cRun
  obtain ⟨m, hm, hls, hor⟩ := runL_part t
  obtain ⟨c1, c2⟩ := cutB_small 10 t.length t (Nat.le_refl _)
  have hpos : 0 < (cutB 10 t).length := List.length_pos_iff.2 (cutB_ne 10 t)
  have hsz : (strOf t).size ≤ 1048576 := by rw [strOf_size]; omega
  rw [es] at cRun ⊢
  refine runAnswers_in t (by omega) (cutB 10 t) m hm hpos (by omega) (fun x hx => by have := c2 x hx; omega) hls hor w cRun fun W => ?_
  have hC := refCut_at 10 (strOf t) hsz W
  rw [strOf_list] at hC
  refine hC.mono ?_
  rintro e w' ⟨v, rfl, ⟨b, cap, rfl, hb, hcap, hc⟩, hbl⟩
  refine ⟨b, 0, cap, rfl, hcap, hb, fun i x hi => ?_, hbl⟩
  have hil := (List.getElem?_eq_some_iff.1 hi).1
  have h := hc i hil
  rw [List.getD_eq_getElem?_getD, hi] at h
  rw [Nat.zero_add]
  exact h
end Go.Proofs.YtnoohlibgaeklaaGreatDoor