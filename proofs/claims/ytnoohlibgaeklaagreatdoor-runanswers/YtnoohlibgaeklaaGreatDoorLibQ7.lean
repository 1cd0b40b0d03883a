/-
  Facts and contracts that the statement leans on.
-/
import Derived.Test.YtnoohlibgaeklaaGreatDoorLibQ5
import Derived.Test.YtnoohlibgaeklaaGreatDoorLibQ6
import Derived.Test.YtnoohlibgaeklaaGreatDoorLibQ3
namespace Go.Proofs.YtnoohlibgaeklaaGreatDoor
open Go.ChangeShapes Go.WideShapes Go.ChangeAt Go.RowKit
set_option maxRecDepth 100000
set_option maxHeartbeats 16000000
theorem kindOf_any (ws : List (List UInt8)) (v : Value) (w : World) (hK : KindsLaid w) (hR : ReadsS w v ws) (h1 : 0 < ws.length) :
    Calls Tryz.prog 89 #[v] w (Bk w (.int .i64 (wordsKind ws))) := by
 obtain ⟨b, cap, rfl, hb, _, hcell⟩ := hR
 have h0 := hcell 0 h1
 clear hcell
 have hk : ∀ x, ws.getD 0 [] = x → wordsKind ws = if ws.length = manyN (kindOfN x) then kindOfN x else 0 := by
  intro x hx; unfold wordsKind; rw [hx]
 by_cases x1 : ws.getD 0 [] = [115, 117, 98]
 ·rw [x1] at h0; rw [hk _ x1, show manyN (kindOfN [115, 117, 98]) = 3 by decide, show kindOfN [115, 117, 98] = 1 by decide]
  by_cases hl : ws.length = 3
  ·rw [if_pos hl, hl]; exact kindOf_hit1 b cap w hK h0
  ·rw [if_neg hl]; exact kindOf_miss1 b cap _ w hK hb h0 (by omega) h1
 by_cases x2 : ws.getD 0 [] = [115, 97, 109, 101]
 ·rw [x2] at h0; rw [hk _ x2, show manyN (kindOfN [115, 97, 109, 101]) = 3 by decide, show kindOfN [115, 97, 109, 101] = 2 by decide]
  by_cases hl : ws.length = 3
  ·rw [if_pos hl, hl]; exact kindOf_hit2 b cap w hK h0
  ·rw [if_neg hl]; exact kindOf_miss2 b cap _ w hK hb h0 (by omega) h1
 by_cases x3 : ws.getD 0 [] = [108, 101, 97, 115, 116]
 ·rw [x3] at h0; rw [hk _ x3, show manyN (kindOfN [108, 101, 97, 115, 116]) = 3 by decide, show kindOfN [108, 101, 97, 115, 116] = 3 by decide]
  by_cases hl : ws.length = 3
  ·rw [if_pos hl, hl]; exact kindOf_hit3 b cap w hK h0
  ·rw [if_neg hl]; exact kindOf_miss3 b cap _ w hK hb h0 (by omega) h1
 by_cases x4 : ws.getD 0 [] = [109, 111, 115, 116]
 ·rw [x4] at h0; rw [hk _ x4, show manyN (kindOfN [109, 111, 115, 116]) = 3 by decide, show kindOfN [109, 111, 115, 116] = 4 by decide]
  by_cases hl : ws.length = 3
  ·rw [if_pos hl, hl]; exact kindOf_hit4 b cap w hK h0
  ·rw [if_neg hl]; exact kindOf_miss4 b cap _ w hK hb h0 (by omega) h1
 by_cases x5 : ws.getD 0 [] = [110, 111, 109, 111, 114, 101]
 ·rw [x5] at h0; rw [hk _ x5, show manyN (kindOfN [110, 111, 109, 111, 114, 101]) = 4 by decide, show kindOfN [110, 111, 109, 111, 114, 101] = 5 by decide]
  by_cases hl : ws.length = 4
  ·rw [if_pos hl, hl]; exact kindOf_hit5 b cap w hK h0
  ·rw [if_neg hl]; exact kindOf_miss5 b cap _ w hK hb h0 (by omega) h1
 have e : wordsKind ws = 0 := by
  have e0 : kindOfN (ws.getD 0 []) = 0 := by unfold kindOfN; rw [if_neg x1, if_neg x2, if_neg x3, if_neg x4, if_neg x5]
  unfold wordsKind
  rw [e0]
  split <;> rfl
 rw [e]
 have q : ∀ l : List UInt8, ¬ ws.getD 0 [] = l → (l == (strOf (ws.getD 0 [])).toList) = false := by
  intro l hl
  rw [Lib.toList_data, strOf_list]
  simpa using fun h => hl h.symm
 exact kindOf_none b cap _ _ w hK h0 h1 (q _ x1) (q _ x2) (q _ x3) (q _ x4) (q _ x5)
end Go.Proofs.YtnoohlibgaeklaaGreatDoor
