/-
  Proved: vennlaw1.RowsSay returns true, of any atom and any world; what was in memory is as it was (the walk that the statement leans on).
-/
import Derived.Test.YtenmheenieifpadDoorRowsSayWalk
import Derived.Test.YtenmheenieifpadDoorRowsOf
import Derived.Test.YtenmheenieifpadDoorRowsFits
import Derived.Test.YtenmheenieifpadDoorFieldsOf
import Derived.Test.YtenmheenieifpadDoorAtomHolds
namespace Go.Proofs.YtenmheenieifpadDoor
open Go.ChangeShapes Go.WideShapes Go.ChangeAt Go.RowKit
set_option maxRecDepth 100000

theorem fact_times : ∀ f, f < 8 → rowT 3 [0] [] true f = (fun f => if f % 2 = 1 then -1 else 0) f := by decide +kernel
theorem fact_row : Value.agg (arrR (ofT 3 [0] [] 2 true) (ofM 3 [0] [] 2 true)) = .agg #[.int .i64 0, .int .i64 (-1), .int .i64 0, .int .i64 (-1), .int .i64 0, .int .i64 (-1), .int .i64 0, .int .i64 (-1), .int .i64 (-2)] := by
  have h0 : atomFault 3 [0] [] 2 = 0 := by decide +kernel
  have e1 : ofT 3 [0] [] 2 true = rowT 3 [0] [] true := by unfold ofT; rw [if_pos h0]
  have e2 : ofM 3 [0] [] 2 true = -2 := by unfold ofM; rw [if_pos h0]; rfl
  rw [e1, e2, arrR_same fact_times]
  rfl
theorem fact_of (W : World) (hK : KindsLaid W) (hL : TimesLaid W) :
    Calls Tryd.prog 10 #[.agg #[.int .i64 3, .slice (some ⟨W.heap.size, 0, none⟩) 1 1, .slice none 0 0, .int .i64 2], .bool true] (W.alloc (.cells #[.int .i64 0] 3)) fun e w' => e = .returned (.tuple #[.agg #[.int .i64 0, .int .i64 (-1), .int .i64 0, .int .i64 (-1), .int .i64 0, .int .i64 (-1), .int .i64 0, .int .i64 (-1), .int .i64 (-2)], .nilIface]) ∧ Below W.heap.size W w' := by
  have hb : Below W.heap.size W (W.alloc (.cells #[.int .i64 0] 3)) := below_alloc1 _ _
  have hr : Reads (W.alloc (.cells #[.int .i64 0] 3)) (.slice (some ⟨W.heap.size, 0, none⟩) 1 1) [0] := by
    refine Or.inr ⟨W.heap.size, 0, 1, rfl, by simp, by decide, ⟨by decide, by decide⟩, fun k hk => ?_⟩
    obtain rfl : k = 0 := by
      have : k < 1 := hk
      omega
    exact (Blk.new W 3 #[.int .i64 0]).cell 0
  have h := rowsOf_any 3 2 true (.slice (some ⟨W.heap.size, 0, none⟩) 1 1) (.slice none 0 0) [0] [] (W.alloc (.cells #[.int .i64 0] 3)) hr (Or.inl ⟨none, 0, rfl, rfl⟩) (hK.below hb) (hL.below hb)
  rw [fact_row, show atomFault 3 [0] [] 2 = 0 by decide +kernel] at h
  exact h.mono fun e w' q => ⟨q.1, hb.trans (q.2.mono hb.size)⟩
theorem one_row (r : Rw) (W : World) : ReadsR (W.alloc (.cells (arrR r.t r.m) 29)) (.slice (some ⟨W.heap.size, 0, none⟩) 1 1) [r] := by
  have k := Blk.new W 29 (arrR r.t r.m)
  refine Or.inr ⟨W.heap.size, 0, 1, rfl, by simp, by simp, ⟨by simp, by simp⟩, fun i x hx => ?_⟩
  have hi : i < 1 := (List.getElem?_eq_some_iff.1 hx).1
  obtain rfl : i = 0 := by omega
  obtain rfl : r = x := by simpa using hx
  exact ⟨k.cell 0, k.cell 1, k.cell 2, k.cell 3, k.cell 4, k.cell 5, k.cell 6, k.cell 7, k.cell 8⟩
theorem one_fits (r : Rw) (C : Nat → Int) (hr : r.wrong = false) (hc : countsFault C = 0) (W : World) :
    Calls Tryd.prog 15 #[.slice (some ⟨W.heap.size, 0, none⟩) 1 1, .agg #[.int .i64 (C 0), .int .i64 (C 1), .int .i64 (C 2), .int .i64 (C 3), .int .i64 (C 4), .int .i64 (C 5), .int .i64 (C 6), .int .i64 (C 7)]] (W.alloc (.cells #[.int .i64 (r.t 0), .int .i64 (r.t 1), .int .i64 (r.t 2), .int .i64 (r.t 3), .int .i64 (r.t 4), .int .i64 (r.t 5), .int .i64 (r.t 6), .int .i64 (r.t 7), .int .i64 r.m] 29)) fun e w' => e = .returned (.tuple #[.bool (r.so C), .nilIface]) ∧ Below W.heap.size W w' := by
  have hb : Below W.heap.size W (W.alloc (.cells (arrR r.t r.m) 29)) := below_alloc1 _ _
  have h := rfits_any [r] (.slice (some ⟨W.heap.size, 0, none⟩) 1 1) C _ (one_row r W)
  have e0 : rowsFault [r] = 0 := by unfold rowsFault; simp [hr]
  have e1 : fitsFault [r] C = 0 := by unfold fitsFault; rw [if_pos e0, hc]
  have e2 : fitsIs [r] C = r.so C := by unfold fitsIs; rw [if_pos e1]; simp
  rw [e1, e2] at h
  exact h.mono fun e w' q => ⟨q.1, hb.trans (q.2.mono hb.size)⟩

theorem rowsSay_walk (k n : Int) (vs vt : Value) (s t : List Int) (u a b c : Int) (w : World) (hS : Reads w vs s) (hT : Reads w vt t) (hg : KindsLaid w ∧ TimesLaid w) :
    Calls Tryd.prog 4 #[.agg #[.int .i64 k, vs, vt, .int .i64 n], .agg #[.int .i64 u, .int .i64 a, .int .i64 b, .int .i64 c]] w fun e w' => e = .returned (.bool true) ∧ Below w.heap.size w w' := by
  have h0 : ∀ W, Below w.heap.size w W → Calls Tryd.prog 10 #[.agg #[.int .i64 3, .slice (some ⟨W.heap.size, 0, none⟩) 1 1, .slice none 0 0, .int .i64 2], .bool true] (W.alloc (.cells #[.int .i64 0] 3)) fun e w' => e = .returned (.tuple #[.agg #[.int .i64 0, .int .i64 (-1), .int .i64 0, .int .i64 (-1), .int .i64 0, .int .i64 (-1), .int .i64 0, .int .i64 (-1), .int .i64 (-2)], .nilIface]) ∧ Below W.heap.size W w' := fun W hW => fact_of W (hg.1.below hW) (hg.2.below hW)
  have ho : ∀ (h : Bool) W, Below w.heap.size w W → Calls Tryd.prog 10 #[.agg #[.int .i64 k, vs, vt, .int .i64 n], .bool h] W fun e w' => e = .returned (.tuple #[.agg (arrR (ofT k s t n h) (ofM k s t n h)), errV (atomFault k s t n)]) ∧ Below W.heap.size W w' := fun h W hW => rowsOf_any k n h vs vt s t W (hS.below hW) (hT.below hW) (hg.1.below hW) (hg.2.below hW)
  have hh : ∀ W, Below w.heap.size w W → Calls Tryd.prog 16 #[.agg #[.int .i64 k, vs, vt, .int .i64 n], .agg #[.int .i64 u, .int .i64 a, .int .i64 b, .int .i64 c]] W fun e w' => e = .returned (.tuple #[.bool ((Wd.mk u a b c).holdsIs k s t n), errV ((Wd.mk u a b c).holdsFault k s t n)]) ∧ Below W.heap.size W w' := fun W hW => aholds_any k n vs vt s t u a b c W (hS.below hW) (hT.below hW) (hg.1.below hW)
  have hf4 : ∀ W, Below w.heap.size w W → Calls Tryd.prog 17 #[.agg #[.int .i64 u, .int .i64 a, .int .i64 b, .int .i64 c]] W fun e w' => e = .returned (.tuple #[.agg (arr8 (Wd.mk u a b c).cts), errV (Wd.mk u a b c).wrong]) ∧ Below W.heap.size W w' := fun W _ => fieldsOf_any u a b c W
  obtain ⟨sao, scap, rfl, _⟩ := hS.slice
  obtain ⟨tao, tcap, rfl, _⟩ := hT.slice
  by_cases hf : atomFault k s t n = 0
  · have e1 : ∀ h, ofT k s t n h = rowT k s t h := fun h => by unfold ofT; rw [if_pos hf]
    have e2 : ∀ h, ofM k s t n h = rowM k n h := fun h => by unfold ofM; rw [if_pos hf]
    simp only [e1, e2, hf] at ho
    rcases (Bool.eq_false_or_eq_true (Wd.mk u a b c).ok).symm with hok | hok
    · have e3 : (Wd.mk u a b c).holdsFault k s t n = 1 := by unfold Wd.holdsFault; rw [if_pos hf, if_neg (by rw [hok]; decide)]
      have e4 : (Wd.mk u a b c).holdsIs k s t n = false := by unfold Wd.holdsIs; rw [e3]; rfl
      simp only [e3, e4] at hh
      exact rowsSay_W k n u a b c (rowT k s t true) (rowT k s t false) (rowM k n true) (rowM k n false) sao tao _ scap _ tcap w h0 (ho true) (ho false) hh
    · have e3 : (Wd.mk u a b c).holdsFault k s t n = 0 := by unfold Wd.holdsFault; rw [if_pos hf, if_pos hok]
      have e4 : (Wd.mk u a b c).holdsIs k s t n = (Wd.mk u a b c).holds k s t n := by unfold Wd.holdsIs; rw [if_pos e3]
      have e5 : (Wd.mk u a b c).cts = (Wd.mk u a b c).fc (Wd.mk u a b c).u.toNat := by unfold Wd.cts; rw [if_pos hok]
      have e6 : (Wd.mk u a b c).wrong = 0 := by unfold Wd.wrong; rw [if_pos hok]
      simp only [e3, e4] at hh
      simp only [e5, e6] at hf4
      have hc := counts_fc hok
      have s1 := rows_say hok hf true
      have s2 := rows_say hok hf false
      rw [if_pos rfl] at s1
      rw [if_neg (by decide)] at s2
      refine rowsSay_G k n u a b c (rowT k s t true) (rowT k s t false) ((Wd.mk u a b c).fc (Wd.mk u a b c).u.toNat) (rowM k n true) (rowM k n false) ((Wd.mk u a b c).holds k s t n) sao tao _ scap _ tcap w h0 (ho true) (ho false) hh hf4 (fun W _ => ?_) (fun W _ => ?_)
      · have q := one_fits ⟨rowT k s t true, rowM k n true⟩ _ (row_right hf true) hc W
        rw [s1] at q
        exact q
      · have q := one_fits ⟨rowT k s t false, rowM k n false⟩ _ (row_right hf false) hc W
        rw [s2] at q
        exact q
  · have e1 : ∀ h, ofT k s t n h = fun _ => 0 := fun h => by unfold ofT; rw [if_neg hf]
    have e2 : ∀ h, ofM k s t n h = 0 := fun h => by unfold ofM; rw [if_neg hf]
    have e3 : (Wd.mk u a b c).holdsFault k s t n = atomFault k s t n := by unfold Wd.holdsFault; rw [if_neg hf]
    have e4 : (Wd.mk u a b c).holdsIs k s t n = false := by unfold Wd.holdsIs; rw [e3, if_neg hf]
    simp only [e1, e2, errV_no hf] at ho
    simp only [e3, e4, errV_no hf] at hh
    exact rowsSay_B k n u a b c (atomFault k s t n) sao tao _ scap _ tcap w h0 (ho true) (ho false) hh
end Go.Proofs.YtenmheenieifpadDoor
