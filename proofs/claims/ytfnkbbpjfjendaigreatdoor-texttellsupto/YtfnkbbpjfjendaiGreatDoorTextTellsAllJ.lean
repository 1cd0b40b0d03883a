/-
  Proved: vennlaw2.TextTells returns true, of any formula and any text of at most 1048576 bytes, where text.Print and text.Parse answer as chapter 17 says; what was in memory is as it was (the walk that the statement leans on).
-/
import Derived.Test.YtfnkbbpjfjendaiGreatDoorTextTellsWalkJ
import Derived.Test.YtfnkbbpjfjendaiGreatDoorLibTX14
import Derived.Test.YtfnkbbpjfjendaiGreatDoorLibTX26
import Derived.Test.YtfnkbbpjfjendaiGreatDoorLibTX27
import Derived.Test.YtfnkbbpjfjendaiGreatDoorLibTX30
namespace Go.Proofs.YtfnkbbpjfjendaiGreatDoor
open Go.ChangeShapes Go.WideShapes Go.ChangeAt Go.RowKit

theorem textTells_of (va vc : Value) (ats : List At) (c : List Int) (s : ByteArray) (hz : s.size ≤ 1048576) (w : World) (hA : ReadsA w va ats) (hC : Reads w vc c) (hg : Laid w)
    (cPr : ∀ (va vc : Value) (ats : List At) (c : List Int) (W : World), Below w.heap.size w W → ReadsA W va ats → Reads W vc c → Calls Tryz.prog 8 #[.agg #[va, vc]] W fun e w' => e = .returned (.tuple #[.string (printF ats c), errV (formFault ats c)]) ∧ Below W.heap.size W w')
    (cPa : ∀ (s : ByteArray) (W : World), s.size ≤ 1048576 → Below w.heap.size w W → Calls Tryz.prog 11 #[.string s] W fun e w' => (∃ va vc, e = .returned (.tuple #[.agg #[va, vc], errV (formTextFault s.data.toList)]) ∧ ReadsA w' va (readA s.data.toList) ∧ Reads w' vc (readC s.data.toList)) ∧ Below W.heap.size W w') :
    Calls Tryz.prog 3 #[.agg #[va, vc], .string s] w fun e w' => e = .returned (.bool true) ∧ Below w.heap.size w w' := by
  have hFm := fun W (hW : Below w.heap.size w W) => refForm_any va vc ats c W (hA.below hW) (hC.below hW)
  have hFt := fun (h : formFault ats c = 0) W (hW : Below w.heap.size w W) => refFormText_any va vc ats c h W (hA.below hW) (hC.below hW)
  have hPr := fun W hW => cPr va vc ats c W hW (hA.below hW) (hC.below hW)
  obtain ⟨ao, acap, rfl, _⟩ := hA.slice
  obtain ⟨co, ccap, rfl, _⟩ := hC.slice
  refine textTells_in ao _ acap co _ ccap s (printF ats c) (formFault ats c) (formTextFault s.data.toList) (readA s.data.toList) (readC s.data.toList) w hFm ?_ ?_ hPr (fun W => ?_) (fun W hW => cPa s W hz hW) (fun va vc ua uc W h1 h2 h3 h4 => form_same va vc ua uc _ _ W h1 h2 h3 h4) (fun n W hW => merr_any n W (hg.below hW))
  · intro h W hW
    have h2 := hFt h W hW
    unfold printF
    rw [if_pos h]
    exact h2
  · intro h
    unfold printF
    rw [if_neg h]
  · refine (refReadForm_any s hz W).mono ?_
    rintro e w' ⟨va, vc, rfl, h1, h2, hb⟩
    obtain ⟨g1, g2⟩ := reads_text h1 h2
    exact ⟨⟨va, vc, rfl, g1, g2⟩, hb⟩
end Go.Proofs.YtfnkbbpjfjendaiGreatDoor
