/-
  Proved: venntop.TopNames returns true, of any formula, any term and any numbers, over the program's own text.Print and text.Parse, where ask.Of answers as chapter 18 says; what was in memory is as it was (the walk that the statement leans on).
-/
import Derived.Test.YtjaedfjfcghgcabGreatDoorTopNamesIsJ
import Derived.Test.YtjaedfjfcghgcabGreatDoorLibX26
import Derived.Test.YtjaedfjfcghgcabGreatDoorLibX25
namespace Go.Proofs.YtjaedfjfcghgcabGreatDoor
open Go.ChangeShapes Go.WideShapes Go.ChangeAt Go.RowKit
theorem topNames_text (va vc : Value) (ats : List At) (c : List Int) (t : List Int) (vt : Value) (x y u : Int) (w : World) (hA : ReadsA w va ats) (hC : Reads w vc c) (hT : Reads w vt t) (hg : Laid w ∧ KindsLaid w ∧ TimesLaid w) (hL : LibLaid w) (hW : WordsLaid w)
    (cAs : ∀ (v va vc : Value) (fs : List Fm) (ats : List At) (c : List Int) (u : Int) (W : World), Below w.heap.size w W → ReadsF W v fs → ReadsA W va ats → Reads W vc c → Calls Tryz.prog 21 #[v, .agg #[va, vc], .int .i64 u] W (Bk W (.tuple #[.int .i64 (askN fs ats c u), errV (askFault fs ats c u)]))) :
    Calls Tryz.prog 4 #[.agg #[va, vc], vt, .int .i64 x, .int .i64 y, .int .i64 u] w (Bk w (.bool true)) := by
 refine topNames_over va vc ats c t vt x y u w hA hC hT hg cAs printF (fun va vc ats c W hb h1 h2 h0 => ?_) fun ats c W hb h0 => ?_
 ·have h := tprint_any va vc ats c W h1 h2 (hg.2.1.below hb) (hL.below hb) (hW.below hb)
  rw [h0] at h
  exact h
 ·have e : (printF ats c).data.toList = formText ats c := by unfold printF; rw [if_pos h0, strOf_list]
  have hz : (printF ats c).size ≤ 4611686018427387903 := by
   have h1 := text_len h0
   have h2 : (printF ats c).size = (formText ats c).length := str_len e
   omega
  obtain ⟨f0, f1, f2⟩ := read_print h0
  refine (tparse_any (printF ats c) hz W (hg.2.1.below hb) (hL.below hb) (hW.below hb)).mono ?_
  rintro e' w' ⟨⟨va, vc, rfl, r1, r2⟩, hb'⟩
  rw [e] at r1 r2 ⊢
  unfold readA at r1
  unfold readC at r2
  rw [if_pos f0, f1] at r1
  rw [if_pos f0, f2] at r2
  exact ⟨va, vc, by rw [f0]; rfl, r1, r2, hb'⟩
end Go.Proofs.YtjaedfjfcghgcabGreatDoor