/-
  Proved: venntop.TopThree returns true, of any formula and any number of things, where ask.Of answers as chapter 18 says; what was in memory is as it was (the walk that the statement leans on).
-/
import Derived.Test.YtjaedfjfcghgcabGreatDoorTopThreeAllJ
import Derived.Test.YtjaedfjfcghgcabGreatDoorLibT26
import Derived.Test.YtjaedfjfcghgcabGreatDoorLibT29
import Derived.Test.YtjaedfjfcghgcabGreatDoorLibT30
import Derived.Test.YtjaedfjfcghgcabGreatDoorLibT18
namespace Go.Proofs.YtjaedfjfcghgcabGreatDoor
open Go.ChangeShapes Go.WideShapes Go.ChangeAt Go.RowKit

theorem topThree_over (va vc : Value) (ats : List At) (c : List Int) (u : Int) (w : World) (hA : ReadsA w va ats) (hC : Reads w vc c) (hg : Laid w ∧ KindsLaid w ∧ TimesLaid w)
    (cAs : ∀ (v va vc : Value) (fs : List Fm) (ats : List At) (c : List Int) (u : Int) (W : World), Below w.heap.size w W → ReadsF W v fs → ReadsA W va ats → Reads W vc c → Calls Tryz.prog 21 #[v, .agg #[va, vc], .int .i64 u] W fun e w' => e = .returned (.tuple #[.int .i64 (askN fs ats c u), errV (askFault fs ats c u)]) ∧ Below W.heap.size W w') :
    Calls Tryz.prog 3 #[.agg #[va, vc], .int .i64 u] w fun e w' => e = .returned (.bool true) ∧ Below w.heap.size w w' := by
  obtain ⟨hL, hK, hT⟩ := hg
  refine topThree_of va vc ats c u w hA hC hL cAs
    (fun va vc ats c W hW h1 h2 hf L hLc => ?_)
    (fun va vc ats c W hW h1 h2 hf hn => ?_)
    (fun va vc ats c W hW h1 h2 hf => of_bad va vc ats c W h1 h2 (hK.below hW) hf)
    (fun va vc ats c u W hW h1 h2 => modelOf_any va vc ats c u W h1 h2 (hK.below hW) (hT.below hW) (hL.below hW))
    (fun va vc ats c u W hW h1 h2 => worldsOf_any va vc ats c u W h1 h2 (hK.below hW))
    (fun v fs u W hW h => coreOpen_any v fs u W h (hK.below hW))
    (fun k n h vs vt s t W hW h1 h2 h0 => ?_)
    (fun u l v W hW h => many_any u l v W h)
  · refine (of_good va vc ats c W h1 h2 (hK.below hW) hf).mono ?_
    rintro e w' ⟨ho, hb⟩
    refine ⟨?_, hb⟩
    rw [hLc] at ho
    obtain ⟨v, rfl, hr⟩ := ho
    exact ⟨v, rfl, hr.mono fun _ _ _ => trivial⟩
  · refine (of_good va vc ats c W h1 h2 (hK.below hW) hf).mono ?_
    rintro e w' ⟨ho, hb⟩
    refine ⟨?_, hb⟩
    rw [hn] at ho
    exact ho
  · refine (rowsOf_any k n h vs vt s t W h1 h2 (hK.below hW) (hT.below hW)).mono ?_
    rintro e w' ⟨rfl, hb⟩
    refine ⟨?_, hb⟩
    unfold ofT ofM
    rw [h0]
    rfl
end Go.Proofs.YtjaedfjfcghgcabGreatDoor
