/-
  Proved: venntop.TopNames returns true, of any formula, any term and any numbers, where ask.Of, text.Print and text.Parse answer as chapters 17 and 18 say; what was in memory is as it was (the walk that the statement leans on).
-/
import Derived.Test.YtjaedfjfcghgcabGreatDoorTopNamesAllJ
import Derived.Test.YtjaedfjfcghgcabGreatDoorLibX7
import Derived.Test.YtjaedfjfcghgcabGreatDoorLibX10
import Derived.Test.YtjaedfjfcghgcabGreatDoorLibX17
import Derived.Test.YtjaedfjfcghgcabGreatDoorLibX18
namespace Go.Proofs.YtjaedfjfcghgcabGreatDoor
open Go.ChangeShapes Go.WideShapes Go.ChangeAt Go.RowKit
theorem topNames_over (va vc : Value) (ats : List At) (c : List Int) (t : List Int) (vt : Value) (x y u : Int) (w : World) (hA : ReadsA w va ats) (hC : Reads w vc c) (hT : Reads w vt t) (hg : Laid w ∧ KindsLaid w ∧ TimesLaid w)
    (cAs : ∀ (v va vc : Value) (fs : List Fm) (ats : List At) (c : List Int) (u : Int) (W : World), Below w.heap.size w W → ReadsF W v fs → ReadsA W va ats → Reads W vc c → Calls Tryz.prog 21 #[v, .agg #[va, vc], .int .i64 u] W (Bk W (.tuple #[.int .i64 (askN fs ats c u), errV (askFault fs ats c u)])))
    (pr : List At → List Int → ByteArray)
    (cPr : ∀ (va vc : Value) (ats : List At) (c : List Int) (W : World), Below w.heap.size w W → ReadsA W va ats → Reads W vc c → formFault ats c = 0 → Calls Tryz.prog 15 #[.agg #[va, vc]] W (Bk W (.tuple #[.string (pr ats c), .nilIface])))
    (cPa : ∀ (ats : List At) (c : List Int) (W : World), Below w.heap.size w W → formFault ats c = 0 → Calls Tryz.prog 16 #[.string (pr ats c)] W fun e w' => ∃ va vc, e = .returned (.tuple #[.agg #[va, vc], .nilIface]) ∧ ReadsA w' va ats ∧ Reads w' vc c ∧ Below W.heap.size W w') :
    Calls Tryz.prog 4 #[.agg #[va, vc], vt, .int .i64 x, .int .i64 y, .int .i64 u] w (Bk w (.bool true)) := by
 obtain ⟨hL, hK, hTm⟩ := hg
 refine topNames_of va vc vt ats c t x y u w hA hC hT cAs
  (fun va vc ats c p W hW h1 h2 => turnNames_any va vc ats c p W h1 h2 (hK.below hW))
  (fun va vc ats c W hW h1 h2 => fcheck_any va vc ats c W h1 h2 (hK.below hW))
  pr cPr cPa
  (fun va vc ua uc ats c W h1 h2 h3 h4 => form_same _ _ _ _ ats c W h1 h2 h3 h4)
  (fun va vc ats c u W hW h1 h2 => worldsOf_any va vc ats c u W h1 h2 (hK.below hW))
  (fun va vc ats c W hW h1 h2 => leastOf_any va vc ats c W h1 h2 (hK.below hW) (hTm.below hW) (hL.below hW))
  (fun vt t x y W hW h hx hy => ?_)
  (fun va vc vt ats c t u W hW h1 h2 h3 => spanOf_any va vc vt ats c t u W h1 h2 h3 (hK.below hW))
 by_cases hf : faultN t = 0
 ·refine (alikeSwap_any vt t x y W h).mono ?_
  rintro e w' ⟨⟨v, rfl, hr⟩, hb⟩
  have hz : swapFault t x y = 0 := swap_zero.2 ⟨hf, hx, hy⟩
  unfold swapL at hr
  rw [if_pos hz] at hr
  rw [hz]
  exact ⟨Or.inr ⟨hf, v, rfl, hr⟩, hb⟩
 ·have hCk := tcheck_any t vt W h
  have e0 : errV (faultN t) = .iface 75 (.int .i64 (faultN t)) := by unfold errV; rw [if_neg hf]
  rw [e0] at hCk
  obtain ⟨so, sc, rfl⟩ : ∃ so sc, vt = .slice so t.length sc := by
   rcases h with ⟨ao, cap, rfl, rfl⟩ | ⟨b, off, cap, rfl, _⟩
   ·exact ⟨ao, cap, rfl⟩
   ·exact ⟨_, cap, rfl⟩
  refine (swap_bad so _ sc x y (faultN t) W hCk).mono ?_
  rintro e w' ⟨rfl, rfl⟩
  exact ⟨Or.inl ⟨hf, rfl⟩, Below.refl _ _⟩
end Go.Proofs.YtjaedfjfcghgcabGreatDoor