/-
  Proved: vennlaw2.SomeTells returns true, of any formula, any name and any world, where some's functions answer as chapter 15 says; what was in memory is as it was (the walk that the statement leans on).
-/
import Derived.Test.YtokpjcbifbmfiahDoorSomeTellsWalkJ
import Derived.Test.YtokpjcbifbmfiahDoorLibSM10
import Derived.Test.YtokpjcbifbmfiahDoorLibSM12
import Derived.Test.YtokpjcbifbmfiahDoorLibSM9
namespace Go.Proofs.YtokpjcbifbmfiahDoor
open Go.ChangeShapes Go.WideShapes Go.ChangeAt Go.RowKit
set_option maxRecDepth 100000

theorem someTells_of (va vc : Value) (ats : List At) (c : List Int) (name wu wa wb wc : Int) (w : World) (hA : ReadsA w va ats) (hC : Reads w vc c) (hg : Laid w)
    (cIs : ∀ (va vc : Value) (ats : List At) (c : List Int) (name : Int) (D : Wd) (W : World), Below w.heap.size w W → ReadsA W va ats → Reads W vc c → Calls Tryd.prog 14 #[.agg #[va, vc], .int .i64 name, .agg (arrW D)] W fun e w' => e = .returned (.tuple #[.bool (someB ats c name D), errV (someFault ats c name D)]) ∧ Below W.heap.size W w')
    (cEc : ∀ (va vc : Value) (ats : List At) (c : List Int) (name : Int) (D : Wd) (W : World), Below w.heap.size w W → ReadsA W va ats → Reads W vc c → Calls Tryd.prog 16 #[.agg #[va, vc], .int .i64 name, .agg (arrW D)] W fun e w' => e = .returned (.tuple #[.bool (eachW ats c name D), errV (someFault ats c name D)]) ∧ Below W.heap.size W w')
    (cFi : ∀ (va vc : Value) (ats : List At) (c : List Int) (name : Int) (D : Wd) (W : World), Below w.heap.size w W → ReadsA W va ats → Reads W vc c → Calls Tryd.prog 17 #[.agg #[va, vc], .int .i64 name, .agg (arrW D)] W fun e w' => e = .returned (.tuple #[.int .i64 (firstS ats c name D), errV (lowFault ats c name D)]) ∧ Below W.heap.size W w') :
    Calls Tryd.prog 4 #[.agg #[va, vc], .int .i64 name, .agg #[.int .i64 wu, .int .i64 wa, .int .i64 wb, .int .i64 wc]] w fun e w' => e = .returned (.bool true) ∧ Below w.heap.size w w' := by
  obtain ⟨D, hD⟩ : ∃ D, D = Wd.mk wu wa wb wc := ⟨_, rfl⟩
  obtain ⟨rfl, rfl, rfl, rfl⟩ : wu = D.u ∧ wa = D.a ∧ wb = D.b ∧ wc = D.c := by rw [hD]; exact ⟨rfl, rfl, rfl, rfl⟩
  have hFm := fun W (hW : Below w.heap.size w W) => refForm_any va vc ats c W (hA.below hW) (hC.below hW)
  have hIs := fun W hW => cIs va vc ats c name D W hW (hA.below hW) (hC.below hW)
  have hEc := fun W hW => cEc va vc ats c name D W hW (hA.below hW) (hC.below hW)
  have hFi := fun W hW => cFi va vc ats c name D W hW (hA.below hW) (hC.below hW)
  obtain ⟨ao, acap, rfl, _⟩ := hA.slice
  obtain ⟨co, ccap, rfl, _⟩ := hC.slice
  refine someTells_in ao _ acap co _ ccap name D (formFault ats c) (if formFault ats c = 0 then (if 0 ≤ name ∧ name ≤ 2 then 0 else 1) else formFault ats c) (someFault ats c name D) (lowFault ats c name D) (someLow ats c name D) (firstS ats c name D) (eachW ats c name D) (withB ats c name.toNat D) (setsN D.u) w rfl ?_ rfl rfl rfl rfl (fun h => ?_) hFm (fun W hW => ?_) (fun h W => ?_) (fun h s hs W hW => ?_) hIs hEc hFi (fun n W hW => merr_any n W (hg.below hW))
  · unfold Hid someFault
    by_cases h1 : formFault ats c = 0
    · rw [if_pos h1, if_pos h1]
      by_cases h2 : 0 ≤ name ∧ name ≤ 2
      · rw [if_pos h2, if_pos h2, if_pos rfl]
      · rw [if_neg h2, if_neg h2, if_neg (by decide)]
    · rw [if_neg h1, if_neg h1, if_neg h1]
  · have hok := (some_zero.1 h).2.2
    exact ⟨sets_pos _, sets_le (ok_u hok).2⟩
  · exact refWorld_any D.u D.a D.b D.c W
  · have hok := (some_zero.1 h).2.2
    have hu := ok_u hok
    have hp := refPower_any D.u.toNat (by omega) W
    rw [show ((D.u.toNat : Nat) : Int) = D.u by omega, ← sets_pw] at hp
    exact hp.mono fun _ _ h => ⟨h.1, h.2.symm⟩
  · obtain ⟨hf, hn, hok⟩ := some_zero.1 h
    have hu := ok_u hok
    have hp := wput_ok hok name.toNat ((set_ok hu.1 hu.2).2 hs)
    have h := refTrue_any _ _ ats c (D.put name.toNat s).u (D.put name.toNat s).a (D.put name.toNat s).b (D.put name.toNat s).c hf hp W (hA.below hW) (hC.below hW)
    have e : withB ats c name.toNat D s = valF ((D.put name.toNat s).heldL ats) c := by unfold withB Wd.formIs; rw [if_pos (wdForm_zero.2 ⟨hf, hp⟩)]
    rw [e]
    exact h
end Go.Proofs.YtokpjcbifbmfiahDoor
