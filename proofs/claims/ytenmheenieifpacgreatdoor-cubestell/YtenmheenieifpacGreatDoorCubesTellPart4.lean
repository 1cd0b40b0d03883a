/-
  Proved: what the calls of vennlaw1.CubesTell return (contracts that its walk leans on). Written by program.
  Proved: vennlaw1.CubesTell returns true where the formula is none (a part of the statement's proof). Written by program.
  Proved: vennlaw1.CubesTell returns true where the formula is one (a part of the statement's proof). Written by program.
  Proved: vennlaw1.CubesTell returns true, of any formula, any rows and any world (the statement's walk).
-/
import Derived.Test.YtenmheenieifpacGreatDoorCubesTellPart1
import Derived.Test.YtenmheenieifpacGreatDoorCubesTellPart2
import Derived.Test.YtenmheenieifpacGreatDoorCubesTellPart3
import Derived.Test.YtenmheenieifpacGreatDoorSame
import Derived.Deep.RegionWith
import Derived.Deep.Cut
import Derived.Deep.CutRange
namespace Go.Proofs.YtenmheenieifpacGreatDoor
open Go.ChangeShapes Go.WideShapes Go.ChangeAt Go.RowKit
set_option maxRecDepth 100000

theorem errSame (n : Int) (w : World) (hg : Laid w) : Calls Tryz.prog 7 #[errV n, .int .i64 n] w fun e w' => e = .returned (.bool true) ∧ Below w.heap.size w w' := by
  by_cases h : n = 0
  · subst h
    rw [errV_0]
    refine (same_nil 0 w).mono ?_
    rintro e w' ⟨rfl, rfl⟩
    exact ⟨rfl, Below.refl _ _⟩
  · rw [errV_no h]
    have := same_err n n w hg
    rw [beq_self_eq_true] at this; exact this
def cubesX (o : Option (List (List Int))) : List (List Int) := o.getD []
def cubesN (o : Option (List (List Int))) : Int := if o.isSome = true then 0 else 4
theorem outR_any {S : Nat → Prop} {K : Nat} {w : World} {e : Ending} {o : Option (List (List Int))} (h : OutR S K w e o) : ∃ oo oc, e = .returned (.tuple #[.slice oo (cubesX o).length oc, .int .i64 (cubesN o)]) ∧ RS2 (fun _ => True) w (.slice oo (cubesX o).length oc) (cubesX o) := by
  cases o with
  | none => exact ⟨none, 0, h, Or.inl ⟨none, 0, rfl, rfl⟩⟩
  | some L =>
    obtain ⟨v, rfl, hr⟩ : ∃ v, e = .returned (.tuple #[v, .int .i64 0]) ∧ RS2 (fun b => S b ∨ K ≤ b) w v L := h
    obtain ⟨oo, oc, rfl, _⟩ := hr.slice
    exact ⟨oo, oc, rfl, hr.mono fun _ _ _ => trivial⟩
theorem outC_any {S : Nat → Prop} {K : Nat} {w : World} {e : Ending} {o : Option (List (List Int))} (h : OutC S K w e o) : ∃ oo oc, e = .returned (.tuple #[.slice oo (cubesX o).length oc, errV (cubesN o)]) ∧ RS2 (fun _ => True) w (.slice oo (cubesX o).length oc) (cubesX o) := by
  cases o with
  | none => exact ⟨none, 0, h, Or.inl ⟨none, 0, rfl, rfl⟩⟩
  | some L =>
    obtain ⟨v, rfl, hr⟩ : ∃ v, e = .returned (.tuple #[v, .nilIface]) ∧ RS2 (fun b => S b ∨ K ≤ b) w v L := h
    obtain ⟨oo, oc, rfl, _⟩ := hr.slice
    exact ⟨oo, oc, rfl, hr.mono fun _ _ _ => trivial⟩
theorem any_succ (t : List Int) (p : Int → Bool) {q : Nat} (h : q < t.length) : (t.take (q + 1)).any p = ((t.take q).any p || p (t.getD q 0)) := by
  rw [takeF_succ t h, List.any_append]; simp
theorem anyL_succ (L : List (List Int)) (p : List Int → Bool) {q : Nat} (h : q < L.length) : (L.take (q + 1)).any p = ((L.take q).any p || p (L.getD q [])) := by
  rw [takeL_succ L h, List.any_append]; simp
theorem all_succC (t : List Int) (held : List Bool) {q : Nat} (h : q < t.length) : allC held (t.take (q + 1)) = (allC held (t.take q) && litC held (t.getD q 0)) := by
  unfold allC
  rw [takeF_succ t h, List.all_append]; simp
end Go.Proofs.YtenmheenieifpacGreatDoor

namespace Go.Proofs.YtenmheenieifpacGreatDoor
open Go.ChangeShapes Go.WideShapes Go.ChangeAt Go.RowKit
set_option maxRecDepth 100000

set_option maxHeartbeats 2000000 in
theorem ctell_E (va vc vl : Value) (ats : List At) (c : List Int) (L : List (List Int)) (u a b d : Int) (w : World) (hA : ReadsA w va ats) (hC : Reads w vc c) (hRL : RS2 (fun _ => True) w vl L) (hK : KindsLaid w) (hLd : Laid w) (hf : ¬ formFault ats c = 0) :
    Calls Tryz.prog 3 #[.agg #[va, vc], vl, .agg #[.int .i64 u, .int .i64 a, .int .i64 b, .int .i64 d]] w fun e w' => e = .returned (.bool true) ∧ Below w.heap.size w w' := by
  obtain ⟨ao, acap, rfl, _⟩ := hA.slice
  obtain ⟨co, ccap, rfl, _⟩ := hC.slice
  obtain ⟨lo, lcap, hlv, hl63⟩ := hRL.slice
  obtain ⟨w1, hw1⟩ : ∃ w1, w1 = (w.alloc (.cells #[.slice ao ats.length acap, .slice co c.length ccap] 25)).alloc (.cells #[.int .i64 u, .int .i64 a, .int .i64 b, .int .i64 d] 29) := ⟨_, rfl⟩
  have HB1 : Hid (Below w.heap.size w w1 ∧ w1.heap.size = w.heap.size + 2) := by unfold Hid; rw [hw1]; exact ⟨(below_alloc1 _ _).trans ((below_alloc1 _ _).mono (by simp)), by simp⟩
  have HX : Hid (∀ W, Below w1.heap.size w1 W → (W.cell? ⟨w.heap.size, 0, none⟩ = some (.slice ao ats.length acap) ∧ W.cell? ⟨w.heap.size, 1, none⟩ = some (.slice co c.length ccap)) ∧ W.cell? ⟨w.heap.size + 1, 0, none⟩ = some (.int .i64 u) ∧ W.cell? ⟨w.heap.size + 1, 1, none⟩ = some (.int .i64 a) ∧ W.cell? ⟨w.heap.size + 1, 2, none⟩ = some (.int .i64 b) ∧ W.cell? ⟨w.heap.size + 1, 3, none⟩ = some (.int .i64 d)) := fun W hW => by
    have e : ∀ j, W.cell? ⟨w.heap.size, j, none⟩ = w1.cell? ⟨w.heap.size, j, none⟩ := fun j => hW.cell (show (⟨w.heap.size, j, none⟩ : Addr).block < _ by have := HB1.out.2; simp; omega)
    have e' : ∀ j, W.cell? ⟨w.heap.size + 1, j, none⟩ = w1.cell? ⟨w.heap.size + 1, j, none⟩ := fun j => hW.cell (show (⟨w.heap.size + 1, j, none⟩ : Addr).block < _ by have := HB1.out.2; simp; omega)
    rw [e, e, e', e', e', e']
    have q : w.heap.size + 1 = (w.alloc (.cells #[.slice ao ats.length acap, .slice co c.length ccap] 25)).heap.size := by simp
    refine ⟨⟨?_, ?_⟩, ?_⟩
    · rw [hw1, World.cell?_alloc_lt _ _ ⟨w.heap.size, 0, none⟩ (by simp)]; simp
    · rw [hw1, World.cell?_alloc_lt _ _ ⟨w.heap.size, 1, none⟩ (by simp)]; simp
    · rw [hw1, q]; simp
  have up : ∀ W, Below w1.heap.size w1 W → Below w.heap.size w W := fun W hW => HB1.out.1.trans (hW.mono HB1.out.1.size)
  have HUp : Hid (∀ W, Below w1.heap.size w1 W → Below w.heap.size w W) := up
  have hrl : ∀ W, Below w1.heap.size w1 W → RS2 (fun _ => True) W vl L := fun W hW => hRL.kept (Kept.of_below (up W hW))
  obtain ⟨F, hF⟩ : ∃ F, F = formFault ats c := ⟨_, rfl⟩
  obtain ⟨ev, hev⟩ : ∃ ev, ev = errV F := ⟨_, rfl⟩
  have HF : Hid (∀ W, Below w1.heap.size w1 W → Calls Tryz.prog 4 #[.agg #[.slice ao ats.length acap, .slice co c.length ccap]] W fun e w' => e = .returned (.int .i64 F) ∧ Below w1.heap.size w1 w') := fun W hW => by rw [hF]; exact (refForm_any _ _ ats c W (hA.below (up W hW)) (hC.below (up W hW))).mono fun e w' h => ⟨h.1, hW.trans (h.2.mono hW.size)⟩
  have HOf : Hid (∀ W, Below w1.heap.size w1 W → Calls Tryz.prog 6 #[.agg #[.slice ao ats.length acap, .slice co c.length ccap]] W fun e w' => e = .returned (.tuple #[.slice none 0 0, ev]) ∧ Below w1.heap.size w1 w') := fun W hW => by rw [hev, hF, errV_no hf]; exact (of_bad _ _ ats c W (hA.below (up W hW)) (hC.below (up W hW)) (hK.below (up W hW)) hf).mono fun e w' h => ⟨h.1, hW.trans (h.2.mono hW.size)⟩
  have HER2 : Hid (∀ W, Below w1.heap.size w1 W → Calls Tryz.prog 7 #[ev, .int .i64 F] W fun e w' => e = .returned (.bool true) ∧ Below w1.heap.size w1 w') := fun W hW => by rw [hev]; exact (errSame F W (hLd.below (up W hW))).mono fun e w' h => ⟨h.1, hW.trans (h.2.mono hW.size)⟩
  have HLi : Hid (∀ W, Below w1.heap.size w1 W → Calls Tryz.prog 8 #[.slice none 0 0, .slice none 0 0] W fun e w' => e = .returned (.bool true) ∧ Below w1.heap.size w1 w') := fun W hW => (lists_same (fun _ => True) _ _ [] W (Or.inl ⟨none, 0, rfl, rfl⟩) (Or.inl ⟨none, 0, rfl, rfl⟩)).mono fun e w' h => ⟨h.1, hW.trans (h.2.mono hW.size)⟩
  have HCH : Hid (∀ W, Below w1.heap.size w1 W → Calls Tryz.prog 12 #[.agg #[.slice ao ats.length acap, .slice co c.length ccap], vl, .agg #[.int .i64 u, .int .i64 a, .int .i64 b, .int .i64 d]] W fun e w' => e = .returned (.tuple #[.bool false, ev]) ∧ Below w1.heap.size w1 w') := fun W hW => by rw [hev, hF, errV_no hf]; exact (cholds_bad _ _ vl ats c u a b d W (hA.below (up W hW)) (hC.below (up W hW)) (hK.below (up W hW)) hf).mono fun e w' h => ⟨h.1, hW.trans (h.2.mono hW.size)⟩
  have F0 : (F == 0) = false := by rw [hF]; simp; exact hf
  obtain ⟨m, hm⟩ : ∃ m, m = ats.length := ⟨_, rfl⟩
  obtain ⟨n, hn⟩ : ∃ n, n = c.length := ⟨_, rfl⟩
  obtain ⟨nl, hnl⟩ : ∃ nl, nl = L.length := ⟨_, rfl⟩
  rw [← hm] at hw1 HX HF HOf HCH ⊢
  rw [← hn] at hw1 HX HF HOf HCH ⊢
  rw [← hnl] at hlv hl63
  subst hlv
  clear hm hn hnl hF hev hA hC hRL hK hLd up hrl hf
  go_enter Tryz.func3, Tryz.ntmps3
  obtain ⟨⟨x0, x1⟩, y0, y1, y2, y3⟩ := HX.out w1 (Below.refl _ _)
  rw [hw1] at x0 x1 y0 y1 y2 y3
  go_wp2_with fail
  rw [← hw1]
  clear hw1 x0 x1 y0 y1 y2 y3
  go_at_call 4
  refine (HF.out w1 (Below.refl _ _)).mono ?_
  rintro e w2 ⟨rfl, hb2⟩
  obtain ⟨⟨x0, x1⟩, y0, y1, y2, y3⟩ := HX.out w2 hb2
  have HB2 : Hid (Below w1.heap.size w1 w2) := hb2
  clear hb2
  go_wp2_with fail
  clear x0 x1 y0 y1 y2 y3
  go_at_call 6
  refine (HOf.out w2 HB2.out).mono ?_
  rintro e w3 ⟨rfl, hb3⟩
  have HB3 : Hid (Below w1.heap.size w1 w3) := hb3
  clear hb3
  go_wp2_with fail
  go_at_call 7
  refine (HER2.out w3 HB3.out).mono ?_
  rintro e w4 ⟨rfl, hb4⟩
  have HB4 : Hid (Below w1.heap.size w1 w4) := hb4
  clear hb4
  go_wp2_with fail
  go_at_call 8
  refine (HLi.out w4 HB4.out).mono ?_
  rintro e w5 ⟨rfl, hb5⟩
  have HBs : Hid (Below w1.heap.size w1 w5) := hb5
  obtain ⟨⟨x0, x1⟩, y0, y1, y2, y3⟩ := HX.out w5 hb5
  clear hb5
  go_wp2_with fail
  go_loopw [7, 13, 14, 15] (fun g i _ _ wx => g = .int .i64 F ∧ i = .int .i64 0 ∧ wx = w5) (fun _ _ _ _ _ => 0)
  case atStart => exact ⟨rfl, rfl, rfl⟩
  case round =>
    obtain ⟨rfl, rfl, rfl⟩ := hrel
    obtain ⟨w6, hw6⟩ : ∃ w6, w6 = wr := ⟨_, rfl⟩
    subst hw6
    rcases Nat.eq_zero_or_pos nl with h0 | h0
    · have hz : ¬ (0 : Int) < (nl : Int) := by omega
      clear h0
      go_wp2_with fail
      go_loopw [16, 17, 18, 19, 20, 21] (fun s i _ _ _ _ wx => s = .bool false ∧ i = .int .i64 0 ∧ wx = w6) (fun _ _ _ _ _ _ _ => 0)
      case atStart => exact ⟨rfl, rfl, rfl⟩
      case round =>
        obtain ⟨rfl, rfl, rfl⟩ := hrel
        go_wp2_with fail
        go_at_call 12
        refine (HCH.out _ HBs.out).mono ?_
        rintro e w8 ⟨rfl, hb8⟩
        have HB8 : Hid (Below w1.heap.size w1 w8) := hb8
        clear hb8 x0 x1 y0 y1 y2 y3
        go_wp2_with fail
        go_at_call 7
        refine (HER2.out _ HB8.out).mono ?_
        rintro e w9 ⟨rfl, hb9⟩
        have HB9 : Hid (Below w1.heap.size w1 w9) := hb9
        clear hb9
        go_wp2
        go_ret
        exact ⟨rfl, HUp.out _ HB9.out⟩
    · have hz : (0 : Int) < (nl : Int) := by omega
      clear h0
      go_wp2_with fail
      go_loopw [16, 17, 18, 19, 20, 21] (fun s i _ _ _ _ wx => s = .bool false ∧ i = .int .i64 0 ∧ wx = w6) (fun _ _ _ _ _ _ _ => 0)
      case atStart => exact ⟨rfl, rfl, rfl⟩
      case round =>
        obtain ⟨rfl, rfl, rfl⟩ := hrel
        go_wp2_with fail
        go_at_call 12
        refine (HCH.out _ HBs.out).mono ?_
        rintro e w8 ⟨rfl, hb8⟩
        have HB8 : Hid (Below w1.heap.size w1 w8) := hb8
        clear hb8 x0 x1 y0 y1 y2 y3
        go_wp2_with fail
        go_at_call 7
        refine (HER2.out _ HB8.out).mono ?_
        rintro e w9 ⟨rfl, hb9⟩
        have HB9 : Hid (Below w1.heap.size w1 w9) := hb9
        clear hb9
        go_wp2
        go_ret
        exact ⟨rfl, HUp.out _ HB9.out⟩
end Go.Proofs.YtenmheenieifpacGreatDoor

namespace Go.Proofs.YtenmheenieifpacGreatDoor
open Go.ChangeShapes Go.WideShapes Go.ChangeAt Go.RowKit
set_option maxRecDepth 100000

set_option maxHeartbeats 4000000 in
theorem ctell_G (va vc vl : Value) (ats : List At) (c : List Int) (L : List (List Int)) (u a b d : Int) (w : World) (hA : ReadsA w va ats) (hC : Reads w vc c) (hRL : RS2 (fun _ => True) w vl L) (hK : KindsLaid w) (hLd : Laid w) (hf : formFault ats c = 0) :
    Calls Tryz.prog 3 #[.agg #[va, vc], vl, .agg #[.int .i64 u, .int .i64 a, .int .i64 b, .int .i64 d]] w fun e w' => e = .returned (.bool true) ∧ Below w.heap.size w w' := by
  obtain ⟨ao, acap, rfl, _⟩ := hA.slice
  obtain ⟨co, ccap, rfl, _⟩ := hC.slice
  obtain ⟨lo, lcap, hlv, hl63⟩ := hRL.slice
  obtain ⟨w1, hw1⟩ : ∃ w1, w1 = (w.alloc (.cells #[.slice ao ats.length acap, .slice co c.length ccap] 25)).alloc (.cells #[.int .i64 u, .int .i64 a, .int .i64 b, .int .i64 d] 29) := ⟨_, rfl⟩
  have HB1 : Hid (Below w.heap.size w w1 ∧ w1.heap.size = w.heap.size + 2) := by unfold Hid; rw [hw1]; exact ⟨(below_alloc1 _ _).trans ((below_alloc1 _ _).mono (by simp)), by simp⟩
  have HX : Hid (∀ W, Below w1.heap.size w1 W → (W.cell? ⟨w.heap.size, 0, none⟩ = some (.slice ao ats.length acap) ∧ W.cell? ⟨w.heap.size, 1, none⟩ = some (.slice co c.length ccap)) ∧ W.cell? ⟨w.heap.size + 1, 0, none⟩ = some (.int .i64 u) ∧ W.cell? ⟨w.heap.size + 1, 1, none⟩ = some (.int .i64 a) ∧ W.cell? ⟨w.heap.size + 1, 2, none⟩ = some (.int .i64 b) ∧ W.cell? ⟨w.heap.size + 1, 3, none⟩ = some (.int .i64 d)) := fun W hW => by
    have e : ∀ j, W.cell? ⟨w.heap.size, j, none⟩ = w1.cell? ⟨w.heap.size, j, none⟩ := fun j => hW.cell (show (⟨w.heap.size, j, none⟩ : Addr).block < _ by have := HB1.out.2; simp; omega)
    have e' : ∀ j, W.cell? ⟨w.heap.size + 1, j, none⟩ = w1.cell? ⟨w.heap.size + 1, j, none⟩ := fun j => hW.cell (show (⟨w.heap.size + 1, j, none⟩ : Addr).block < _ by have := HB1.out.2; simp; omega)
    rw [e, e, e', e', e', e']
    have q : w.heap.size + 1 = (w.alloc (.cells #[.slice ao ats.length acap, .slice co c.length ccap] 25)).heap.size := by simp
    refine ⟨⟨?_, ?_⟩, ?_⟩
    · rw [hw1, World.cell?_alloc_lt _ _ ⟨w.heap.size, 0, none⟩ (by simp)]; simp
    · rw [hw1, World.cell?_alloc_lt _ _ ⟨w.heap.size, 1, none⟩ (by simp)]; simp
    · rw [hw1, q]; simp
  have up : ∀ W, Below w1.heap.size w1 W → Below w.heap.size w W := fun W hW => HB1.out.1.trans (hW.mono HB1.out.1.size)
  have HUp : Hid (∀ W, Below w1.heap.size w1 W → Below w.heap.size w W) := up
  have hrl : ∀ W, Below w1.heap.size w1 W → RS2 (fun _ => True) W vl L := fun W hW => hRL.kept (Kept.of_below (up W hW))
  obtain ⟨X, hX⟩ : ∃ X, X = cubesX (cubesC c) := ⟨_, rfl⟩
  obtain ⟨N, hN⟩ : ∃ N, N = cubesN (cubesC c) := ⟨_, rfl⟩
  obtain ⟨ev, hev⟩ : ∃ ev, ev = errV N := ⟨_, rfl⟩
  obtain ⟨ev1, hev1⟩ : ∃ ev1, ev1 = errV 1 := ⟨_, rfl⟩
  obtain ⟨held, hheld⟩ : ∃ held, held = (Wd.mk u a b d).heldL ats := ⟨_, rfl⟩
  obtain ⟨⟨_, h6⟩, _, hall0, _, _⟩ := formFault_zero.1 hf
  have HF : Hid (∀ W, Below w1.heap.size w1 W → Calls Tryz.prog 4 #[.agg #[.slice ao ats.length acap, .slice co c.length ccap]] W fun e w' => e = .returned (.int .i64 0) ∧ Below w1.heap.size w1 w') := fun W hW => by rw [← hf]; exact (refForm_any _ _ ats c W (hA.below (up W hW)) (hC.below (up W hW))).mono fun e w' h => ⟨h.1, hW.trans (h.2.mono hW.size)⟩
  have HCu : Hid (∀ W, Below w1.heap.size w1 W → Calls Tryz.prog 5 #[.agg #[.slice ao ats.length acap, .slice co c.length ccap]] W fun e w' => ∃ oo oc, e = .returned (.tuple #[.slice oo X.length oc, .int .i64 N]) ∧ RS2 (fun _ => True) w' (.slice oo X.length oc) X ∧ Below w1.heap.size w1 w') := fun W hW => by
    rw [hX, hN]
    refine (refCubes_good _ _ ats c W (hA.below (up W hW)) (hC.below (up W hW)) hf).mono ?_
    rintro e w' ⟨ho, hb⟩
    obtain ⟨oo, oc, he, hr⟩ := outR_any ho
    exact ⟨oo, oc, he, hr, hW.trans (hb.mono hW.size)⟩
  have HOf : Hid (∀ W, Below w1.heap.size w1 W → Calls Tryz.prog 6 #[.agg #[.slice ao ats.length acap, .slice co c.length ccap]] W fun e w' => ∃ oo oc, e = .returned (.tuple #[.slice oo X.length oc, ev]) ∧ RS2 (fun _ => True) w' (.slice oo X.length oc) X ∧ Below W.heap.size W w' ∧ Below w1.heap.size w1 w') := fun W hW => by
    rw [hev, hX, hN]
    refine (of_good _ _ ats c W (hA.below (up W hW)) (hC.below (up W hW)) (hK.below (up W hW)) hf).mono ?_
    rintro e w' ⟨ho, hb⟩
    obtain ⟨oo, oc, he, hr⟩ := outC_any ho
    exact ⟨oo, oc, he, hr, hb, hW.trans (hb.mono hW.size)⟩
  have HER1 : Hid (∀ W, Below w1.heap.size w1 W → Calls Tryz.prog 7 #[ev, .int .i64 N] W fun e w' => e = .returned (.bool true) ∧ Below W.heap.size W w' ∧ Below w1.heap.size w1 w') := fun W hW => by rw [hev]; exact (errSame N W (hLd.below (up W hW))).mono fun e w' h => ⟨h.1, h.2, hW.trans (h.2.mono hW.size)⟩
  have HER2 : Hid (∀ W, Below w1.heap.size w1 W → Calls Tryz.prog 7 #[ev1, .int .i64 1] W fun e w' => e = .returned (.bool true) ∧ Below w1.heap.size w1 w') := fun W hW => by rw [hev1]; exact (errSame 1 W (hLd.below (up W hW))).mono fun e w' h => ⟨h.1, hW.trans (h.2.mono hW.size)⟩
  have HER0 : Hid (∀ W, Below w1.heap.size w1 W → Calls Tryz.prog 7 #[.nilIface, .int .i64 0] W fun e w' => e = .returned (.bool true) ∧ Below w1.heap.size w1 w') := fun W hW => (errSame 0 W (hLd.below (up W hW))).mono fun e w' h => ⟨h.1, hW.trans (h.2.mono hW.size)⟩
  have HLi : Hid (∀ W v v', Below w1.heap.size w1 W → RS2 (fun _ => True) W v X → RS2 (fun _ => True) W v' X → Calls Tryz.prog 8 #[v, v'] W fun e w' => e = .returned (.bool true) ∧ Below w1.heap.size w1 w') := fun W v v' hW h1 h2 => (lists_same (fun _ => True) v v' X W h1 h2).mono fun e w' h => ⟨h.1, hW.trans (h.2.mono hW.size)⟩
  have HWd : Hid (∀ W, Below w1.heap.size w1 W → Calls Tryz.prog 9 #[.agg #[.int .i64 u, .int .i64 a, .int .i64 b, .int .i64 d]] W fun e w' => e = .returned (.int .i64 (if (Wd.mk u a b d).ok = true then 0 else 1)) ∧ Below w1.heap.size w1 w') := fun W hW => (refWorld_any u a b d W).mono fun e w' h => ⟨h.1, hW.trans (h.2.mono hW.size)⟩
  have HC1 : Hid (L.any (fun t => t.any (badM ats.length)) = true → ∀ W, Below w1.heap.size w1 W → Calls Tryz.prog 12 #[.agg #[.slice ao ats.length acap, .slice co c.length ccap], vl, .agg #[.int .i64 u, .int .i64 a, .int .i64 b, .int .i64 d]] W fun e w' => e = .returned (.tuple #[.bool false, ev1]) ∧ Below w1.heap.size w1 w') := fun hb W hW => by rw [hev1]; exact (cholds_range ao co acap ccap vl ats c L u a b d W (hA.below (up W hW)) (hC.below (up W hW)) (hrl W hW) (hK.below (up W hW)) hf hb).mono fun e w' h => ⟨h.1, hW.trans (h.2.mono hW.size)⟩
  have HC2 : Hid (L.any (fun t => t.any (badM ats.length)) = false → (Wd.mk u a b d).ok = false → ∀ W, Below w1.heap.size w1 W → Calls Tryz.prog 12 #[.agg #[.slice ao ats.length acap, .slice co c.length ccap], vl, .agg #[.int .i64 u, .int .i64 a, .int .i64 b, .int .i64 d]] W fun e w' => e = .returned (.tuple #[.bool false, ev1]) ∧ Below w1.heap.size w1 w') := fun hb ho W hW => by rw [hev1]; exact (cholds_world ao co acap ccap vl ats c L u a b d W (hA.below (up W hW)) (hC.below (up W hW)) (hrl W hW) (hK.below (up W hW)) hf hb ho).mono fun e w' h => ⟨h.1, hW.trans (h.2.mono hW.size)⟩
  have HC3 : Hid (L.any (fun t => t.any (badM ats.length)) = false → (Wd.mk u a b d).ok = true → ∀ W, Below w1.heap.size w1 W → Calls Tryz.prog 12 #[.agg #[.slice ao ats.length acap, .slice co c.length ccap], vl, .agg #[.int .i64 u, .int .i64 a, .int .i64 b, .int .i64 d]] W fun e w' => e = .returned (.tuple #[.bool (anyC held L), .nilIface]) ∧ Below w1.heap.size w1 w') := fun hb ho W hW => by rw [hheld]; exact (cholds_good ao co acap ccap vl ats c L u a b d W (hA.below (up W hW)) (hC.below (up W hW)) (hrl W hW) (hK.below (up W hW)) hf hb ho).mono fun e w' h => ⟨h.1, hW.trans (h.2.mono hW.size)⟩
  have HFr : Hid (∀ x : Int, x.natAbs ≤ 6 → ∀ W, Calls Tryz.prog 11 #[.int .i64 x] W fun e w' => e = .returned (.int .i64 x.natAbs) ∧ w' = W) := fun x hx W => far_ref x hx W
  have HAt : Hid ((Wd.mk u a b d).ok = true → ∀ y, y < ats.length → ∃ b1 off1, ao = some ⟨b1, off1, none⟩ ∧ ∃ (k n' : Int) (so tq : Option Addr) (sl sc tl tc : Nat), (∀ W, Below w1.heap.size w1 W → W.cell? ⟨b1, off1 + y * 4, none⟩ = some (.int .i64 k) ∧ W.cell? ⟨b1, off1 + y * 4 + 1, none⟩ = some (.slice so sl sc) ∧ W.cell? ⟨b1, off1 + y * 4 + 2, none⟩ = some (.slice tq tl tc) ∧ W.cell? ⟨b1, off1 + y * 4 + 3, none⟩ = some (.int .i64 n')) ∧ ∀ W, Below w1.heap.size w1 W → Calls Tryz.prog 10 #[.agg #[.int .i64 k, .slice so sl sc, .slice tq tl tc, .int .i64 n'], .agg #[.int .i64 u, .int .i64 a, .int .i64 b, .int .i64 d]] W fun e w' => e = .returned (.bool (held.getD y false)) ∧ Below w1.heap.size w1 w') := fun hok y hy => by
    obtain ⟨at0, hat⟩ : ∃ at0, ats[y]? = some at0 := ⟨_, List.getElem?_eq_getElem hy⟩
    rcases hA with ⟨_, _, hv, hn⟩ | ⟨b1, off1, cap1, hv, hb, _, _, hal⟩
    · rw [hn] at hy; simp at hy
    · cases hv
      obtain ⟨vs, vt, c0, c1, c2, c3, r1, r2⟩ := hal y at0 hat
      obtain ⟨so, sc, rfl, _⟩ := (r1.rs (S := fun _ => True) (fun _ _ => trivial)).slice
      obtain ⟨tq, tc, rfl, _⟩ := (r2.rs (S := fun _ => True) (fun _ _ => trivial)).slice
      refine ⟨b1, off1, rfl, at0.k, at0.n, so, tq, at0.s.length, sc, at0.t.length, tc, fun W hW => ?_, fun W hW => ?_⟩
      · have hx := up W hW
        exact ⟨by rw [hx.cell hb]; exact c0, by rw [hx.cell hb]; exact c1, by rw [hx.cell hb]; exact c2, by rw [hx.cell hb]; exact c3⟩
      · have e : held.getD y false = (Wd.mk u a b d).holds at0.k at0.s at0.t at0.n := by
          rw [hheld]; unfold Wd.heldL; simp [hat]
        rw [e]
        exact (refHolds_any at0.k at0.n _ _ at0.s at0.t u a b d (hall0 at0 (List.mem_of_getElem? hat)) hok W (r1.below (up W hW)) (r2.below (up W hW))).mono fun e w' h => ⟨h.1, hW.trans (h.2.mono hW.size)⟩
  have HLc : Hid (∀ k b off, k < L.length → lo = some ⟨b, off, none⟩ → ∃ o l cp, ∀ W, Below w1.heap.size w1 W → W.cell? ⟨b, off + k, none⟩ = some (.slice o l cp) ∧ l = (L.getD k []).length ∧ l ≤ 9223372036854775807 ∧ ∀ q, q < l → ∃ q1 f1, o = some ⟨q1, f1, none⟩ ∧ W.cell? ⟨q1, f1 + q, none⟩ = some (.int .i64 ((L.getD k []).getD q 0))) := fun k b off hk e => by
    obtain ⟨o, l, cp, hal⟩ := hRL.always rfl (by rw [hlv, e]) hk
    refine ⟨o, l, cp, fun W hW => ?_⟩
    have h := ((hal W (up W hW)).2.rs (S := fun _ => True) (fun _ _ => trivial)).numAt
    exact ⟨(hal W (up W hW)).1, h.1, h.2.1, fun q hq => h.2.2 q (by rw [← h.1]; exact hq)⟩
  have HLf : Hid (0 < L.length → ∃ b off, lo = some ⟨b, off, none⟩) := fun h0 => by
    obtain ⟨b, off, cap, e⟩ := hRL.form h0
    rw [hlv] at e; cases e; exact ⟨b, off, rfl⟩
  obtain ⟨m, hm⟩ : ∃ m, m = ats.length := ⟨_, rfl⟩
  obtain ⟨n, hn⟩ : ∃ n, n = c.length := ⟨_, rfl⟩
  obtain ⟨nl, hnl⟩ : ∃ nl, nl = L.length := ⟨_, rfl⟩
  rw [← hm] at hw1 HX HF HCu HOf HC1 HC2 HC3 HAt h6 ⊢
  rw [← hn] at hw1 HX HF HCu HOf HC1 HC2 HC3 ⊢
  have HNl : Hid (nl = L.length) := hnl
  rw [← hnl] at hlv hl63
  obtain ⟨xl, hxl⟩ : ∃ xl, xl = X.length := ⟨_, rfl⟩
  rw [← hxl] at HCu HOf
  subst hlv
  clear hm hn hnl hxl hev hev1 hX hN hheld hA hC hRL hK hLd up hrl hf hall0
  go_enter Tryz.func3, Tryz.ntmps3
  obtain ⟨⟨x0, x1⟩, y0, y1, y2, y3⟩ := HX.out w1 (Below.refl _ _)
  rw [hw1] at x0 x1 y0 y1 y2 y3
  go_wp2_with fail
  rw [← hw1]
  clear hw1 x0 x1 y0 y1 y2 y3
  go_at_call 4
  refine (HF.out w1 (Below.refl _ _)).mono ?_
  rintro e w2 ⟨rfl, hb2⟩
  obtain ⟨⟨x0, x1⟩, y0, y1, y2, y3⟩ := HX.out w2 hb2
  have HB2 : Hid (Below w1.heap.size w1 w2) := hb2
  clear hb2
  go_wp2_with fail
  clear x0 x1 y0 y1 y2 y3
  go_at_call 5
  refine (HCu.out w2 HB2.out).mono ?_
  rintro e w3 ⟨oo, oc, rfl, hr3, hb3⟩
  have HB3 : Hid (Below w1.heap.size w1 w3 ∧ RS2 (fun _ => True) w3 (.slice oo xl oc) X) := ⟨hb3, hr3⟩
  obtain ⟨⟨x0, x1⟩, y0, y1, y2, y3⟩ := HX.out w3 hb3
  clear hb3 hr3
  go_wp2_with fail
  clear x0 x1 y0 y1 y2 y3
  go_at_call 6
  refine (HOf.out w3 HB3.out.1).mono ?_
  rintro e w4 ⟨xo, xc, rfl, hr4, hb4, hb4'⟩
  have HB4 : Hid (Below w1.heap.size w1 w4 ∧ RS2 (fun _ => True) w4 (.slice oo xl oc) X ∧ RS2 (fun _ => True) w4 (.slice xo xl xc) X) := ⟨hb4', HB3.out.2.kept (Kept.of_below hb4), hr4⟩
  clear hb4 hb4' hr4
  go_wp2_with fail
  go_at_call 7
  refine (HER1.out w4 HB4.out.1).mono ?_
  rintro e w5 ⟨rfl, hb5, hb5'⟩
  have HB5 : Hid (Below w1.heap.size w1 w5 ∧ RS2 (fun _ => True) w5 (.slice oo xl oc) X ∧ RS2 (fun _ => True) w5 (.slice xo xl xc) X) := ⟨hb5', HB4.out.2.1.kept (Kept.of_below hb5), HB4.out.2.2.kept (Kept.of_below hb5)⟩
  clear hb5 hb5'
  go_wp2_with fail
  go_at_call 8
  refine (HLi.out w5 _ _ HB5.out.1 HB5.out.2.2 HB5.out.2.1).mono ?_
  rintro e w6 ⟨rfl, hb6⟩
  have HBs : Hid (Below w1.heap.size w1 w6) := hb6
  obtain ⟨⟨x0, x1⟩, y0, y1, y2, y3⟩ := HX.out w6 hb6
  clear hb6
  have HLw : Hid (∀ k b off, k < L.length → lo = some ⟨b, off, none⟩ → ∃ o l cp, w6.cell? ⟨b, off + k, none⟩ = some (.slice o l cp) ∧ l = (L.getD k []).length ∧ l ≤ 9223372036854775807 ∧ ∀ q, q < l → ∃ q1 f1, o = some ⟨q1, f1, none⟩ ∧ w6.cell? ⟨q1, f1 + q, none⟩ = some (.int .i64 ((L.getD k []).getD q 0))) := fun k b off hk e => by
    obtain ⟨o, l, cp, hal⟩ := HLc.out k b off hk e
    exact ⟨o, l, cp, hal w6 HBs.out⟩
  go_wp2_with fail
  go_loopw [7, 13, 14, 15] (fun g i _ _ wx => ∃ (j : Nat) (B : Bool), j ≤ nl ∧ i = .int .i64 j ∧ g = .int .i64 (if B = true then 1 else 0) ∧ Hid (B = (L.take j).any (fun t => t.any (badM m))) ∧ w6 = wx) (fun _ i _ _ _ => nl - (intOf i).toNat)
  case atStart => exact ⟨0, false, Nat.zero_le _, rfl, rfl, rfl, rfl⟩
  case round =>
    obtain ⟨j, B, hj, rfl, rfl, HB, rfl⟩ := hrel
    cases B
    · by_cases hlt : j < nl
      · have hjL : j < L.length := by rw [← HNl.out]; exact hlt
        have hltz : (j : Int) < (nl : Int) := by omega
        obtain ⟨lb, loff, rfl⟩ := HLf.out (by omega)
        obtain ⟨ro, rl, rcp, hcell, hrl, hr63, hnum⟩ := HLw.out j lb loff hjL rfl
        have HS : Hid ((L.take (j + 1)).any (fun t => t.any (badM m)) = (L.getD j []).any (badM m)) := by
          unfold Hid
          rw [anyL_succ L _ hjL, ← HB.out]; simp
        obtain ⟨t, ht⟩ : ∃ t, t = L.getD j [] := ⟨_, rfl⟩
        rw [← ht] at hrl hnum HS
        have HR : Hid (rl = t.length ∧ ∀ q, q < rl → ∃ q1 f1, ro = some ⟨q1, f1, none⟩ ∧ w6.cell? ⟨q1, f1 + q, none⟩ = some (.int .i64 (t.getD q 0))) := ⟨hrl, hnum⟩
        clear ht hrl hnum hjL
        simp only [Bool.false_eq_true, if_false]
        go_wp2_with fail
        go_loopw [7, 14, 15] (fun g k _ wx => ∃ (q : Nat) (B : Bool), q ≤ rl ∧ k = .int .i64 q ∧ g = .int .i64 (if B = true then 1 else 0) ∧ Hid (B = (t.take q).any (badM m)) ∧ w6 = wx) (fun _ k _ _ => rl - (intOf k).toNat)
        case atStart => exact ⟨0, false, Nat.zero_le _, rfl, rfl, rfl, rfl⟩
        case round =>
          obtain ⟨q, B, hq, rfl, rfl, HBq, rfl⟩ := hrel
          obtain ⟨gi, hgi⟩ : ∃ gi : Int, gi = (if B = true then 1 else 0) := ⟨_, rfl⟩
          rw [← hgi]
          have HGi : Hid (gi = (if B = true then 1 else 0)) := hgi
          clear hgi
          by_cases hql : q < rl
          · have hqt : q < t.length := by rw [← HR.out.1]; exact hql
            have hqz : (q : Int) < (rl : Int) := by omega
            obtain ⟨q1, f1, rfl, hc2⟩ := HR.out.2 q hql
            have HS2 : Hid ((t.take (q + 1)).any (badM m) = ((t.take q).any (badM m) || badM m (t.getD q 0))) := any_succ t _ hqt
            obtain ⟨x, hx⟩ : ∃ x, x = t.getD q 0 := ⟨_, rfl⟩
            rw [← hx] at hc2 HS2
            clear hx hqt
            have m1 : -9223372036854775808 ≤ -(m : Int) := by omega
            have m2 : -(m : Int) ≤ 9223372036854775807 := by omega
            by_cases h1 : x = 0
            · have HBd : Hid (badM m x = true) := by unfold Hid badM; simp [h1]
              have h1' : (x == 0) = true := by simp [h1]
              clear h1
              go_wp2
              go_roundw
              case rel => exact ⟨q + 1, true, by omega, by go_num, by first | rfl | simp, by unfold Hid; rw [HS2.out, HBd.out]; simp, by first | rfl | trivial⟩
              case measure => simp [intOf]; omega
            · have h1' : (x == 0) = false := by simp [h1]
              by_cases h2 : x < -(m : Int)
              · have HBd : Hid (badM m x = true) := by unfold Hid badM; simp [h2]
                clear h1
                go_wp2
                go_roundw
                case rel => exact ⟨q + 1, true, by omega, by go_num, by first | rfl | simp, by unfold Hid; rw [HS2.out, HBd.out]; simp, by first | rfl | trivial⟩
                case measure => simp [intOf]; omega
              · by_cases h3 : (m : Int) < x
                · have HBd : Hid (badM m x = true) := by unfold Hid badM; simp [h3]
                  clear h1
                  go_wp2
                  go_roundw
                  case rel => exact ⟨q + 1, true, by omega, by go_num, by first | rfl | simp, by unfold Hid; rw [HS2.out, HBd.out]; simp, by first | rfl | trivial⟩
                  case measure => simp [intOf]; omega
                · have HBd : Hid (badM m x = false) := by unfold Hid badM; simp [h1, h2, h3]
                  clear h1
                  go_wp2
                  go_roundw
                  case rel => exact ⟨q + 1, B, by omega, by go_num, by rw [HGi.out], by unfold Hid; rw [HS2.out, HBd.out, ← HBq.out]; simp, by first | rfl | trivial⟩
                  case measure => simp [intOf]; omega
          · have hqz : ¬ (q : Int) < (rl : Int) := by omega
            have HE : Hid (t.take q = t) := List.take_of_length_le (by have := HR.out.1; omega)
            go_wp2
            go_roundw
            case rel => exact ⟨j + 1, B, by omega, by go_num, by rw [HGi.out], by unfold Hid; rw [HS.out, HBq.out, HE.out], by first | rfl | trivial⟩
            case measure => simp [intOf]; omega
      · have hltz : ¬ (j : Int) < (nl : Int) := by omega
        have HG : Hid (L.any (fun t => t.any (badM m)) = false) := by
          have h := HB.out
          rw [List.take_of_length_le (by have := HNl.out; omega)] at h
          exact h.symm
        simp only [Bool.false_eq_true, if_false]
        cases hok : (Wd.mk u a b d).ok with
        | false =>
          have HW0 : Hid (∀ W, Below w1.heap.size w1 W → Calls Tryz.prog 9 #[.agg #[.int .i64 u, .int .i64 a, .int .i64 b, .int .i64 d]] W fun e w' => e = .returned (.int .i64 1) ∧ Below w1.heap.size w1 w') := fun W hW => by
            have h := HWd.out W hW
            rw [hok] at h; exact h
          have HCH : Hid (∀ W, Below w1.heap.size w1 W → Calls Tryz.prog 12 #[.agg #[.slice ao m acap, .slice co n ccap], .slice lo nl lcap, .agg #[.int .i64 u, .int .i64 a, .int .i64 b, .int .i64 d]] W fun e w' => e = .returned (.tuple #[.bool false, ev1]) ∧ Below w1.heap.size w1 w') := HC2.out HG.out hok
          clear hok HLw
          go_wp2_with fail
          clear x0 x1 y0 y1 y2 y3
          go_at_call 9
          refine (HW0.out w6 HBs.out).mono ?_
          rintro e w7 ⟨rfl, hb7⟩
          have HBs : Hid (Below w1.heap.size w1 w7) := hb7
          obtain ⟨⟨x0, x1⟩, y0, y1, y2, y3⟩ := HX.out w7 hb7
          clear hb7
          rcases Nat.eq_zero_or_pos nl with h0 | h0
          · have hz : ¬ (0 : Int) < (nl : Int) := by omega
            clear h0
            go_wp2_with fail
            go_loopw [16, 17, 18, 19, 20, 21] (fun s i _ _ _ _ wx => s = .bool false ∧ i = .int .i64 0 ∧ wx = w7) (fun _ _ _ _ _ _ _ => 0)
            case atStart => exact ⟨rfl, rfl, rfl⟩
            case round =>
              obtain ⟨rfl, rfl, rfl⟩ := hrel
              go_wp2_with fail
              go_at_call 12
              refine (HCH.out _ HBs.out).mono ?_
              rintro e w8 ⟨rfl, hb8⟩
              have HB8 : Hid (Below w1.heap.size w1 w8) := hb8
              clear hb8 x0 x1 y0 y1 y2 y3
              go_wp2_with fail
              go_at_call 7
              refine (HER2.out _ HB8.out).mono ?_
              rintro e w9 ⟨rfl, hb9⟩
              have HB9 : Hid (Below w1.heap.size w1 w9) := hb9
              clear hb9
              go_wp2
              go_ret
              exact ⟨rfl, HUp.out _ HB9.out⟩
          · have hz : (0 : Int) < (nl : Int) := by omega
            clear h0
            go_wp2_with fail
            go_loopw [16, 17, 18, 19, 20, 21] (fun s i _ _ _ _ wx => s = .bool false ∧ i = .int .i64 0 ∧ wx = w7) (fun _ _ _ _ _ _ _ => 0)
            case atStart => exact ⟨rfl, rfl, rfl⟩
            case round =>
              obtain ⟨rfl, rfl, rfl⟩ := hrel
              go_wp2_with fail
              go_at_call 12
              refine (HCH.out _ HBs.out).mono ?_
              rintro e w8 ⟨rfl, hb8⟩
              have HB8 : Hid (Below w1.heap.size w1 w8) := hb8
              clear hb8 x0 x1 y0 y1 y2 y3
              go_wp2_with fail
              go_at_call 7
              refine (HER2.out _ HB8.out).mono ?_
              rintro e w9 ⟨rfl, hb9⟩
              have HB9 : Hid (Below w1.heap.size w1 w9) := hb9
              clear hb9
              go_wp2
              go_ret
              exact ⟨rfl, HUp.out _ HB9.out⟩
        | true =>
          have HW0 : Hid (∀ W, Below w1.heap.size w1 W → Calls Tryz.prog 9 #[.agg #[.int .i64 u, .int .i64 a, .int .i64 b, .int .i64 d]] W fun e w' => e = .returned (.int .i64 0) ∧ Below w1.heap.size w1 w') := fun W hW => by
            have h := HWd.out W hW
            rw [hok] at h; exact h
          have HCH : Hid (∀ W, Below w1.heap.size w1 W → Calls Tryz.prog 12 #[.agg #[.slice ao m acap, .slice co n ccap], .slice lo nl lcap, .agg #[.int .i64 u, .int .i64 a, .int .i64 b, .int .i64 d]] W fun e w' => e = .returned (.tuple #[.bool (anyC held L), .nilIface]) ∧ Below w1.heap.size w1 w') := HC3.out HG.out hok
          have hAt2 := HAt.out hok
          have HGt : Hid (∀ j q, j < L.length → q < (L.getD j []).length → badM m ((L.getD j []).getD q 0) = false) := fun j q hj hq => by
            have h1 := HG.out
            rw [List.any_eq_false] at h1
            have h2 := h1 _ (mem_getD hj)
            rw [Bool.not_eq_true, List.any_eq_false] at h2
            simpa using h2 _ (memI hq)
          have HAt2 := hAt2
          clear hok HLw hAt2
          go_wp2_with fail
          clear x0 x1 y0 y1 y2 y3
          go_at_call 9
          refine (HW0.out w6 HBs.out).mono ?_
          rintro e w7 ⟨rfl, hb7⟩
          have HBs : Hid (Below w1.heap.size w1 w7) := hb7
          clear hb7
          go_wp2_with fail
          go_loopw [16, 17, 18, 19, 20, 21] (fun s i _ _ _ _ wx => ∃ j2 : Nat, j2 ≤ nl ∧ i = .int .i64 j2 ∧ s = .bool (anyC held (L.take j2)) ∧ Below w1.heap.size w1 wx) (fun _ i _ _ _ _ _ => nl - (intOf i).toNat)
          case atStart => exact ⟨0, Nat.zero_le _, rfl, rfl, HBs.out⟩
          case round =>
            obtain ⟨j2, hj2, rfl, rfl, hbw⟩ := hrel
            have HBw : Hid (Below w1.heap.size w1 wr) := hbw
            clear hbw
            by_cases hlt2 : j2 < nl
            · have hjL : j2 < L.length := by rw [← HNl.out]; exact hlt2
              have hltz2 : (j2 : Int) < (nl : Int) := by omega
              obtain ⟨lb, loff, rfl⟩ := HLf.out (by omega)
              obtain ⟨ro, rl, rcp, hal⟩ := HLc.out j2 lb loff hjL rfl
              have HS : Hid (anyC held (L.take (j2 + 1)) = (anyC held (L.take j2) || allC held (L.getD j2 []))) := anyL_succ L _ hjL
              have HGq : Hid (∀ q, q < (L.getD j2 []).length → badM m ((L.getD j2 []).getD q 0) = false) := fun q hq => HGt.out j2 q hjL hq
              obtain ⟨t, ht⟩ : ∃ t, t = L.getD j2 [] := ⟨_, rfl⟩
              rw [← ht] at hal HS HGq
              have hr63 := (hal wr HBw.out).2.2.1
              have HR : Hid (∀ W, Below w1.heap.size w1 W → W.cell? ⟨lb, loff + j2, none⟩ = some (.slice ro rl rcp) ∧ rl = t.length ∧ rl ≤ 9223372036854775807 ∧ ∀ q, q < rl → ∃ q1 f1, ro = some ⟨q1, f1, none⟩ ∧ W.cell? ⟨q1, f1 + q, none⟩ = some (.int .i64 (t.getD q 0))) := hal
              obtain ⟨S0, hS0⟩ : ∃ S0, S0 = anyC held (L.take j2) := ⟨_, rfl⟩
              rw [← hS0] at HS ⊢
              clear ht hal hjL hS0
              go_wp2_with fail
              go_loopw [18, 19, 20, 21] (fun al k _ _ wx => ∃ q : Nat, q ≤ rl ∧ k = .int .i64 q ∧ al = .bool (allC held (t.take q)) ∧ Below w1.heap.size w1 wx) (fun _ k _ _ _ => rl - (intOf k).toNat)
              case atStart => exact ⟨0, Nat.zero_le _, rfl, rfl, HBw.out⟩
              case round =>
                obtain ⟨q, hq, rfl, rfl, hbw⟩ := hrel
                have HBq : Hid (Below w1.heap.size w1 wr) := hbw
                obtain ⟨hcell, hrt, _, hnum⟩ := HR.out wr hbw
                have HRt : Hid (rl = t.length) := hrt
                obtain ⟨⟨x0, x1⟩, y0, y1, y2, y3⟩ := HX.out wr hbw
                clear hbw hrt
                by_cases hql : q < rl
                · have hqt : q < t.length := by rw [← HRt.out]; exact hql
                  have hqz : (q : Int) < (rl : Int) := by omega
                  obtain ⟨q1, f1, rfl, hc2⟩ := hnum q hql
                  have hbx := badM_no (HGq.out q hqt)
                  have HS2 : Hid (allC held (t.take (q + 1)) = (allC held (t.take q) && litC held (t.getD q 0))) := all_succC t held hqt
                  obtain ⟨x, hx⟩ : ∃ x, x = t.getD q 0 := ⟨_, rfl⟩
                  rw [← hx] at hc2 HS2 hbx
                  obtain ⟨y, hy⟩ : ∃ y, x.natAbs = y + 1 := ⟨x.natAbs - 1, by omega⟩
                  have hym : y < m := by omega
                  have HFx : Hid (∀ W, Calls Tryz.prog 11 #[.int .i64 x] W fun e w' => e = .returned (.int .i64 ((y : Int) + 1)) ∧ w' = W) := fun W => by
                    have h := HFr.out x (by omega) W
                    rw [hy] at h
                    simpa using h
                  obtain ⟨b1, off1, rfl, k', n', so, tq, sl, sc, tl, tc, hcs, hRh⟩ := HAt2 y hym
                  obtain ⟨a0, a1, a2, a3⟩ := hcs wr HBq.out
                  have HRh : Hid (∀ W, Below w1.heap.size w1 W → Calls Tryz.prog 10 #[.agg #[.int .i64 k', .slice so sl sc, .slice tq tl tc, .int .i64 n'], .agg #[.int .i64 u, .int .i64 a, .int .i64 b, .int .i64 d]] W fun e w' => e = .returned (.bool (held.getD y false)) ∧ Below w1.heap.size w1 w') := hRh
                  have HLt : Hid (litC held x = (held.getD y false == decide (0 < x))) := by unfold Hid litC; rw [hy]; rfl
                  obtain ⟨Hy, hHy⟩ : ∃ Hy, Hy = held.getD y false := ⟨_, rfl⟩
                  rw [← hHy] at HRh HLt
                  obtain ⟨A0, hA0⟩ : ∃ A0, A0 = allC held (t.take q) := ⟨_, rfl⟩
                  rw [← hA0] at HS2 ⊢
                  have hyz : (y : Int) < (m : Int) := by omega
                  have hwy : IntKind.i64.wrap (y : Int) = (y : Int) := wrap_small (by omega) (by omega)
                  clear hx hbx hqt hnum hcs hRh hHy hA0 hy
                  go_wp2_with fail
                  go_cut [21] from 120 to 128 (fun h wx => h = .bool Hy ∧ Below w1.heap.size w1 wx)
                  case first =>
                    go_region_with (first | (go_at_call 11; refine (HFx.out _).mono ?_; rintro e w' ⟨rfl, rfl⟩) | (go_at_call 10; refine (HRh.out _ (by first | exact HBq.out | exact HBq.out.trans ((below_drewNs _ _).mono HBq.out.size))).mono ?_; rintro e w' ⟨rfl, hb3⟩))
                    all_goals (try go_wp2_with fail)
                    all_goals go_meet
                    all_goals exact ⟨rfl, hb3⟩
                  case rest =>
                    obtain ⟨rfl, hb3⟩ := hcut
                    have HB3 : Hid (Below w1.heap.size w1 wc) := hb3
                    clear hb3 hcell hc2 a0 a1 a2 a3 x0 x1 y0 y1 y2 y3
                    cases A0
                    · go_wp2
                      go_roundw
                      case rel => exact ⟨q + 1, by omega, by go_num, by rw [HS2.out]; rfl, HB3.out⟩
                      case measure => simp [intOf]; omega
                    · go_wp2
                      go_roundw
                      case rel => exact ⟨q + 1, by omega, by go_num, by rw [HS2.out, HLt.out]; rfl, HB3.out⟩
                      case measure => simp [intOf]; omega
                · have hqz : ¬ (q : Int) < (rl : Int) := by omega
                  have HE : Hid (t.take q = t) := List.take_of_length_le (by have := HRt.out; omega)
                  rw [HE.out]
                  obtain ⟨A0, hA0⟩ : ∃ A0, A0 = allC held t := ⟨_, rfl⟩
                  rw [← hA0] at HS ⊢
                  clear hA0 hnum
                  cases S0
                  · go_wp2
                    go_roundw
                    case rel => exact ⟨j2 + 1, by omega, by go_num, by rw [HS.out]; rfl, HBq.out⟩
                    case measure => simp [intOf]; omega
                  · go_wp2
                    go_roundw
                    case rel => exact ⟨j2 + 1, by omega, by go_num, by rw [HS.out]; rfl, HBq.out⟩
                    case measure => simp [intOf]; omega
            · have hltz2 : ¬ (j2 : Int) < (nl : Int) := by omega
              rw [List.take_of_length_le (show L.length ≤ j2 by have := HNl.out; omega)]
              obtain ⟨V, hV⟩ : ∃ V, V = anyC held L := ⟨_, rfl⟩
              rw [← hV] at HCH ⊢
              clear hV
              obtain ⟨⟨x0, x1⟩, y0, y1, y2, y3⟩ := HX.out wr HBw.out
              go_wp2_with fail
              go_at_call 12
              refine (HCH.out wr HBw.out).mono ?_
              rintro e w8 ⟨rfl, hb8⟩
              have HB8 : Hid (Below w1.heap.size w1 w8) := hb8
              clear hb8 x0 x1 y0 y1 y2 y3
              go_wp2_with fail
              go_at_call 7
              refine (HER0.out _ HB8.out).mono ?_
              rintro e w9 ⟨rfl, hb9⟩
              have HB9 : Hid (Below w1.heap.size w1 w9) := hb9
              clear hb9
              cases V
              all_goals
                go_wp2
                go_ret
                exact ⟨rfl, HUp.out _ HB9.out⟩
    · have hbt : (L.take j).any (fun t => t.any (badM m)) = true := HB.out.symm
      have HBd : Hid (L.any (fun t => t.any (badM m)) = true) := by
        unfold Hid
        rw [← List.take_append_drop j L, List.any_append, hbt]; rfl
      have h0 : (0 : Int) < (nl : Int) := by
        have : 0 < L.length := by
          cases L with
          | nil => simp at hbt
          | cons => simp
        have := HNl.out; omega
      clear hbt
      simp only [if_true]
      by_cases hlt : j < nl
      · have hltz : (j : Int) < (nl : Int) := by omega
        have HCH := HC1.out HBd.out
        have HCH : Hid (∀ W, Below w1.heap.size w1 W → Calls Tryz.prog 12 #[.agg #[.slice ao m acap, .slice co n ccap], .slice lo nl lcap, .agg #[.int .i64 u, .int .i64 a, .int .i64 b, .int .i64 d]] W fun e w' => e = .returned (.tuple #[.bool false, ev1]) ∧ Below w1.heap.size w1 w') := HCH
        go_wp2_with fail
        go_loopw [16, 17, 18, 19, 20, 21] (fun s i _ _ _ _ wx => s = .bool false ∧ i = .int .i64 0 ∧ wx = w6) (fun _ _ _ _ _ _ _ => 0)
        case atStart => exact ⟨rfl, rfl, rfl⟩
        case round =>
          obtain ⟨rfl, rfl, rfl⟩ := hrel
          go_wp2_with fail
          go_at_call 12
          refine (HCH.out _ HBs.out).mono ?_
          rintro e w8 ⟨rfl, hb8⟩
          have HB8 : Hid (Below w1.heap.size w1 w8) := hb8
          clear hb8 x0 x1 y0 y1 y2 y3
          go_wp2_with fail
          go_at_call 7
          refine (HER2.out _ HB8.out).mono ?_
          rintro e w9 ⟨rfl, hb9⟩
          have HB9 : Hid (Below w1.heap.size w1 w9) := hb9
          clear hb9
          go_wp2
          go_ret
          exact ⟨rfl, HUp.out _ HB9.out⟩
      · have hltz : ¬ (j : Int) < (nl : Int) := by omega
        have HCH := HC1.out HBd.out
        have HCH : Hid (∀ W, Below w1.heap.size w1 W → Calls Tryz.prog 12 #[.agg #[.slice ao m acap, .slice co n ccap], .slice lo nl lcap, .agg #[.int .i64 u, .int .i64 a, .int .i64 b, .int .i64 d]] W fun e w' => e = .returned (.tuple #[.bool false, ev1]) ∧ Below w1.heap.size w1 w') := HCH
        go_wp2_with fail
        go_loopw [16, 17, 18, 19, 20, 21] (fun s i _ _ _ _ wx => s = .bool false ∧ i = .int .i64 0 ∧ wx = w6) (fun _ _ _ _ _ _ _ => 0)
        case atStart => exact ⟨rfl, rfl, rfl⟩
        case round =>
          obtain ⟨rfl, rfl, rfl⟩ := hrel
          go_wp2_with fail
          go_at_call 12
          refine (HCH.out _ HBs.out).mono ?_
          rintro e w8 ⟨rfl, hb8⟩
          have HB8 : Hid (Below w1.heap.size w1 w8) := hb8
          clear hb8 x0 x1 y0 y1 y2 y3
          go_wp2_with fail
          go_at_call 7
          refine (HER2.out _ HB8.out).mono ?_
          rintro e w9 ⟨rfl, hb9⟩
          have HB9 : Hid (Below w1.heap.size w1 w9) := hb9
          clear hb9
          go_wp2
          go_ret
          exact ⟨rfl, HUp.out _ HB9.out⟩
end Go.Proofs.YtenmheenieifpacGreatDoor

namespace Go.Proofs.YtenmheenieifpacGreatDoor
open Go.ChangeShapes Go.WideShapes Go.ChangeAt Go.RowKit
set_option maxRecDepth 100000

theorem cubesTell_walk (va vc : Value) (ats : List At) (c : List Int) (L : List (List Int)) (vl : Value) (u a b d : Int) (w : World) (hA : ReadsA w va ats) (hC : Reads w vc c) (hRL : RS2 (fun _ => True) w vl L) (hg : Laid w ∧ KindsLaid w) :
    Calls Tryz.prog 3 #[.agg #[va, vc], vl, .agg #[.int .i64 u, .int .i64 a, .int .i64 b, .int .i64 d]] w fun e w' => e = .returned (.bool true) ∧ Below w.heap.size w w' := by
  by_cases hf : formFault ats c = 0
  · exact ctell_G va vc vl ats c L u a b d w hA hC hRL hg.2 hg.1 hf
  · exact ctell_E va vc vl ats c L u a b d w hA hC hRL hg.2 hg.1 hf
end Go.Proofs.YtenmheenieifpacGreatDoor
