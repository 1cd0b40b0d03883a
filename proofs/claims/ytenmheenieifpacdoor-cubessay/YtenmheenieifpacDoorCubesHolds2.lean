/-
  Proved: what cubes.Holds returns, of any formula, any cubes and any world; what was in memory is as it was (a contract that the statements lean on).
-/
import Derived.Test.YtenmheenieifpacDoorCubesHolds
import Derived.Laws.EntriesVeiled
namespace Go.Proofs.YtenmheenieifpacDoor
open Go.ChangeShapes Go.WideShapes Go.ChangeAt Go.RowKit
set_option maxRecDepth 100000

set_option maxHeartbeats 8000000 in
theorem cholds_range (ao co : Option Addr) (acap ccap : Nat) (vl : Value) (ats : List At) (c : List Int) (L : List (List Int)) (u a b d : Int) (w : World) (hA : ReadsA w (.slice ao ats.length acap) ats) (hC : Reads w (.slice co c.length ccap) c) (hL : RS2 (fun _ => True) w vl L) (hK : KindsLaid w) (hf : formFault ats c = 0) (hbad : L.any (fun t => t.any (badM ats.length)) = true) :
    Calls Tryd.prog 14 #[.agg #[.slice ao ats.length acap, .slice co c.length ccap], vl, .agg #[.int .i64 u, .int .i64 a, .int .i64 b, .int .i64 d]] w fun e w' => e = .returned (.tuple #[.bool false, .iface 69 (.int .i64 1)]) ∧ Below w.heap.size w w' := by
  obtain ⟨⟨m1, m6⟩, _, hall, _, _⟩ := formFault_zero.1 hf
  obtain ⟨lo, lcap, rfl, _⟩ := hL.slice
  obtain ⟨w1, hw1⟩ : ∃ w1, w1 = (w.alloc (.cells #[.slice ao ats.length acap, .slice co c.length ccap] 25)).alloc (.cells #[.int .i64 u, .int .i64 a, .int .i64 b, .int .i64 d] 28) := ⟨_, rfl⟩
  have HB1 : Hid (Below w.heap.size w w1) := by unfold Hid; rw [hw1]; exact (below_alloc1 _ _).trans ((below_alloc1 _ _).mono (by simp))
  have HS1 : Hid (w1.heap.size = w.heap.size + 2) := by unfold Hid; rw [hw1]; simp
  have HCk : Hid (Calls Tryd.prog 28 #[.agg #[.slice ao ats.length acap, .slice co c.length ccap]] w1 fun e w' => e = .returned .nilIface ∧ Below w1.heap.size w1 w') := by
    have := fcheck_any _ _ ats c w1 (hA.below HB1.out) (hC.below HB1.out) (hK.below HB1.out)
    rw [hf, errV_0] at this
    exact this
  have HA : Hid (ReadsA w1 (.slice ao ats.length acap) ats) := hA.below HB1.out
  have HK : Hid (KindsLaid w1) := hK.below HB1.out
  have HLr : Hid (∀ W, Below w1.heap.size w1 W → RS2 (fun _ => True) W (.slice lo L.length lcap) L) := fun W hW => (hL.kept (Kept.of_below HB1.out)).kept (Kept.of_below hW)
  have HX : Hid (∀ W, Below w1.heap.size w1 W → (W.cell? ⟨w.heap.size, 0, none⟩ = some (.slice ao ats.length acap) ∧ W.cell? ⟨w.heap.size, 1, none⟩ = some (.slice co c.length ccap)) ∧ (W.cell? ⟨w.heap.size + 1, 0, none⟩ = some (.int .i64 u) ∧ W.cell? ⟨w.heap.size + 1, 1, none⟩ = some (.int .i64 a) ∧ W.cell? ⟨w.heap.size + 1, 2, none⟩ = some (.int .i64 b) ∧ W.cell? ⟨w.heap.size + 1, 3, none⟩ = some (.int .i64 d))) := fun W hc => by
    have l0 : w.heap.size < w1.heap.size := by have := HS1.out; omega
    have l1 : w.heap.size + 1 < w1.heap.size := by have := HS1.out; omega
    have e0 : ∀ j, W.cell? ⟨w.heap.size, j, none⟩ = w1.cell? ⟨w.heap.size, j, none⟩ := fun j => hc.cell (show (⟨w.heap.size, j, none⟩ : Addr).block < _ from l0)
    have e1 : ∀ j, W.cell? ⟨w.heap.size + 1, j, none⟩ = w1.cell? ⟨w.heap.size + 1, j, none⟩ := fun j => hc.cell (show (⟨w.heap.size + 1, j, none⟩ : Addr).block < _ from l1)
    simp only [e0, e1]
    rw [hw1]
    have q : w.heap.size + 1 = (w.alloc (.cells #[.slice ao ats.length acap, .slice co c.length ccap] 25)).heap.size := by simp
    have r : ∀ o j, ((w.alloc (.cells #[.slice ao ats.length acap, .slice co c.length ccap] 25)).alloc o).cell? ⟨w.heap.size, j, none⟩ = (w.alloc (.cells #[.slice ao ats.length acap, .slice co c.length ccap] 25)).cell? ⟨w.heap.size, j, none⟩ := fun o j => World.cell?_alloc_lt _ _ ⟨w.heap.size, j, none⟩ (by simp)
    simp only [r]
    rw [q]
    simp
  clear hA hC hK hL
  have e2 : ∀ args w, (callFunc 39 args).run Tryd.prog w = .ok (.enter 39 args) w := enters_of Tryd.func39 (by kernel_rfl) rfl
  have HA1 : Hid (∀ W P2, Below w1.heap.size w1 W → P2 < W.heap.size → W.cell? ⟨P2, 0, none⟩ = some (.func (.func 37) #[] #[.pointer (some ⟨w.heap.size, 0, none⟩)]) → Calls Tryd.prog 38 #[.slice lo L.length lcap, .func (.func 39) #[] #[.pointer (some ⟨P2, 0, none⟩)]] W fun e w' => e = .returned (.bool true) ∧ Below W.heap.size W w') := fun W P2 hW hlt hP2 => by
    rw [← hbad]
    exact anyL _ L _ P2 _ (fun t => t.any (badM ats.length)) W (HLr.out W hW) e2 (fun W' x t hW' _ hx => noCube_any ats.length ao acap w.heap.size P2 t x W' m6 (by have := (hW.trans (hW'.mono hW.size)).size; have := HS1.out; omega) (HX.out W' (hW.trans (hW'.mono hW.size))).1.1 (by rw [hW'.cell (show (⟨P2, 0, none⟩ : Addr).block < _ from hlt)]; exact hP2) hx)
  clear e2 hbad hall hf
  obtain ⟨m, hm⟩ : ∃ m, m = ats.length := ⟨_, rfl⟩
  obtain ⟨n, hn⟩ : ∃ n, n = c.length := ⟨_, rfl⟩
  obtain ⟨l, hl⟩ : ∃ l, l = L.length := ⟨_, rfl⟩
  rw [← hm] at hw1 HX HCk m1 m6 ⊢
  rw [← hn] at hw1 HX HCk ⊢
  rw [← hl] at HA1 ⊢
  clear hm hn hl HLr HA HK
  obtain ⟨x0, x1⟩ := (HX.out w1 (Below.refl _ _)).1
  rw [hw1] at x0 x1
  go_enter Tryd.func14, Tryd.ntmps14
  go_wp2_with fail
  rw [← hw1]
  clear hw1 x0 x1
  go_at_call 28
  refine HCk.out.mono ?_
  rintro e w2 ⟨rfl, hb⟩
  have HB2 : Hid (Below w1.heap.size w1 w2) := hb
  clear hb HCk
  have z0 : (w2.alloc (.cells #[.nilFunc] 75)).cell? ⟨w2.heap.size, 0, none⟩ = some .nilFunc := by simp
  have z1 : (w2.alloc (.cells #[.nilFunc] 75)).frozen? ⟨w2.heap.size, 0, none⟩ = false := by simp
  obtain ⟨w3, hw3⟩ : ∃ w3, w3 = w2.alloc (.cells #[.func (.func 37) #[] #[.pointer (some ⟨w.heap.size, 0, none⟩)]] 75) := ⟨_, rfl⟩
  have HB3 : Hid (Below w1.heap.size w1 w3 ∧ w2.heap.size < w3.heap.size) := by unfold Hid; rw [hw3]; exact ⟨HB2.out.trans ((below_alloc1 _ _).mono HB2.out.size), by simp⟩
  have HC3 : Hid (w3.cell? ⟨w2.heap.size, 0, none⟩ = some (.func (.func 37) #[] #[.pointer (some ⟨w.heap.size, 0, none⟩)])) := by unfold Hid; rw [hw3]; simp
  go_wp2_with fail
  rw [← hw3]
  clear hw3 z0 z1
  go_at_call 38
  refine (HA1.out w3 w2.heap.size HB3.out.1 HB3.out.2 HC3.out).mono ?_
  rintro e w4 ⟨rfl, hb⟩
  have HB4 : Hid (Below w1.heap.size w1 w4) := HB3.out.1.trans (hb.mono HB3.out.1.size)
  clear hb HA1
  go_wp2
  go_ret2
  exact ⟨rfl, HB1.out.trans (HB4.out.mono HB1.out.size)⟩

set_option maxHeartbeats 8000000 in
theorem cholds_world (ao co : Option Addr) (acap ccap : Nat) (vl : Value) (ats : List At) (c : List Int) (L : List (List Int)) (u a b d : Int) (w : World) (hA : ReadsA w (.slice ao ats.length acap) ats) (hC : Reads w (.slice co c.length ccap) c) (hL : RS2 (fun _ => True) w vl L) (hK : KindsLaid w) (hf : formFault ats c = 0) (hbad : L.any (fun t => t.any (badM ats.length)) = false) (hok : (Wd.mk u a b d).ok = false) :
    Calls Tryd.prog 14 #[.agg #[.slice ao ats.length acap, .slice co c.length ccap], vl, .agg #[.int .i64 u, .int .i64 a, .int .i64 b, .int .i64 d]] w fun e w' => e = .returned (.tuple #[.bool false, .iface 69 (.int .i64 1)]) ∧ Below w.heap.size w w' := by
  obtain ⟨⟨m1, m6⟩, _, hall, _, _⟩ := formFault_zero.1 hf
  obtain ⟨lo, lcap, rfl, _⟩ := hL.slice
  obtain ⟨w1, hw1⟩ : ∃ w1, w1 = (w.alloc (.cells #[.slice ao ats.length acap, .slice co c.length ccap] 25)).alloc (.cells #[.int .i64 u, .int .i64 a, .int .i64 b, .int .i64 d] 28) := ⟨_, rfl⟩
  have HB1 : Hid (Below w.heap.size w w1) := by unfold Hid; rw [hw1]; exact (below_alloc1 _ _).trans ((below_alloc1 _ _).mono (by simp))
  have HS1 : Hid (w1.heap.size = w.heap.size + 2) := by unfold Hid; rw [hw1]; simp
  have HCk : Hid (Calls Tryd.prog 28 #[.agg #[.slice ao ats.length acap, .slice co c.length ccap]] w1 fun e w' => e = .returned .nilIface ∧ Below w1.heap.size w1 w') := by
    have := fcheck_any _ _ ats c w1 (hA.below HB1.out) (hC.below HB1.out) (hK.below HB1.out)
    rw [hf, errV_0] at this
    exact this
  have HA : Hid (ReadsA w1 (.slice ao ats.length acap) ats) := hA.below HB1.out
  have HK : Hid (KindsLaid w1) := hK.below HB1.out
  have HLr : Hid (∀ W, Below w1.heap.size w1 W → RS2 (fun _ => True) W (.slice lo L.length lcap) L) := fun W hW => (hL.kept (Kept.of_below HB1.out)).kept (Kept.of_below hW)
  have HX : Hid (∀ W, Below w1.heap.size w1 W → (W.cell? ⟨w.heap.size, 0, none⟩ = some (.slice ao ats.length acap) ∧ W.cell? ⟨w.heap.size, 1, none⟩ = some (.slice co c.length ccap)) ∧ (W.cell? ⟨w.heap.size + 1, 0, none⟩ = some (.int .i64 u) ∧ W.cell? ⟨w.heap.size + 1, 1, none⟩ = some (.int .i64 a) ∧ W.cell? ⟨w.heap.size + 1, 2, none⟩ = some (.int .i64 b) ∧ W.cell? ⟨w.heap.size + 1, 3, none⟩ = some (.int .i64 d))) := fun W hc => by
    have l0 : w.heap.size < w1.heap.size := by have := HS1.out; omega
    have l1 : w.heap.size + 1 < w1.heap.size := by have := HS1.out; omega
    have e0 : ∀ j, W.cell? ⟨w.heap.size, j, none⟩ = w1.cell? ⟨w.heap.size, j, none⟩ := fun j => hc.cell (show (⟨w.heap.size, j, none⟩ : Addr).block < _ from l0)
    have e1 : ∀ j, W.cell? ⟨w.heap.size + 1, j, none⟩ = w1.cell? ⟨w.heap.size + 1, j, none⟩ := fun j => hc.cell (show (⟨w.heap.size + 1, j, none⟩ : Addr).block < _ from l1)
    simp only [e0, e1]
    rw [hw1]
    have q : w.heap.size + 1 = (w.alloc (.cells #[.slice ao ats.length acap, .slice co c.length ccap] 25)).heap.size := by simp
    have r : ∀ o j, ((w.alloc (.cells #[.slice ao ats.length acap, .slice co c.length ccap] 25)).alloc o).cell? ⟨w.heap.size, j, none⟩ = (w.alloc (.cells #[.slice ao ats.length acap, .slice co c.length ccap] 25)).cell? ⟨w.heap.size, j, none⟩ := fun o j => World.cell?_alloc_lt _ _ ⟨w.heap.size, j, none⟩ (by simp)
    simp only [r]
    rw [q]
    simp
  clear hA hC hK hL
  have e2 : ∀ args w, (callFunc 39 args).run Tryd.prog w = .ok (.enter 39 args) w := enters_of Tryd.func39 (by kernel_rfl) rfl
  have HA1 : Hid (∀ W P2, Below w1.heap.size w1 W → P2 < W.heap.size → W.cell? ⟨P2, 0, none⟩ = some (.func (.func 37) #[] #[.pointer (some ⟨w.heap.size, 0, none⟩)]) → Calls Tryd.prog 38 #[.slice lo L.length lcap, .func (.func 39) #[] #[.pointer (some ⟨P2, 0, none⟩)]] W fun e w' => e = .returned (.bool false) ∧ Below W.heap.size W w') := fun W P2 hW hlt hP2 => by
    rw [← hbad]
    exact anyL _ L _ P2 _ (fun t => t.any (badM ats.length)) W (HLr.out W hW) e2 (fun W' x t hW' _ hx => noCube_any ats.length ao acap w.heap.size P2 t x W' m6 (by have := (hW.trans (hW'.mono hW.size)).size; have := HS1.out; omega) (HX.out W' (hW.trans (hW'.mono hW.size))).1.1 (by rw [hW'.cell (show (⟨P2, 0, none⟩ : Addr).block < _ from hlt)]; exact hP2) hx)
  have HHo : Hid (∀ W, Below w1.heap.size w1 W → _) := fun W hW => holding_any ao acap ats u a b d W (HA.out.below hW) (HK.out.below hW) m1 m6 hall false hok
  clear e2 hbad hall hf
  obtain ⟨m, hm⟩ : ∃ m, m = ats.length := ⟨_, rfl⟩
  obtain ⟨n, hn⟩ : ∃ n, n = c.length := ⟨_, rfl⟩
  obtain ⟨l, hl⟩ : ∃ l, l = L.length := ⟨_, rfl⟩
  rw [← hm] at hw1 HX HCk m1 m6 ⊢
  rw [← hn] at hw1 HX HCk ⊢
  rw [← hl] at HA1 ⊢
  rw [← hm] at HHo
  clear hm hn hl HLr HA HK
  obtain ⟨x0, x1⟩ := (HX.out w1 (Below.refl _ _)).1
  rw [hw1] at x0 x1
  go_enter Tryd.func14, Tryd.ntmps14
  go_wp2_with fail
  rw [← hw1]
  clear hw1 x0 x1
  go_at_call 28
  refine HCk.out.mono ?_
  rintro e w2 ⟨rfl, hb⟩
  have HB2 : Hid (Below w1.heap.size w1 w2) := hb
  clear hb HCk
  have z0 : (w2.alloc (.cells #[.nilFunc] 75)).cell? ⟨w2.heap.size, 0, none⟩ = some .nilFunc := by simp
  have z1 : (w2.alloc (.cells #[.nilFunc] 75)).frozen? ⟨w2.heap.size, 0, none⟩ = false := by simp
  obtain ⟨w3, hw3⟩ : ∃ w3, w3 = w2.alloc (.cells #[.func (.func 37) #[] #[.pointer (some ⟨w.heap.size, 0, none⟩)]] 75) := ⟨_, rfl⟩
  have HB3 : Hid (Below w1.heap.size w1 w3 ∧ w2.heap.size < w3.heap.size) := by unfold Hid; rw [hw3]; exact ⟨HB2.out.trans ((below_alloc1 _ _).mono HB2.out.size), by simp⟩
  have HC3 : Hid (w3.cell? ⟨w2.heap.size, 0, none⟩ = some (.func (.func 37) #[] #[.pointer (some ⟨w.heap.size, 0, none⟩)])) := by unfold Hid; rw [hw3]; simp
  go_wp2_with fail
  rw [← hw3]
  clear hw3 z0 z1
  go_at_call 38
  refine (HA1.out w3 w2.heap.size HB3.out.1 HB3.out.2 HC3.out).mono ?_
  rintro e w4 ⟨rfl, hb⟩
  have HB4 : Hid (Below w1.heap.size w1 w4) := HB3.out.1.trans (hb.mono HB3.out.1.size)
  clear hb HA1
  obtain ⟨⟨x0, x1⟩, ⟨y0, y1, y2, y3⟩⟩ := HX.out w4 HB4.out
  go_wp2_with fail
  clear x0 x1 y0 y1 y2 y3
  go_at_call 41
  refine (HHo.out w4 HB4.out).mono ?_
  rintro e w5 ⟨hh, hb⟩
  have HB5 : Hid (Below w1.heap.size w1 w5) := HB4.out.trans (hb.mono HB4.out.size)
  clear hb HHo
  have he : e = .returned (.tuple #[.slice none 0 0, .iface 69 (.int .i64 1)]) := by simpa using hh
  subst he
  clear hh
  obtain ⟨w6, hw6⟩ : ∃ w6, w6 = w5.alloc (.cells #[.slice none 0 0] 65) := ⟨_, rfl⟩
  have HB6 : Hid (Below w1.heap.size w1 w6) := by unfold Hid; rw [hw6]; exact HB5.out.trans ((below_alloc1 _ _).mono HB5.out.size)
  have z0 : (w5.alloc (.cells #[.slice none 0 0] 65)).cell? ⟨w5.heap.size, 0, none⟩ = some (.slice none 0 0) := by simp
  have z1 : (w5.alloc (.cells #[.slice none 0 0] 65)).frozen? ⟨w5.heap.size, 0, none⟩ = false := by simp
  rw [hw6] at HB6
  clear hw6
  go_wp2
  go_ret2
  exact ⟨rfl, HB1.out.trans (HB6.out.mono HB1.out.size)⟩

set_option maxHeartbeats 8000000 in
theorem cholds_good (ao co : Option Addr) (acap ccap : Nat) (vl : Value) (ats : List At) (c : List Int) (L : List (List Int)) (u a b d : Int) (w : World) (hA : ReadsA w (.slice ao ats.length acap) ats) (hC : Reads w (.slice co c.length ccap) c) (hL : RS2 (fun _ => True) w vl L) (hK : KindsLaid w) (hf : formFault ats c = 0) (hbad : L.any (fun t => t.any (badM ats.length)) = false) (hok : (Wd.mk u a b d).ok = true) :
    Calls Tryd.prog 14 #[.agg #[.slice ao ats.length acap, .slice co c.length ccap], vl, .agg #[.int .i64 u, .int .i64 a, .int .i64 b, .int .i64 d]] w fun e w' => e = .returned (.tuple #[.bool (anyC ((Wd.mk u a b d).heldL ats) L), .nilIface]) ∧ Below w.heap.size w w' := by
  obtain ⟨⟨m1, m6⟩, _, hall, _, _⟩ := formFault_zero.1 hf
  obtain ⟨lo, lcap, rfl, _⟩ := hL.slice
  obtain ⟨w1, hw1⟩ : ∃ w1, w1 = (w.alloc (.cells #[.slice ao ats.length acap, .slice co c.length ccap] 25)).alloc (.cells #[.int .i64 u, .int .i64 a, .int .i64 b, .int .i64 d] 28) := ⟨_, rfl⟩
  have HB1 : Hid (Below w.heap.size w w1) := by unfold Hid; rw [hw1]; exact (below_alloc1 _ _).trans ((below_alloc1 _ _).mono (by simp))
  have HS1 : Hid (w1.heap.size = w.heap.size + 2) := by unfold Hid; rw [hw1]; simp
  have HCk : Hid (Calls Tryd.prog 28 #[.agg #[.slice ao ats.length acap, .slice co c.length ccap]] w1 fun e w' => e = .returned .nilIface ∧ Below w1.heap.size w1 w') := by
    have := fcheck_any _ _ ats c w1 (hA.below HB1.out) (hC.below HB1.out) (hK.below HB1.out)
    rw [hf, errV_0] at this
    exact this
  have HA : Hid (ReadsA w1 (.slice ao ats.length acap) ats) := hA.below HB1.out
  have HK : Hid (KindsLaid w1) := hK.below HB1.out
  have HLr : Hid (∀ W, Below w1.heap.size w1 W → RS2 (fun _ => True) W (.slice lo L.length lcap) L) := fun W hW => (hL.kept (Kept.of_below HB1.out)).kept (Kept.of_below hW)
  have HX : Hid (∀ W, Below w1.heap.size w1 W → (W.cell? ⟨w.heap.size, 0, none⟩ = some (.slice ao ats.length acap) ∧ W.cell? ⟨w.heap.size, 1, none⟩ = some (.slice co c.length ccap)) ∧ (W.cell? ⟨w.heap.size + 1, 0, none⟩ = some (.int .i64 u) ∧ W.cell? ⟨w.heap.size + 1, 1, none⟩ = some (.int .i64 a) ∧ W.cell? ⟨w.heap.size + 1, 2, none⟩ = some (.int .i64 b) ∧ W.cell? ⟨w.heap.size + 1, 3, none⟩ = some (.int .i64 d))) := fun W hc => by
    have l0 : w.heap.size < w1.heap.size := by have := HS1.out; omega
    have l1 : w.heap.size + 1 < w1.heap.size := by have := HS1.out; omega
    have e0 : ∀ j, W.cell? ⟨w.heap.size, j, none⟩ = w1.cell? ⟨w.heap.size, j, none⟩ := fun j => hc.cell (show (⟨w.heap.size, j, none⟩ : Addr).block < _ from l0)
    have e1 : ∀ j, W.cell? ⟨w.heap.size + 1, j, none⟩ = w1.cell? ⟨w.heap.size + 1, j, none⟩ := fun j => hc.cell (show (⟨w.heap.size + 1, j, none⟩ : Addr).block < _ from l1)
    simp only [e0, e1]
    rw [hw1]
    have q : w.heap.size + 1 = (w.alloc (.cells #[.slice ao ats.length acap, .slice co c.length ccap] 25)).heap.size := by simp
    have r : ∀ o j, ((w.alloc (.cells #[.slice ao ats.length acap, .slice co c.length ccap] 25)).alloc o).cell? ⟨w.heap.size, j, none⟩ = (w.alloc (.cells #[.slice ao ats.length acap, .slice co c.length ccap] 25)).cell? ⟨w.heap.size, j, none⟩ := fun o j => World.cell?_alloc_lt _ _ ⟨w.heap.size, j, none⟩ (by simp)
    simp only [r]
    rw [q]
    simp
  clear hA hC hK hL
  have e2 : ∀ args w, (callFunc 39 args).run Tryd.prog w = .ok (.enter 39 args) w := enters_of Tryd.func39 (by kernel_rfl) rfl
  have HA1 : Hid (∀ W P2, Below w1.heap.size w1 W → P2 < W.heap.size → W.cell? ⟨P2, 0, none⟩ = some (.func (.func 37) #[] #[.pointer (some ⟨w.heap.size, 0, none⟩)]) → Calls Tryd.prog 38 #[.slice lo L.length lcap, .func (.func 39) #[] #[.pointer (some ⟨P2, 0, none⟩)]] W fun e w' => e = .returned (.bool false) ∧ Below W.heap.size W w') := fun W P2 hW hlt hP2 => by
    rw [← hbad]
    exact anyL _ L _ P2 _ (fun t => t.any (badM ats.length)) W (HLr.out W hW) e2 (fun W' x t hW' _ hx => noCube_any ats.length ao acap w.heap.size P2 t x W' m6 (by have := (hW.trans (hW'.mono hW.size)).size; have := HS1.out; omega) (HX.out W' (hW.trans (hW'.mono hW.size))).1.1 (by rw [hW'.cell (show (⟨P2, 0, none⟩ : Addr).block < _ from hlt)]; exact hP2) hx)
  have HHo : Hid (∀ W, Below w1.heap.size w1 W → _) := fun W hW => holding_any ao acap ats u a b d W (HA.out.below hW) (HK.out.below hW) m1 m6 hall true hok
  have e4 : ∀ args w, (callFunc 43 args).run Tryd.prog w = .ok (.enter 43 args) w := enters_of Tryd.func43 (by kernel_rfl) rfl
  have hlen : ((Wd.mk u a b d).heldL ats).length = ats.length := by simp [Wd.heldL]
  have hgd : ∀ t ∈ L, ∀ m ∈ t, badM ats.length m = false := fun t ht m hm => by
    have h1 := List.any_eq_false.1 hbad t ht
    rw [Bool.not_eq_true] at h1
    have h2 := List.any_eq_false.1 h1 m hm
    simpa using h2
  have HA2 : Hid (∀ W P1 P2 G, Below w1.heap.size w1 W → P1 < W.heap.size → P2 < W.heap.size → W.cell? ⟨P1, 0, none⟩ = some (.slice (some ⟨G, 0, none⟩) ats.length ats.length) → W.cell? ⟨P2, 0, none⟩ = some (.func (.func 42) #[] #[.pointer (some ⟨P1, 0, none⟩)]) → ReadsB W G 0 ((Wd.mk u a b d).heldL ats) → Calls Tryd.prog 38 #[.slice lo L.length lcap, .func (.func 43) #[] #[.pointer (some ⟨P2, 0, none⟩)]] W fun e w' => e = .returned (.bool (anyC ((Wd.mk u a b d).heldL ats) L)) ∧ Below W.heap.size W w') := fun W P1 P2 G hW h1 h2 c1 c2 hR =>
    anyL _ L _ P2 _ (allC ((Wd.mk u a b d).heldL ats)) W (HLr.out W hW) e4 (fun W' x t hW' ht hx => holdsC_any _ G P1 P2 t x W' (by rw [hlen]; exact m6) (by rw [hlen]; exact hgd t ht) (Nat.lt_of_lt_of_le h1 hW'.size) (by rw [hW'.cell (show (⟨P1, 0, none⟩ : Addr).block < _ from h1), hlen]; exact c1) (by rw [hW'.cell (show (⟨P2, 0, none⟩ : Addr).block < _ from h2)]; exact c2) ⟨Nat.lt_of_lt_of_le hR.1 hW'.size, fun k hk => by rw [hW'.cell (show (⟨G, 0 + k, none⟩ : Addr).block < _ from hR.1)]; exact hR.2 k hk⟩ hx)
  clear e4 hlen hgd hok
  obtain ⟨V, hV⟩ : ∃ V, V = anyC ((Wd.mk u a b d).heldL ats) L := ⟨_, rfl⟩
  rw [← hV] at HA2 ⊢
  clear hV
  clear e2 hbad hall hf
  obtain ⟨m, hm⟩ : ∃ m, m = ats.length := ⟨_, rfl⟩
  obtain ⟨n, hn⟩ : ∃ n, n = c.length := ⟨_, rfl⟩
  obtain ⟨l, hl⟩ : ∃ l, l = L.length := ⟨_, rfl⟩
  rw [← hm] at hw1 HX HCk m1 m6 ⊢
  rw [← hn] at hw1 HX HCk ⊢
  rw [← hl] at HA1 ⊢
  rw [← hm] at HHo
  rw [← hm, ← hl] at HA2
  clear hm hn hl HLr HA HK
  obtain ⟨x0, x1⟩ := (HX.out w1 (Below.refl _ _)).1
  rw [hw1] at x0 x1
  go_enter Tryd.func14, Tryd.ntmps14
  go_wp2_with fail
  rw [← hw1]
  clear hw1 x0 x1
  go_at_call 28
  refine HCk.out.mono ?_
  rintro e w2 ⟨rfl, hb⟩
  have HB2 : Hid (Below w1.heap.size w1 w2) := hb
  clear hb HCk
  have z0 : (w2.alloc (.cells #[.nilFunc] 75)).cell? ⟨w2.heap.size, 0, none⟩ = some .nilFunc := by simp
  have z1 : (w2.alloc (.cells #[.nilFunc] 75)).frozen? ⟨w2.heap.size, 0, none⟩ = false := by simp
  obtain ⟨w3, hw3⟩ : ∃ w3, w3 = w2.alloc (.cells #[.func (.func 37) #[] #[.pointer (some ⟨w.heap.size, 0, none⟩)]] 75) := ⟨_, rfl⟩
  have HB3 : Hid (Below w1.heap.size w1 w3 ∧ w2.heap.size < w3.heap.size) := by unfold Hid; rw [hw3]; exact ⟨HB2.out.trans ((below_alloc1 _ _).mono HB2.out.size), by simp⟩
  have HC3 : Hid (w3.cell? ⟨w2.heap.size, 0, none⟩ = some (.func (.func 37) #[] #[.pointer (some ⟨w.heap.size, 0, none⟩)])) := by unfold Hid; rw [hw3]; simp
  go_wp2_with fail
  rw [← hw3]
  clear hw3 z0 z1
  go_at_call 38
  refine (HA1.out w3 w2.heap.size HB3.out.1 HB3.out.2 HC3.out).mono ?_
  rintro e w4 ⟨rfl, hb⟩
  have HB4 : Hid (Below w1.heap.size w1 w4) := HB3.out.1.trans (hb.mono HB3.out.1.size)
  clear hb HA1
  obtain ⟨⟨x0, x1⟩, ⟨y0, y1, y2, y3⟩⟩ := HX.out w4 HB4.out
  go_wp2_with fail
  clear x0 x1 y0 y1 y2 y3
  go_at_call 41
  refine (HHo.out w4 HB4.out).mono ?_
  rintro e w5 ⟨hh, hb⟩
  have HB5 : Hid (Below w1.heap.size w1 w5) := HB4.out.trans (hb.mono HB4.out.size)
  clear hb HHo
  obtain ⟨G, rfl, hR⟩ : ∃ G, e = .returned (.tuple #[.slice (some ⟨G, 0, none⟩) m m, .nilIface]) ∧ ReadsB w5 G 0 ((Wd.mk u a b d).heldL ats) := by simpa using hh
  clear hh
  obtain ⟨w6, hw6⟩ : ∃ w6, w6 = w5.alloc (.cells #[.slice (some ⟨G, 0, none⟩) m m] 65) := ⟨_, rfl⟩
  obtain ⟨w7, hw7⟩ : ∃ w7, w7 = w6.alloc (.cells #[.func (.func 42) #[] #[.pointer (some ⟨w5.heap.size, 0, none⟩)]] 75) := ⟨_, rfl⟩
  have s6 : w6.heap.size = w5.heap.size + 1 := by rw [hw6]; simp
  have HB7 : Hid (Below w1.heap.size w1 w7 ∧ w7.heap.size = w5.heap.size + 2) := by
    refine ⟨?_, by rw [hw7]; simp [s6]⟩
    rw [hw7]
    exact (by rw [hw6]; exact HB5.out.trans ((below_alloc1 _ _).mono HB5.out.size) : Below w1.heap.size w1 w6).trans ((below_alloc1 _ _).mono (by have := HB5.out.size; omega))
  have HC7 : Hid (w7.cell? ⟨w5.heap.size, 0, none⟩ = some (.slice (some ⟨G, 0, none⟩) m m) ∧ w7.cell? ⟨w5.heap.size + 1, 0, none⟩ = some (.func (.func 42) #[] #[.pointer (some ⟨w5.heap.size, 0, none⟩)]) ∧ ReadsB w7 G 0 ((Wd.mk u a b d).heldL ats)) := by
    have b57 : Below w5.heap.size w5 w7 := by
      rw [hw7]
      exact (by rw [hw6]; exact below_alloc1 _ _ : Below w5.heap.size w5 w6).trans ((below_alloc1 _ _).mono (by omega))
    refine ⟨?_, ?_, Nat.lt_of_lt_of_le hR.1 b57.size, fun k hk => by rw [b57.cell (show (⟨G, 0 + k, none⟩ : Addr).block < _ from hR.1)]; exact hR.2 k hk⟩
    · rw [hw7, World.cell?_alloc_lt _ _ ⟨w5.heap.size, 0, none⟩ (by simp; omega), hw6]; simp
    · rw [← s6, hw7]; simp
  have z0 : (w5.alloc (.cells #[.slice none 0 0] 65)).cell? ⟨w5.heap.size, 0, none⟩ = some (.slice none 0 0) := by simp
  have z1 : (w5.alloc (.cells #[.slice none 0 0] 65)).frozen? ⟨w5.heap.size, 0, none⟩ = false := by simp
  have z2 : ((w5.alloc (.cells #[.slice (some ⟨G, 0, none⟩) m m] 65)).alloc (.cells #[.nilFunc] 75)).cell? ⟨w5.heap.size + 1, 0, none⟩ = some .nilFunc := by rw [← hw6, ← s6]; simp
  have z3 : ((w5.alloc (.cells #[.slice (some ⟨G, 0, none⟩) m m] 65)).alloc (.cells #[.nilFunc] 75)).frozen? ⟨w5.heap.size + 1, 0, none⟩ = false := by rw [← hw6, ← s6]; simp
  have HW7 : Hid ((w5.alloc (.cells #[.slice (some ⟨G, 0, none⟩) m m] 65)).alloc (.cells #[.func (.func 42) #[] #[.pointer (some ⟨w5.heap.size, 0, none⟩)]] 75) = w7) := by unfold Hid; rw [hw7, hw6]
  clear hR hw6 hw7 s6
  go_wp2_with fail
  rw [HW7.out]
  clear z0 z1 z2 z3
  go_at_call 38
  refine (HA2.out w7 w5.heap.size (w5.heap.size + 1) G HB7.out.1 (by have := HB7.out.2; omega) (by have := HB7.out.2; omega) HC7.out.1 HC7.out.2.1 HC7.out.2.2).mono ?_
  rintro e w8 ⟨rfl, hb⟩
  have HB8 : Hid (Below w1.heap.size w1 w8) := HB7.out.1.trans (hb.mono HB7.out.1.size)
  clear hb HA2
  go_wp2
  go_ret2
  exact ⟨rfl, HB1.out.trans (HB8.out.mono HB1.out.size)⟩

set_option maxHeartbeats 4000000 in
theorem cholds_bad (va vc vl : Value) (ats : List At) (c : List Int) (u a b d : Int) (w : World) (hA : ReadsA w va ats) (hC : Reads w vc c) (hK : KindsLaid w) (hf : ¬ formFault ats c = 0) :
    Calls Tryd.prog 14 #[.agg #[va, vc], vl, .agg #[.int .i64 u, .int .i64 a, .int .i64 b, .int .i64 d]] w fun e w' => e = .returned (.tuple #[.bool false, .iface 69 (.int .i64 (formFault ats c))]) ∧ Below w.heap.size w w' := by
  obtain ⟨ao, acap, rfl, _⟩ := hA.slice
  obtain ⟨co, ccap, rfl, _⟩ := hC.slice
  obtain ⟨w1, hw1⟩ : ∃ w1, w1 = (w.alloc (.cells #[.slice ao ats.length acap, .slice co c.length ccap] 25)).alloc (.cells #[.int .i64 u, .int .i64 a, .int .i64 b, .int .i64 d] 28) := ⟨_, rfl⟩
  have HB1 : Hid (Below w.heap.size w w1) := by unfold Hid; rw [hw1]; exact (below_alloc1 _ _).trans ((below_alloc1 _ _).mono (by simp))
  have HC : Hid (Calls Tryd.prog 28 #[.agg #[.slice ao ats.length acap, .slice co c.length ccap]] w1 fun e w' => e = .returned (.iface 69 (.int .i64 (formFault ats c))) ∧ Below w1.heap.size w1 w') := by
    have := fcheck_any _ _ ats c w1 (hA.below HB1.out) (hC.below HB1.out) (hK.below HB1.out)
    rw [errV_no hf] at this
    exact this
  clear hA hC hK
  obtain ⟨F, hF⟩ : ∃ F, F = formFault ats c := ⟨_, rfl⟩
  rw [← hF] at HC ⊢
  clear hF hf
  obtain ⟨m, hm⟩ : ∃ m, m = ats.length := ⟨_, rfl⟩
  obtain ⟨n, hn⟩ : ∃ n, n = c.length := ⟨_, rfl⟩
  rw [← hm, ← hn] at HC hw1 ⊢
  clear hm hn
  have x0 : ((w.alloc (.cells #[.slice ao m acap, .slice co n ccap] 25)).alloc (.cells #[.int .i64 u, .int .i64 a, .int .i64 b, .int .i64 d] 28)).cell? ⟨w.heap.size, 0, none⟩ = some (.slice ao m acap) := by
    rw [World.cell?_alloc_lt _ _ ⟨w.heap.size, 0, none⟩ (by simp)]; simp
  have x1 : ((w.alloc (.cells #[.slice ao m acap, .slice co n ccap] 25)).alloc (.cells #[.int .i64 u, .int .i64 a, .int .i64 b, .int .i64 d] 28)).cell? ⟨w.heap.size, 1, none⟩ = some (.slice co n ccap) := by
    rw [World.cell?_alloc_lt _ _ ⟨w.heap.size, 1, none⟩ (by simp)]; simp
  go_enter Tryd.func14, Tryd.ntmps14
  go_wp2_with fail
  rw [← hw1]
  clear hw1 x0 x1
  go_at_call 28
  refine HC.out.mono ?_
  rintro e w2 ⟨rfl, hb⟩
  have HB2 : Hid (Below w.heap.size w w2) := HB1.out.trans (hb.mono HB1.out.size)
  clear hb
  go_wp2
  go_ret2
  exact ⟨rfl, HB2.out⟩
end Go.Proofs.YtenmheenieifpacDoor
