/-
  Proved: vennlaw1.CubesSay returns true, in one of four cases; what was in memory is as it was. Written by program.
-/
import Derived.Test.YtenmheenieifpacDoorCubesSayOne
namespace Go.Proofs.YtenmheenieifpacDoor
open Go.ChangeShapes Go.WideShapes Go.ChangeAt Go.RowKit
set_option maxRecDepth 100000

set_option maxHeartbeats 16000000 in
theorem cubesSay_G (ao co : Option Addr) (acap ccap : Nat) (ats : List At) (c : List Int) (m n : Nat) (hm : m = ats.length) (hn : n = c.length) (u a b d : Int) (w : World) (hA : ReadsA w (.slice ao m acap) ats) (hC : Reads w (.slice co n ccap) c) (hK : KindsLaid w) (L : List (List Int)) (hf : formFault ats c = 0) (hcu : cubesC c = some L) (hok : (Wd.mk u a b d).ok = true) :
    Calls Tryd.prog 4 #[.agg #[.slice ao m acap, .slice co n ccap], .agg #[.int .i64 u, .int .i64 a, .int .i64 b, .int .i64 d]] w fun e w' => e = .returned (.bool true) ∧ Below w.heap.size w w' := by
  obtain ⟨w1, hw1⟩ : ∃ w1, w1 = (w.alloc (.cells #[.slice ao m acap, .slice co n ccap] 25)).alloc (.cells #[.int .i64 u, .int .i64 a, .int .i64 b, .int .i64 d] 28) := ⟨_, rfl⟩
  have HB1 : Hid (Below w.heap.size w w1) := by unfold Hid; rw [hw1]; exact (below_alloc1 _ _).trans ((below_alloc1 _ _).mono (by simp))
  have HS1 : Hid (w1.heap.size = w.heap.size + 2) := by unfold Hid; rw [hw1]; simp
  have HX : Hid (∀ W, Below w1.heap.size w1 W → (W.cell? ⟨w.heap.size, 0, none⟩ = some (.slice ao m acap) ∧ W.cell? ⟨w.heap.size, 1, none⟩ = some (.slice co n ccap)) ∧ (W.cell? ⟨w.heap.size + 1, 0, none⟩ = some (.int .i64 u) ∧ W.cell? ⟨w.heap.size + 1, 1, none⟩ = some (.int .i64 a) ∧ W.cell? ⟨w.heap.size + 1, 2, none⟩ = some (.int .i64 b) ∧ W.cell? ⟨w.heap.size + 1, 3, none⟩ = some (.int .i64 d))) := fun W hc => by
    have l0 : w.heap.size < w1.heap.size := by have := HS1.out; omega
    have l1 : w.heap.size + 1 < w1.heap.size := by have := HS1.out; omega
    have e0 : ∀ j, W.cell? ⟨w.heap.size, j, none⟩ = w1.cell? ⟨w.heap.size, j, none⟩ := fun j => hc.cell (show (⟨w.heap.size, j, none⟩ : Addr).block < _ from l0)
    have e1 : ∀ j, W.cell? ⟨w.heap.size + 1, j, none⟩ = w1.cell? ⟨w.heap.size + 1, j, none⟩ := fun j => hc.cell (show (⟨w.heap.size + 1, j, none⟩ : Addr).block < _ from l1)
    simp only [e0, e1]
    rw [hw1]
    have q : w.heap.size + 1 = (w.alloc (.cells #[.slice ao m acap, .slice co n ccap] 25)).heap.size := by simp
    have r : ∀ o j, ((w.alloc (.cells #[.slice ao m acap, .slice co n ccap] 25)).alloc o).cell? ⟨w.heap.size, j, none⟩ = (w.alloc (.cells #[.slice ao m acap, .slice co n ccap] 25)).cell? ⟨w.heap.size, j, none⟩ := fun o j => World.cell?_alloc_lt _ _ ⟨w.heap.size, j, none⟩ (by simp)
    simp only [r]
    rw [q]
    simp
  have HKd : Hid (∀ W, Below w1.heap.size w1 W → KindsLaid W) := fun W hW => (hK.below HB1.out).below hW
  have HA : Hid (∀ W, Below w1.heap.size w1 W → ReadsA W (.slice ao m acap) ats ∧ Reads W (.slice co n ccap) c) := fun W hW => ⟨(hA.below HB1.out).below hW, (hC.below HB1.out).below hW⟩
  clear hA hC hK
  obtain ⟨S, hS⟩ : ∃ S, S = w.heap.size + 1 + 1 := ⟨_, rfl⟩
  have HSS : Hid (w1.heap.size = S) := by unfold Hid; rw [HS1.out, hS]
  obtain ⟨hs0, hs1, hs2, hs3, hs4, hs5⟩ := say_one w1 S HSS.out
  obtain ⟨w2, hw2⟩ : ∃ w2, w2 = ((((w1.alloc (.cells #[.int .i64 0] 3)).alloc (.cells #[.int .i64 1] 3)).alloc (.cells #[.int .i64 3, .slice (some ⟨S, 0, none⟩) 1 1, .slice none 0 0, .int .i64 1, .int .i64 4, .slice (some ⟨S + 1, 0, none⟩) 1 1, .slice none 0 0, .int .i64 2] 38)).alloc (.cells #[.int .i64 0, .int .i64 1, .int .i64 13] 3)).alloc (.cells #[.slice (some ⟨S + 1 + 1, 0, none⟩) 2 2, .slice (some ⟨S + 1 + 1 + 1, 0, none⟩) 3 3] 25) := ⟨_, rfl⟩
  rw [← hw2] at hs0 hs1 hs2 hs3 hs4 hs5
  have HB2 : Hid (Below w1.heap.size w1 w2) := hs0
  have HO1 : Hid (Calls Tryd.prog 11 #[.agg #[.slice (some ⟨S + 1 + 1, 0, none⟩) 2 2, .slice (some ⟨S + 1 + 1 + 1, 0, none⟩) 3 3]] w2 fun e w' => ∃ v, e = .returned (.tuple #[v, .nilIface]) ∧ RS2 (fun _ => True) w' v [[-1], [2]] ∧ Below w2.heap.size w2 w') := by
    refine (of_good _ _ [⟨3, [0], [], 1⟩, ⟨4, [1], [], 2⟩] [0, 1, 13] w2 hs2 hs3 (HKd.out _ HB2.out) (by decide +kernel)).mono ?_
    rintro e w' ⟨ho, hb⟩
    rw [show cubesC [0, 1, 13] = some [[-1], [2]] by decide +kernel] at ho
    obtain ⟨v, rfl, hr⟩ := ho
    exact ⟨v, rfl, hr.mono fun _ _ _ => trivial, hb⟩
  obtain ⟨hokL, hL40, hsay⟩ := cubes_say ((Wd.mk u a b d).heldL ats) hf hcu
  obtain ⟨⟨_, hM6⟩, _⟩ := formFault_zero.1 hf
  have HO : Hid (∀ W, Below w1.heap.size w1 W → Calls Tryd.prog 11 #[.agg #[.slice ao m acap, .slice co n ccap]] W fun e w' => ∃ v, e = .returned (.tuple #[v, .nilIface]) ∧ RS2 (fun _ => True) w' v L ∧ Below W.heap.size W w') := fun W hW => by
    refine (of_good _ _ ats c W (HA.out W hW).1 (HA.out W hW).2 (HKd.out W hW) hf).mono ?_
    rintro e w' ⟨ho, hb⟩
    rw [hcu] at ho
    obtain ⟨v, rfl, hr⟩ := ho
    exact ⟨v, rfl, hr.mono fun _ _ _ => trivial, hb⟩
  have HBm : Hid (L.any (fun t => t.any (badM ats.length)) = false) := members_ok hokL
  have HRi : Hid (∀ i j, i < L.length → j + 1 < (L.getD i []).length → ((L.getD i []).getD j 0).natAbs < ((L.getD i []).getD (j + 1) 0).natAbs) := fun i j hi hj => rising_at (hokL.1 _ (mem_getD hi)) hj
  have HM6 : Hid (∀ i j, i < L.length → j < (L.getD i []).length → ((L.getD i []).getD j 0).natAbs ≤ 6) := fun i j hi hj => by
    have := ((hokL.1 _ (mem_getD hi)).1 ((L.getD i []).getD j 0) (getD_mem hj)).2
    omega
  have HC6 : Hid (∀ i, i < L.length → (L.getD i []).length ≤ 6) := fun i hi => Nat.le_trans (cube_len (hokL.1 _ (mem_getD hi))) hM6
  have HDf : Hid (∀ i k, i < L.length → k < i → (L.getD i [] == L.getD k []) = false) := fun i k hi hk => differ_at hokL.2 hi hk
  rw [hm] at HA
  rw [hn] at HA
  have HFh : Hid (∀ W, Below w1.heap.size w1 W → Calls Tryd.prog 8 #[.agg #[.slice ao ats.length acap, .slice co c.length ccap], .agg #[.int .i64 u, .int .i64 a, .int .i64 b, .int .i64 d]] W fun e w' => e = .returned (.tuple #[.bool (valF ((Wd.mk u a b d).heldL ats) c), .nilIface]) ∧ Below W.heap.size W w') := fun W hW => by
    have h := fholds_any _ _ ats c u a b d W (HA.out W hW).1 (HA.out W hW).2 (HKd.out W hW)
    have e0 : (Wd.mk u a b d).formFault ats c = 0 := wdForm_zero.2 ⟨hf, hok⟩
    have e1 : (Wd.mk u a b d).formIs ats c = valF ((Wd.mk u a b d).heldL ats) c := by unfold Wd.formIs; rw [if_pos e0]
    rw [e0, e1, errV_0] at h
    exact h
  have HCh : Hid (∀ W v, Below w1.heap.size w1 W → RS2 (fun _ => True) W v L → Calls Tryd.prog 14 #[.agg #[.slice ao ats.length acap, .slice co c.length ccap], v, .agg #[.int .i64 u, .int .i64 a, .int .i64 b, .int .i64 d]] W fun e w' => e = .returned (.tuple #[.bool (valF ((Wd.mk u a b d).heldL ats) c), .nilIface]) ∧ Below W.heap.size W w') := fun W v hW hv => by
    have h := cholds_good ao co acap ccap v ats c L u a b d W (HA.out W hW).1 (HA.out W hW).2 hv (HKd.out W hW) hf HBm.out hok
    rw [hsay] at h
    exact h
  obtain ⟨X, hX⟩ : ∃ X, X = valF ((Wd.mk u a b d).heldL ats) c := ⟨_, rfl⟩
  rw [← hX] at HFh HCh
  clear hX
  rw [← hm, ← hn] at HFh HCh
  obtain ⟨l, hl⟩ : ∃ l, l = L.length := ⟨_, rfl⟩
  have HL : Hid (l = L.length) := hl
  rw [← hl] at hL40
  clear hl hokL hsay hf hcu hok hM6 HBm
  clear hm hn
  clear hs0 hs1 hs2 hs3
  have p0 := hs4
  have p1 := hs5
  rw [hw2] at p0 p1
  clear hs4 hs5
  subst hS
  go_enter Tryd.func4, Tryd.ntmps4
  go_wp2_with fail
  rw [← hw1, ← hw2]
  clear hw1 hw2 p0 p1
  go_at_call 11
  refine HO1.out.mono ?_
  rintro e w3 ⟨v3, rfl, hr3, hb⟩
  have HB3 : Hid (Below w1.heap.size w1 w3) := HB2.out.trans (hb.mono HB2.out.size)
  clear hb HO1
  obtain ⟨fb, fo, fc, b1, f1, q1, b2, f2, q2, rfl, z0, z1, z2, z3⟩ := rs2_two hr3
  clear hr3
  obtain ⟨x0, x1⟩ := (HX.out w3 HB3.out).1
  go_wp2_with fail
  clear z0 z1 z2 z3 x0 x1
  go_at_call 11
  refine (HO.out w3 HB3.out).mono ?_
  rintro e w4 ⟨v4, rfl, hr4, hb⟩
  have HB4 : Hid (Below w1.heap.size w1 w4) := HB3.out.trans (hb.mono HB3.out.size)
  obtain ⟨lo, lcap, hv4, _⟩ := hr4.slice
  rw [← HL.out] at hv4
  obtain ⟨Q, hQ⟩ : ∃ Q, Q = w4.heap.size := ⟨_, rfl⟩
  have HR4 : Hid (∀ W, Below Q w4 W → RS2 (fun _ => True) W (.slice lo l lcap) L) := fun W hW => by rw [← hv4]; exact hr4.kept (Kept.of_below (by rw [← hQ]; exact hW))
  have HC : Hid (∀ k b off, k < L.length → lo = some ⟨b, off, none⟩ → ∃ o l cp, ∀ W, Below Q w4 W → W.cell? ⟨b, off + k, none⟩ = some (.slice o l cp) ∧ Reads W (.slice o l cp) (L.getD k [])) := fun k b off hk e => hr4.always hQ (by rw [hv4, e]) hk
  have HCf : Hid (0 < L.length → ∃ b off, lo = some ⟨b, off, none⟩) := fun h0 => by
    obtain ⟨b, off, cap, e⟩ := hr4.form h0
    rw [hv4] at e; cases e; exact ⟨b, off, rfl⟩
  have HQ : Hid (∀ W, Below Q w4 W → Below w1.heap.size w1 W) := fun W hW => HB4.out.trans (hW.mono (by rw [hQ]; exact HB4.out.size))
  have HQe : Hid (Q = w4.heap.size) := hQ
  subst hv4
  clear hb HO hr4 hQ
  go_wp2_with fail
  go_loopw [10, 11, 12] (fun i _ _ wr => ∃ k : Nat, k ≤ l ∧ i = .int .i64 k ∧ Below Q w4 wr) (fun i _ _ _ => l - (intOf i).toNat)
  case atStart => exact ⟨0, Nat.zero_le _, rfl, Below.refl _ _⟩
  case round =>
    obtain ⟨i, hi, rfl, hbel⟩ := hrel
    have HBi : Hid (Below Q w4 wr) := hbel
    clear hbel
    by_cases hlt : i < l
    · have hiL : i < L.length := by rw [← HL.out]; exact hlt
      obtain ⟨lb, loff, rfl⟩ := HCf.out (by omega)
      obtain ⟨co', cl, ccp, hall⟩ := HC.out i lb loff hiL rfl
      have HCi : Hid (∀ W, Below Q w4 W → W.cell? ⟨lb, loff + i, none⟩ = some (.slice co' cl ccp) ∧ Reads W (.slice co' cl ccp) (L.getD i [])) := hall
      have HIL : Hid (i < L.length) := hiL
      have hcl : cl = (L.getD i []).length := by
        rcases (hall w4 (Below.refl _ _)).2 with ⟨_, _, e, e2⟩ | ⟨_, _, _, e, _⟩
        · cases e; rw [e2]; rfl
        · cases e; rfl
      have hcl6 : cl ≤ 6 := by rw [hcl]; exact HC6.out i hiL
      have HCl : Hid (cl = (L.getD i []).length) := hcl
      have hltz : (i : Int) < (l : Int) := by omega
      clear hall hcl hiL
      go_wp2_with fail
      go_loopw [11] (fun j wq => ∃ k : Nat, k ≤ cl ∧ j = .int .i64 ((k : Int) + 1) ∧ Below Q w4 wq) (fun j _ => cl + 1 - (intOf j).toNat)
      case atStart => exact ⟨0, Nat.zero_le _, rfl, HBi.out⟩
      case round =>
        obtain ⟨k, hk, rfl, hbel⟩ := hrel
        have HBk : Hid (Below Q w4 wr) := hbel
        clear hbel
        have hcell := (HCi.out wr HBk.out).1
        by_cases hkl : k + 1 < cl
        · have hkl1 : k + 1 < (L.getD i []).length := by rw [← HCl.out]; exact hkl
          obtain ⟨cb, coff, rfl, hx, hy⟩ : ∃ cb coff, co' = some ⟨cb, coff, none⟩ ∧ wr.cell? ⟨cb, coff + (k + 1), none⟩ = some (.int .i64 ((L.getD i []).getD (k + 1) 0)) ∧ wr.cell? ⟨cb, coff + k, none⟩ = some (.int .i64 ((L.getD i []).getD k 0)) := by
            rcases (HCi.out wr HBk.out).2 with ⟨_, _, _, e2⟩ | ⟨cb, coff, _, e, _, _, _, hcs⟩
            · rw [e2] at hkl1; simp at hkl1
            · cases e
              exact ⟨cb, coff, rfl, hcs (k + 1) hkl1, hcs k (by omega)⟩
          have hr := HRi.out i k HIL.out hkl1
          have x6 := HM6.out i (k + 1) HIL.out hkl1
          have y6 := HM6.out i k HIL.out (by omega)
          obtain ⟨x, hxe⟩ : ∃ x, x = (L.getD i []).getD (k + 1) 0 := ⟨_, rfl⟩
          obtain ⟨y, hye⟩ : ∃ y, y = (L.getD i []).getD k 0 := ⟨_, rfl⟩
          rw [← hxe] at hx hr x6
          rw [← hye] at hy hr y6
          have HFx : Hid (∀ W, Calls Tryd.prog 12 #[.int .i64 x] W fun e w' => e = .returned (.int .i64 x.natAbs) ∧ w' = W) := fun W => far_ref x x6 W
          have HFy : Hid (∀ W, Calls Tryd.prog 12 #[.int .i64 y] W fun e w' => e = .returned (.int .i64 y.natAbs) ∧ w' = W) := fun W => far_ref y y6 W
          have hd : decide ((x.natAbs : Int) ≤ (y.natAbs : Int)) = false := decide_eq_false (by omega)
          have hd2 : ¬ x.natAbs ≤ y.natAbs := by omega
          have hd3 : decide (x.natAbs ≤ y.natAbs) = false := decide_eq_false hd2
          have hd4 : ¬ (x.natAbs : Int) ≤ (y.natAbs : Int) := by omega
          have k1 : (0 : Int) ≤ (k : Int) := by omega
          have k2 : (k : Int) < (cl : Int) := by omega
          have k3 : (k : Int) + 1 < (cl : Int) := by omega
          have k4 : (0 : Int) ≤ (k : Int) + 1 := by omega
          have i1 : (0 : Int) ≤ (i : Int) := by omega
          clear hxe hye hr x6 y6 hkl1
          go_wp2_with fail
          go_quiet (first | (go_at_call 12; exact Calls.quiet_of_same (HFx.out _)) | (go_at_call 12; exact Calls.quiet_of_same (HFy.out _)))
          go_wp2
          go_roundw
          case rel => exact ⟨k + 1, by omega, by go_num, HBk.out.trans ((below_drewNs _ _).mono (by have := HBk.out.size; have := HQe.out; omega))⟩
          case measure => simp [intOf]; omega
        · have kz : ¬ (k : Int) + 1 < (cl : Int) := by omega
          go_wp2_with fail
          clear hcell
          go_loopw [12] (fun j wq => ∃ k2 : Nat, k2 ≤ i ∧ j = .int .i64 k2 ∧ Below Q w4 wq) (fun j _ => i - (intOf j).toNat)
          case atStart => exact ⟨0, Nat.zero_le _, rfl, HBk.out⟩
          case round =>
            obtain ⟨k2, hk2, rfl, hbel⟩ := hrel
            have HBj : Hid (Below Q w4 wr) := hbel
            clear hbel
            by_cases hji : k2 < i
            · obtain ⟨eo, el, ecp, hall2⟩ := HC.out k2 lb loff (by have := HIL.out; omega) rfl
              have hc1 := (HCi.out wr HBj.out).1
              have hc2 := (hall2 wr HBj.out).1
              have HIn : Hid (∀ N, Calls Tryd.prog 13 #[.slice co' cl ccp, .slice eo el ecp] (wr.drewN N) fun e w' => e = .returned (.bool false) ∧ ∃ q, w' = (wr.drewN N).drewN q) := fun N => by
                have hN : Below Q w4 (wr.drewN N) := HBj.out.trans ((below_drewNs _ _).mono (by have := HBj.out.size; have := HQe.out; omega))
                have h := intsEq _ _ _ _ (wr.drewN N) (HCi.out _ hN).2 (hall2 _ hN).2
                rw [HDf.out i k2 HIL.out hji] at h
                exact h
              have j1 : (k2 : Int) < (i : Int) := by omega
              have j2 : (0 : Int) ≤ (k2 : Int) := by omega
              have j3 : (k2 : Int) < (l : Int) := by omega
              have j4 : (0 : Int) ≤ (i : Int) := by omega
              clear hall2
              go_wp2_with fail
              go_quiet (first | (go_at_call 13; exact Calls.quiet_of (HIn.out _)))
              go_wp2
              go_roundw
              case rel => exact ⟨k2 + 1, by omega, by go_num, HBj.out.trans ((below_drewNs _ _).mono (by have := HBj.out.size; have := HQe.out; omega))⟩
              case measure => simp [intOf]; omega
            · have jz : ¬ (k2 : Int) < (i : Int) := by omega
              go_wp2
              go_roundw
              case rel => exact ⟨i + 1, by omega, by go_num, HBj.out⟩
              case measure => simp [intOf]; omega
    · have iz : ¬ (i : Int) < (l : Int) := by omega
      obtain ⟨⟨x0, x1⟩, ⟨y0, y1, y2, y3⟩⟩ := HX.out wr (HQ.out wr HBi.out)
      go_wp2_with fail
      clear x0 x1 y0 y1 y2 y3
      go_at_call 8
      refine (HFh.out wr (HQ.out wr HBi.out)).mono ?_
      rintro e w5 ⟨rfl, hb⟩
      have HB5 : Hid (Below Q w4 w5) := HBi.out.trans (hb.mono (by have := HBi.out.size; have := HQe.out; omega))
      clear hb HFh
      obtain ⟨⟨x0, x1⟩, ⟨y0, y1, y2, y3⟩⟩ := HX.out w5 (HQ.out w5 HB5.out)
      go_wp2_with fail
      clear x0 x1 y0 y1 y2 y3
      go_at_call 14
      refine (HCh.out w5 _ (HQ.out w5 HB5.out) (HR4.out w5 HB5.out)).mono ?_
      rintro e w6 ⟨rfl, hb⟩
      have HB6 : Hid (Below w.heap.size w w6) := HB1.out.trans ((HQ.out w6 (HB5.out.trans (hb.mono (by have := HB5.out.size; have := HQe.out; omega)))).mono HB1.out.size)
      clear hb HCh
      cases X
      all_goals
        go_wp2_with fail
        go_quiet (fail)
        go_wp2
        go_ret
        exact ⟨rfl, HB6.out.trans ((below_drewNs _ _).mono HB6.out.size)⟩
end Go.Proofs.YtenmheenieifpacDoor
