/-
  Proved: vennlaw1.FieldsTell returns true, in two of eight cases; what was in memory is as it was. Written by program.
-/
import Derived.Test.YtenmheenieifpacDoorFieldsTellHead
namespace Go.Proofs.YtenmheenieifpacDoor
open Go.ChangeShapes Go.WideShapes Go.ChangeAt Go.RowKit
set_option maxRecDepth 100000

set_option maxHeartbeats 8000000 in
theorem fieldsTell_GBG (t : List Int) (v : Value) (u a b c : Int) (N : Nat → Int) (w : World) (h : Reads w v t) (hG : Laid w) (ho : (Wd.mk u a b c).ok = true) (hc : ¬ countsFault N = 0) (hf : faultN t = 0) :
    Calls Tryd.prog 6 #[.agg #[.int .i64 u, .int .i64 a, .int .i64 b, .int .i64 c], .agg #[.int .i64 (N 0), .int .i64 (N 1), .int .i64 (N 2), .int .i64 (N 3), .int .i64 (N 4), .int .i64 (N 5), .int .i64 (N 6), .int .i64 (N 7)], v] w fun e w' => e = .returned (.bool true) ∧ Below w.heap.size w w' := by
  obtain ⟨w1, hw1⟩ : ∃ w1, w1 = (w.alloc (.cells #[.int .i64 u, .int .i64 a, .int .i64 b, .int .i64 c] 28)).alloc (.cells #[.int .i64 (N 0), .int .i64 (N 1), .int .i64 (N 2), .int .i64 (N 3), .int .i64 (N 4), .int .i64 (N 5), .int .i64 (N 6), .int .i64 (N 7)] 46) := ⟨_, rfl⟩
  have HB1 : Hid (Below w.heap.size w w1) := by unfold Hid; rw [hw1]; exact (below_alloc1 _ _).alloc (by simp) _
  have HK0 : Hid (Blk w1 w.heap.size 28 (arrW ⟨u, a, b, c⟩)) := by unfold Hid; rw [hw1]; exact (Blk.new _ _ _).old _
  have HK1 : Hid (Blk w1 (w.heap.size + 1) 46 (arr8 N)) := by
    unfold Hid; rw [hw1]
    have := Blk.new (w.alloc (.cells #[.int .i64 u, .int .i64 a, .int .i64 b, .int .i64 c] 28)) 46 (arr8 N)
    simp only [World.size_alloc] at this
    exact this
  have HX : Hid (∀ W, Below w1.heap.size w1 W → BoxF W w.heap.size u a b c N) := fun W hW => boxF_of (HK0.out.below hW) (HK1.out.below hW)
  have HXk : Hid (∀ W k, k < 8 → Below w1.heap.size w1 W → W.cell? ⟨w.heap.size + 1, k, none⟩ = some (.int .i64 (N k))) := fun W k hk hW => by rw [(HK1.out.below hW).cell, arr8_get _ hk]
  have HLd : Hid (∀ W, Below w1.heap.size w1 W → Laid W) := fun W hW => (hG.below HB1.out).below hW
  have HRd : Hid (∀ W, Below w1.heap.size w1 W → Reads W v t) := fun W hW => (h.below HB1.out).below hW
  have HEn : Hid (∀ W : World, Calls Tryd.prog 10 #[.nilIface, .int .i64 0] W fun e w' => e = .returned (.bool true) ∧ Below W.heap.size W w') := fun W => ferror_nil W
  have HEr : Hid (∀ (n : Int) (W : World), Below w1.heap.size w1 W → Calls Tryd.prog 10 #[.iface 69 (.int .i64 n), .int .i64 n] W fun e w' => e = .returned (.bool true) ∧ Below W.heap.size W w') := fun n W hW => ferror_no n W (HLd.out W hW)
  obtain ⟨C, hC⟩ : ∃ C, C = (Wd.mk u a b c).cts := ⟨_, rfl⟩
  have HOf : Hid (∀ W : World, Calls Tryd.prog 17 #[.agg #[.int .i64 u, .int .i64 a, .int .i64 b, .int .i64 c]] W fun e w' => e = .returned (.tuple #[.agg #[.int .i64 (C 0), .int .i64 (C 1), .int .i64 (C 2), .int .i64 (C 3), .int .i64 (C 4), .int .i64 (C 5), .int .i64 (C 6), .int .i64 (C 7)], .nilIface]) ∧ Below W.heap.size W w') := fun W => by
    have := fieldsOf_any u a b c W
    rw [← hC] at this
    have e : (Wd.mk u a b c).wrong = 0 := by unfold Wd.wrong; rw [ho]; rfl
    rw [e] at this
    exact this
  have HWo : Hid (∀ W : World, Calls Tryd.prog 15 #[.agg #[.int .i64 u, .int .i64 a, .int .i64 b, .int .i64 c]] W fun e w' => e = .returned (.int .i64 0) ∧ Below W.heap.size W w') := fun W => by
    have := refWorld_any u a b c W
    rw [ho] at this
    exact this
  have HFi : Hid (∀ W : World, Calls Tryd.prog 16 #[.agg #[.int .i64 u, .int .i64 a, .int .i64 b, .int .i64 c]] W fun e w' => e = .returned (.agg #[.int .i64 (C 0), .int .i64 (C 1), .int .i64 (C 2), .int .i64 (C 3), .int .i64 (C 4), .int .i64 (C 5), .int .i64 (C 6), .int .i64 (C 7)]) ∧ Below W.heap.size W w') := fun W => by
    have e : (Wd.mk u a b c).cts = (Wd.mk u a b c).fc u.toNat := by unfold Wd.cts; rw [if_pos ho]
    rw [hC, e]
    obtain ⟨n, rfl⟩ := Int.eq_ofNat_of_zero_le (show 0 ≤ u from (ok_u ho).1)
    exact refFields_right n a b c W ho
  obtain ⟨Z, hZ⟩ : ∃ Z : Nat → Int, Z = fun _ => 0 := ⟨_, rfl⟩
  obtain ⟨M, hM⟩ : ∃ M, M = madeW N := ⟨_, rfl⟩
  obtain ⟨F, hF⟩ : ∃ F, F = countsFault N := ⟨_, rfl⟩
  have HCo : Hid (∀ W : World, Calls Tryd.prog 18 #[.agg #[.int .i64 (N 0), .int .i64 (N 1), .int .i64 (N 2), .int .i64 (N 3), .int .i64 (N 4), .int .i64 (N 5), .int .i64 (N 6), .int .i64 (N 7)]] W fun e w' => e = .returned (.int .i64 F) ∧ Below W.heap.size W w') := fun W => by
    have := refCounts_any N W
    rw [← hF] at this
    exact this
  have HFw : Hid (∀ W : World, Calls Tryd.prog 20 #[.agg #[.int .i64 (N 0), .int .i64 (N 1), .int .i64 (N 2), .int .i64 (N 3), .int .i64 (N 4), .int .i64 (N 5), .int .i64 (N 6), .int .i64 (N 7)]] W fun e w' => e = .returned (.tuple #[.agg #[.int .i64 M.u, .int .i64 M.a, .int .i64 M.b, .int .i64 M.c], .iface 69 (.int .i64 F)]) ∧ Below W.heap.size W w') := fun W => by
    have := fworld_any N W
    rw [← hM, ← hF] at this
    rw [show errV F = .iface 69 (.int .i64 F) by unfold errV; rw [if_neg (by rw [hF]; exact hc)]] at this
    exact this
  have hY : M = ⟨0, 0, 0, 0⟩ := by rw [hM]; unfold madeW; rw [if_neg hc]
  have hF0 : (F == 0) = false := by rw [hF]; simpa using hc
  have hF1 : (F != 0) = true := by rw [hF]; simpa using hc
  obtain ⟨L, hL⟩ : ∃ L, L = liesB t := ⟨_, rfl⟩
  obtain ⟨E, hE⟩ : ∃ E, E = faultN t := ⟨_, rfl⟩
  have HTe : Hid (∀ W : World, Below w1.heap.size w1 W → Calls Tryd.prog 21 #[v] W fun e w' => e = .returned (.int .i64 0) ∧ Below W.heap.size W w') := fun W hW => by
    have := refTerm_any t v W (HRd.out W hW)
    rw [hf] at this
    exact this.mono fun _ _ h => ⟨h.1, by rw [← h.2]; exact Below.refl _ _⟩
  have HLi : Hid (∀ (k : Nat) (W : World), k < 8 → Below w1.heap.size w1 W → Calls Tryd.prog 22 #[v, .int .i64 k] W fun e w' => e = .returned (.bool (L k)) ∧ Below W.heap.size W w') := fun k W hk hW => by
    rw [hL]; exact refLies_any t hf v k hk W (HRd.out W hW)
  have HPo : Hid (∀ (k : Nat) (W : World), k < 8 → Calls Tryd.prog 23 #[.int .i64 k] W fun e w' => e = .returned (.int .i64 (pw k)) ∧ W = w') := fun k W hk => refPower_any k (by omega) W
  have HMk : Hid (∀ W : World, Below w1.heap.size w1 W → Calls Tryd.prog 24 #[v] W fun e w' => e = .returned (.tuple #[.int .i64 (maskTo L 8), .nilIface]) ∧ Below W.heap.size W w') := fun W hW => by
    have := mask_any t v W (HRd.out W hW)
    have e : maskN t = maskTo L 8 := by unfold maskN; rw [if_pos hf, hL]
    rw [e, hf] at this
    exact this
  have hcf : countFault t N = F := by unfold countFault; rw [if_pos hf, hF]
  have hcn : countN t N = 0 := by unfold countN; rw [if_neg (by rw [hcf, hF]; exact hc)]
  have HCt : Hid (∀ W : World, Below w1.heap.size w1 W → Calls Tryd.prog 25 #[v, .agg #[.int .i64 (N 0), .int .i64 (N 1), .int .i64 (N 2), .int .i64 (N 3), .int .i64 (N 4), .int .i64 (N 5), .int .i64 (N 6), .int .i64 (N 7)]] W fun e w' => e = .returned (.tuple #[.int .i64 (0), .iface 69 (.int .i64 F)]) ∧ Below W.heap.size W w') := fun W hW => by
    have := count_any t v N W (HRd.out W hW)
    rw [hcn, hcf] at this
    rw [show errV F = .iface 69 (.int .i64 F) by unfold errV; rw [if_neg (by rw [hF]; exact hc)]] at this
    exact this
  clear hG h hcf hcn ho hc hf hC hM hF hL hE
  have HS1 : Hid (w1.heap.size = w.heap.size + 2) := by unfold Hid; rw [hw1]; simp
  have Hw1 : Hid (Below w1.heap.size w1 w1) := Below.refl _ _
  obtain ⟨⟨x0, x1, x2, x3⟩, _⟩ := HX.out w1 Hw1.out
  rw [hw1] at x0 x1 x2 x3
  go_enter Tryd.func6, Tryd.ntmps6
  go_wp2_with fail
  rw [← hw1]
  clear hw1 x0 x1 x2 x3
  go_at_call 15
  refine (HWo.out _).mono ?_
  rintro e k0 ⟨rfl, hb⟩
  have Hk0 : Hid (Below w1.heap.size w1 k0) := hb
  clear hb
  obtain ⟨Gw, hGw⟩ : ∃ G, G = k0.heap.size := ⟨_, rfl⟩
  have HGw : Hid (w1.heap.size ≤ Gw) := by unfold Hid; rw [hGw]; exact Hk0.out.size
  obtain ⟨ka, hka⟩ : ∃ ka, ka = k0.alloc (.cells #[.int .i64 0, .int .i64 0, .int .i64 0, .int .i64 0, .int .i64 0, .int .i64 0, .int .i64 0, .int .i64 0] 46) := ⟨_, rfl⟩
  have Hka : Hid (Below w1.heap.size w1 ka) := by unfold Hid; rw [hka]; exact Hk0.out.alloc Hk0.out.size _
  have HGa : Hid (Blk ka Gw 46 (arr8 Z)) := by unfold Hid; rw [hka, hGw, hZ]; exact Blk.new _ _ _
  clear hZ
  go_upto_region 3 with fail
  rw [← hka, ← hGw]
  clear hka hGw
  obtain ⟨⟨x0, x1, x2, x3⟩, _⟩ := HX.out ka Hka.out
  go_wp2_with fail
  go_at_call 16
  refine (HFi.out _).mono ?_
  rintro e k1 ⟨rfl, hb⟩
  have Hk1 : Hid (Below w1.heap.size w1 k1) := Hka.out.trans (hb.mono Hka.out.size)
  have HG1 : Hid (Blk k1 Gw 46 (arr8 Z)) := HGa.out.below hb
  clear hb x0 x1 x2 x3
  obtain ⟨r0, r1, r2, r3, r4, r5, r6, r7⟩ := HG1.out.cells8
  obtain ⟨f0, f1, f2, f3, f4, f5, f6, f7⟩ := HG1.out.frozen8
  go_upto_region 5 with fail
  clear r0 r1 r2 r3 r4 r5 r6 r7 f0 f1 f2 f3 f4 f5 f6 f7
  obtain ⟨kb, hkb⟩ : ∃ kb, kb = put8 k1 Gw C := ⟨_, rfl⟩
  have Hkb : Hid (Below w1.heap.size w1 kb) := by unfold Hid; rw [hkb]; exact put8_below Hk1.out HGw.out C
  have HGb : Hid (Blk kb Gw 46 (arr8 C)) := by unfold Hid; rw [hkb]; exact put8_blk HG1.out C
  unfold put8 at hkb
  rw [← hkb]
  clear hkb
  obtain ⟨⟨x0, x1, x2, x3⟩, _⟩ := HX.out kb Hkb.out
  go_wp2_with fail
  go_at_call 17
  refine (HOf.out _).mono ?_
  rintro e k2 ⟨rfl, hb⟩
  have Hk2 : Hid (Below w1.heap.size w1 k2) := Hkb.out.trans (hb.mono Hkb.out.size)
  have HG2 : Hid (Blk k2 Gw 46 (arr8 C)) := HGb.out.below hb
  clear hb x0 x1 x2 x3
  obtain ⟨Gx, hGx⟩ : ∃ G, G = k2.heap.size := ⟨_, rfl⟩
  obtain ⟨kc, hkc⟩ : ∃ kc, kc = k2.alloc (.cells #[.int .i64 (C 0), .int .i64 (C 1), .int .i64 (C 2), .int .i64 (C 3), .int .i64 (C 4), .int .i64 (C 5), .int .i64 (C 6), .int .i64 (C 7)] 46) := ⟨_, rfl⟩
  have Hkc : Hid (Below w1.heap.size w1 kc) := by unfold Hid; rw [hkc]; exact Hk2.out.alloc Hk2.out.size _
  have HG3 : Hid (Blk kc Gw 46 (arr8 C)) := by unfold Hid; rw [hkc]; exact HG2.out.old _
  have HX3 : Hid (Blk kc Gx 46 (arr8 C)) := by unfold Hid; rw [hkc, hGx]; exact Blk.new _ _ _
  go_upto_region 6 with fail
  rw [← hkc, ← hGx]
  clear hkc hGx
  go_wp2_with fail
  go_at_call 10
  refine (HEn.out _).mono ?_
  rintro e k3 ⟨rfl, hb⟩
  have Hk3 : Hid (Below w1.heap.size w1 k3) := Hkc.out.trans (hb.mono Hkc.out.size)
  have hg := HG3.out.below hb
  have hx := HX3.out.below hb
  clear hb
  obtain ⟨r0, r1, r2, r3, r4, r5, r6, r7⟩ := hg.cells8
  obtain ⟨s0, s1, s2, s3, s4, s5, s6, s7⟩ := hx.cells8
  clear hg hx
  have hq := same8 C
  have hgd := guard8
  go_upto_region 7 with fail
  clear r0 r1 r2 r3 r4 r5 r6 r7 s0 s1 s2 s3 s4 s5 s6 s7 hq hgd
  obtain ⟨_, y0, y1, y2, y3, y4, y5, y6, y7⟩ := HX.out k3 Hk3.out
  go_wp2_with fail
  go_at_call 18
  refine (HCo.out _).mono ?_
  rintro e k4 ⟨rfl, hb⟩
  have Hk4 : Hid (Below w1.heap.size w1 k4) := Hk3.out.trans (hb.mono Hk3.out.size)
  clear hb y0 y1 y2 y3 y4 y5 y6 y7
  obtain ⟨Gm, hGm⟩ : ∃ G, G = k4.heap.size := ⟨_, rfl⟩
  have HGm : Hid (w1.heap.size ≤ Gm) := by unfold Hid; rw [hGm]; exact Hk4.out.size
  obtain ⟨kd, hkd⟩ : ∃ kd, kd = k4.alloc (.cells #[.int .i64 0, .int .i64 0, .int .i64 0, .int .i64 0] 28) := ⟨_, rfl⟩
  have Hkd : Hid (Below w1.heap.size w1 kd) := by unfold Hid; rw [hkd]; exact Hk4.out.alloc Hk4.out.size _
  have HGd : Hid (Blk kd Gm 28 (arrW M)) := by unfold Hid; rw [hkd, hGm, hY]; exact Blk.new _ _ _
  clear hY
  go_upto_region 9 with fail
  rw [← hkd, ← hGm]
  clear hkd hGm
  go_upto_region 11 with fail
  obtain ⟨ke, hke⟩ : ∃ ke, ke = kd := ⟨_, rfl⟩
  have Hke : Hid (Below w1.heap.size w1 ke) := by unfold Hid; rw [hke]; exact Hkd.out
  have HGe : Hid (Blk ke Gm 28 (arrW M)) := by unfold Hid; rw [hke]; exact HGd.out
  rw [← hke]
  clear hke
  obtain ⟨_, y0, y1, y2, y3, y4, y5, y6, y7⟩ := HX.out ke Hke.out
  go_wp2_with fail
  go_at_call 20
  refine (HFw.out _).mono ?_
  rintro e k6 ⟨rfl, hb⟩
  have Hk6 : Hid (Below w1.heap.size w1 k6) := Hke.out.trans (hb.mono Hke.out.size)
  have HG6 : Hid (Blk k6 Gm 28 (arrW M)) := HGe.out.below hb
  clear hb y0 y1 y2 y3 y4 y5 y6 y7
  obtain ⟨Gy, hGy⟩ : ∃ G, G = k6.heap.size := ⟨_, rfl⟩
  obtain ⟨kf, hkf⟩ : ∃ kf, kf = k6.alloc (.cells #[.int .i64 M.u, .int .i64 M.a, .int .i64 M.b, .int .i64 M.c] 28) := ⟨_, rfl⟩
  have Hkf : Hid (Below w1.heap.size w1 kf) := by unfold Hid; rw [hkf]; exact Hk6.out.alloc Hk6.out.size _
  have HG7 : Hid (Blk kf Gm 28 (arrW M)) := by unfold Hid; rw [hkf]; exact HG6.out.old _
  have HY7 : Hid (Blk kf Gy 28 (arrW M)) := by unfold Hid; rw [hkf, hGy]; exact Blk.new _ _ _
  go_upto_region 12 with fail
  rw [← hkf, ← hGy]
  clear hkf hGy
  go_wp2_with fail
  go_at_call 10
  refine (HEr.out F _ Hkf.out).mono ?_
  rintro e k7 ⟨rfl, hb⟩
  have Hk7 : Hid (Below w1.heap.size w1 k7) := Hkf.out.trans (hb.mono Hkf.out.size)
  have hg := HG7.out.below hb
  have hx := HY7.out.below hb
  clear hb
  obtain ⟨r0, r1, r2, r3⟩ := hg.cells4
  obtain ⟨s0, s1, s2, s3⟩ := hx.cells4
  clear hg hx
  have hq := sameW M.u M.a M.b M.c
  have hgd := guardW
  go_upto_region 13 with fail
  clear r0 r1 r2 r3 s0 s1 s2 s3 hq hgd
  go_wp2_with fail
  go_at_call 21
  refine (HTe.out _ Hk7.out).mono ?_
  rintro e k8 ⟨rfl, hb⟩
  have Hk8 : Hid (Below w1.heap.size w1 k8) := Hk7.out.trans (hb.mono Hk7.out.size)
  clear hb
  go_wp2
  go_loopw [16, 17, 18] (fun s x i wr => ∃ k : Nat, k ≤ 8 ∧ i = .int .i64 k ∧ s = .int .i64 (maskTo L k) ∧ (∃ m : Int, x = .int .i64 m) ∧ Below w1.heap.size w1 wr) (fun _ _ i _ => 8 - (intOf i).toNat)
  case atStart => exact ⟨0, Nat.zero_le _, rfl, rfl, ⟨0, rfl⟩, Hk8.out⟩
  case round =>
    obtain ⟨k, hk, rfl, rfl, ⟨m, rfl⟩, hb⟩ := hrel
    have Hr : Hid (Below w1.heap.size w1 wr) := hb
    clear hb
    by_cases hlt : k < 8
    · have HLk : Hid (Calls Tryd.prog 22 #[v, .int .i64 k] wr fun e w' => e = .returned (.bool (L k)) ∧ Below wr.heap.size wr w') := HLi.out k wr hlt Hr.out
      have p1 := maskTo_le L k
      have p2 := pw_mono (k := k) (l := 7) (by omega)
      have p3 : pw 7 = 128 := by decide
      have p4 := pw_pos k
      go_wp2_with fail
      go_at_call 22
      refine HLk.out.mono ?_
      rintro e wl ⟨rfl, hb⟩
      have Hl : Hid (Below w1.heap.size w1 wl) := Hr.out.trans (hb.mono Hr.out.size)
      clear hb
      rcases (Bool.eq_false_or_eq_true (L k)).symm with l | l
      · have HS : Hid (maskTo L (k + 1) = maskTo L k) := by unfold Hid; show maskTo L k + _ = _; rw [l]; simp [oneB]
        have HS2 : Hid (sumIn L N (k + 1) = sumIn L N k) := by unfold Hid; show sumIn L N k + _ = _; rw [l]; simp
        rw [l]
        clear l
        go_wp2
        go_roundw
        case rel => exact ⟨k + 1, by omega, by go_num, by rw [HS.out], ⟨_, rfl⟩, Hl.out⟩
        case measure => simp [intOf]; omega
      · have HS : Hid (maskTo L (k + 1) = maskTo L k + pw k) := by unfold Hid; show maskTo L k + _ = _; rw [l]; simp [oneB]
        have HS2 : Hid (sumIn L N (k + 1) = sumIn L N k + N k) := by unfold Hid; show sumIn L N k + _ = _; rw [l]; simp
        rw [l]
        clear l
        have y := HXk.out wl k hlt Hl.out
        go_wp2_with fail
        go_at_call 23
        refine (HPo.out k _ hlt).mono ?_
        rintro e w' ⟨rfl, rfl⟩
        go_wp2
        go_roundw
        case rel => exact ⟨k + 1, by omega, by go_num, by rw [HS.out], ⟨_, rfl⟩, Hl.out⟩
        case measure => simp [intOf]; omega
    · obtain rfl : k = 8 := by omega
      have Hk9 : Hid (Below w1.heap.size w1 wr) := Hr.out
      obtain ⟨MM, hMM⟩ : ∃ MM, MM = maskTo L 8 := ⟨_, rfl⟩
      rw [← hMM] at HMk ⊢
      clear hMM
      go_wp2_with fail
      go_at_call 24
      refine (HMk.out _ Hk9.out).mono ?_
      rintro e k10 ⟨rfl, hb⟩
      have Hk10 : Hid (Below w1.heap.size w1 k10) := Hk9.out.trans (hb.mono Hk9.out.size)
      clear hb
      go_wp2_with fail
      go_at_call 10
      refine (HEn.out _).mono ?_
      rintro e k11 ⟨rfl, hb⟩
      have Hk11 : Hid (Below w1.heap.size w1 k11) := Hk10.out.trans (hb.mono Hk10.out.size)
      clear hb
      obtain ⟨_, y0, y1, y2, y3, y4, y5, y6, y7⟩ := HX.out k11 Hk11.out
      go_wp2_with fail
      go_at_call 25
      refine (HCt.out _ Hk11.out).mono ?_
      rintro e k12 ⟨rfl, hb⟩
      have Hk12 : Hid (Below w1.heap.size w1 k12) := Hk11.out.trans (hb.mono Hk11.out.size)
      clear hb y0 y1 y2 y3 y4 y5 y6 y7
      go_wp2_with fail
      go_at_call 10
      refine (HEr.out F _ Hk12.out).mono ?_
      rintro e k13 ⟨rfl, hb⟩
      have Hk13 : Hid (Below w1.heap.size w1 k13) := Hk12.out.trans (hb.mono Hk12.out.size)
      clear hb
      go_wp2
      go_ret
      exact ⟨rfl, HB1.out.trans (Hk13.out.mono HB1.out.size)⟩

set_option maxHeartbeats 8000000 in
theorem fieldsTell_GBB (t : List Int) (v : Value) (u a b c : Int) (N : Nat → Int) (w : World) (h : Reads w v t) (hG : Laid w) (ho : (Wd.mk u a b c).ok = true) (hc : ¬ countsFault N = 0) (hf : ¬ faultN t = 0) :
    Calls Tryd.prog 6 #[.agg #[.int .i64 u, .int .i64 a, .int .i64 b, .int .i64 c], .agg #[.int .i64 (N 0), .int .i64 (N 1), .int .i64 (N 2), .int .i64 (N 3), .int .i64 (N 4), .int .i64 (N 5), .int .i64 (N 6), .int .i64 (N 7)], v] w fun e w' => e = .returned (.bool true) ∧ Below w.heap.size w w' := by
  obtain ⟨w1, hw1⟩ : ∃ w1, w1 = (w.alloc (.cells #[.int .i64 u, .int .i64 a, .int .i64 b, .int .i64 c] 28)).alloc (.cells #[.int .i64 (N 0), .int .i64 (N 1), .int .i64 (N 2), .int .i64 (N 3), .int .i64 (N 4), .int .i64 (N 5), .int .i64 (N 6), .int .i64 (N 7)] 46) := ⟨_, rfl⟩
  have HB1 : Hid (Below w.heap.size w w1) := by unfold Hid; rw [hw1]; exact (below_alloc1 _ _).alloc (by simp) _
  have HK0 : Hid (Blk w1 w.heap.size 28 (arrW ⟨u, a, b, c⟩)) := by unfold Hid; rw [hw1]; exact (Blk.new _ _ _).old _
  have HK1 : Hid (Blk w1 (w.heap.size + 1) 46 (arr8 N)) := by
    unfold Hid; rw [hw1]
    have := Blk.new (w.alloc (.cells #[.int .i64 u, .int .i64 a, .int .i64 b, .int .i64 c] 28)) 46 (arr8 N)
    simp only [World.size_alloc] at this
    exact this
  have HX : Hid (∀ W, Below w1.heap.size w1 W → BoxF W w.heap.size u a b c N) := fun W hW => boxF_of (HK0.out.below hW) (HK1.out.below hW)
  have HXk : Hid (∀ W k, k < 8 → Below w1.heap.size w1 W → W.cell? ⟨w.heap.size + 1, k, none⟩ = some (.int .i64 (N k))) := fun W k hk hW => by rw [(HK1.out.below hW).cell, arr8_get _ hk]
  have HLd : Hid (∀ W, Below w1.heap.size w1 W → Laid W) := fun W hW => (hG.below HB1.out).below hW
  have HRd : Hid (∀ W, Below w1.heap.size w1 W → Reads W v t) := fun W hW => (h.below HB1.out).below hW
  have HEn : Hid (∀ W : World, Calls Tryd.prog 10 #[.nilIface, .int .i64 0] W fun e w' => e = .returned (.bool true) ∧ Below W.heap.size W w') := fun W => ferror_nil W
  have HEr : Hid (∀ (n : Int) (W : World), Below w1.heap.size w1 W → Calls Tryd.prog 10 #[.iface 69 (.int .i64 n), .int .i64 n] W fun e w' => e = .returned (.bool true) ∧ Below W.heap.size W w') := fun n W hW => ferror_no n W (HLd.out W hW)
  obtain ⟨C, hC⟩ : ∃ C, C = (Wd.mk u a b c).cts := ⟨_, rfl⟩
  have HOf : Hid (∀ W : World, Calls Tryd.prog 17 #[.agg #[.int .i64 u, .int .i64 a, .int .i64 b, .int .i64 c]] W fun e w' => e = .returned (.tuple #[.agg #[.int .i64 (C 0), .int .i64 (C 1), .int .i64 (C 2), .int .i64 (C 3), .int .i64 (C 4), .int .i64 (C 5), .int .i64 (C 6), .int .i64 (C 7)], .nilIface]) ∧ Below W.heap.size W w') := fun W => by
    have := fieldsOf_any u a b c W
    rw [← hC] at this
    have e : (Wd.mk u a b c).wrong = 0 := by unfold Wd.wrong; rw [ho]; rfl
    rw [e] at this
    exact this
  have HWo : Hid (∀ W : World, Calls Tryd.prog 15 #[.agg #[.int .i64 u, .int .i64 a, .int .i64 b, .int .i64 c]] W fun e w' => e = .returned (.int .i64 0) ∧ Below W.heap.size W w') := fun W => by
    have := refWorld_any u a b c W
    rw [ho] at this
    exact this
  have HFi : Hid (∀ W : World, Calls Tryd.prog 16 #[.agg #[.int .i64 u, .int .i64 a, .int .i64 b, .int .i64 c]] W fun e w' => e = .returned (.agg #[.int .i64 (C 0), .int .i64 (C 1), .int .i64 (C 2), .int .i64 (C 3), .int .i64 (C 4), .int .i64 (C 5), .int .i64 (C 6), .int .i64 (C 7)]) ∧ Below W.heap.size W w') := fun W => by
    have e : (Wd.mk u a b c).cts = (Wd.mk u a b c).fc u.toNat := by unfold Wd.cts; rw [if_pos ho]
    rw [hC, e]
    obtain ⟨n, rfl⟩ := Int.eq_ofNat_of_zero_le (show 0 ≤ u from (ok_u ho).1)
    exact refFields_right n a b c W ho
  obtain ⟨Z, hZ⟩ : ∃ Z : Nat → Int, Z = fun _ => 0 := ⟨_, rfl⟩
  obtain ⟨M, hM⟩ : ∃ M, M = madeW N := ⟨_, rfl⟩
  obtain ⟨F, hF⟩ : ∃ F, F = countsFault N := ⟨_, rfl⟩
  have HCo : Hid (∀ W : World, Calls Tryd.prog 18 #[.agg #[.int .i64 (N 0), .int .i64 (N 1), .int .i64 (N 2), .int .i64 (N 3), .int .i64 (N 4), .int .i64 (N 5), .int .i64 (N 6), .int .i64 (N 7)]] W fun e w' => e = .returned (.int .i64 F) ∧ Below W.heap.size W w') := fun W => by
    have := refCounts_any N W
    rw [← hF] at this
    exact this
  have HFw : Hid (∀ W : World, Calls Tryd.prog 20 #[.agg #[.int .i64 (N 0), .int .i64 (N 1), .int .i64 (N 2), .int .i64 (N 3), .int .i64 (N 4), .int .i64 (N 5), .int .i64 (N 6), .int .i64 (N 7)]] W fun e w' => e = .returned (.tuple #[.agg #[.int .i64 M.u, .int .i64 M.a, .int .i64 M.b, .int .i64 M.c], .iface 69 (.int .i64 F)]) ∧ Below W.heap.size W w') := fun W => by
    have := fworld_any N W
    rw [← hM, ← hF] at this
    rw [show errV F = .iface 69 (.int .i64 F) by unfold errV; rw [if_neg (by rw [hF]; exact hc)]] at this
    exact this
  have hY : M = ⟨0, 0, 0, 0⟩ := by rw [hM]; unfold madeW; rw [if_neg hc]
  have hF0 : (F == 0) = false := by rw [hF]; simpa using hc
  have hF1 : (F != 0) = true := by rw [hF]; simpa using hc
  obtain ⟨L, hL⟩ : ∃ L, L = liesB t := ⟨_, rfl⟩
  obtain ⟨E, hE⟩ : ∃ E, E = faultN t := ⟨_, rfl⟩
  have HTe : Hid (∀ W : World, Below w1.heap.size w1 W → Calls Tryd.prog 21 #[v] W fun e w' => e = .returned (.int .i64 E) ∧ Below W.heap.size W w') := fun W hW => by
    have := refTerm_any t v W (HRd.out W hW)
    rw [← hE] at this
    exact this.mono fun _ _ h => ⟨h.1, by rw [← h.2]; exact Below.refl _ _⟩
  have hE0 : (E == 0) = false := by rw [hE]; simpa using hf
  have hE1 : (E != 0) = true := by rw [hE]; simpa using hf
  have eE : errV E = .iface 69 (.int .i64 E) := by unfold errV; rw [if_neg (by rw [hE]; exact hf)]
  have HMk : Hid (∀ W : World, Below w1.heap.size w1 W → Calls Tryd.prog 24 #[v] W fun e w' => e = .returned (.tuple #[.int .i64 0, .iface 69 (.int .i64 E)]) ∧ Below W.heap.size W w') := fun W hW => by
    have := mask_any t v W (HRd.out W hW)
    have e : maskN t = 0 := by unfold maskN; rw [if_neg hf]
    rw [e, ← hE, eE] at this
    exact this
  have hcf : countFault t N = E := by unfold countFault; rw [if_neg hf, hE]
  have hcn : countN t N = 0 := by unfold countN; rw [if_neg (by rw [hcf, hE]; exact hf)]
  have HCt : Hid (∀ W : World, Below w1.heap.size w1 W → Calls Tryd.prog 25 #[v, .agg #[.int .i64 (N 0), .int .i64 (N 1), .int .i64 (N 2), .int .i64 (N 3), .int .i64 (N 4), .int .i64 (N 5), .int .i64 (N 6), .int .i64 (N 7)]] W fun e w' => e = .returned (.tuple #[.int .i64 (0), .iface 69 (.int .i64 E)]) ∧ Below W.heap.size W w') := fun W hW => by
    have := count_any t v N W (HRd.out W hW)
    rw [hcn, hcf] at this
    rw [eE] at this
    exact this
  clear hG h hcf hcn ho hc hf hC hM hF hL hE eE
  have HS1 : Hid (w1.heap.size = w.heap.size + 2) := by unfold Hid; rw [hw1]; simp
  have Hw1 : Hid (Below w1.heap.size w1 w1) := Below.refl _ _
  obtain ⟨⟨x0, x1, x2, x3⟩, _⟩ := HX.out w1 Hw1.out
  rw [hw1] at x0 x1 x2 x3
  go_enter Tryd.func6, Tryd.ntmps6
  go_wp2_with fail
  rw [← hw1]
  clear hw1 x0 x1 x2 x3
  go_at_call 15
  refine (HWo.out _).mono ?_
  rintro e k0 ⟨rfl, hb⟩
  have Hk0 : Hid (Below w1.heap.size w1 k0) := hb
  clear hb
  obtain ⟨Gw, hGw⟩ : ∃ G, G = k0.heap.size := ⟨_, rfl⟩
  have HGw : Hid (w1.heap.size ≤ Gw) := by unfold Hid; rw [hGw]; exact Hk0.out.size
  obtain ⟨ka, hka⟩ : ∃ ka, ka = k0.alloc (.cells #[.int .i64 0, .int .i64 0, .int .i64 0, .int .i64 0, .int .i64 0, .int .i64 0, .int .i64 0, .int .i64 0] 46) := ⟨_, rfl⟩
  have Hka : Hid (Below w1.heap.size w1 ka) := by unfold Hid; rw [hka]; exact Hk0.out.alloc Hk0.out.size _
  have HGa : Hid (Blk ka Gw 46 (arr8 Z)) := by unfold Hid; rw [hka, hGw, hZ]; exact Blk.new _ _ _
  clear hZ
  go_upto_region 3 with fail
  rw [← hka, ← hGw]
  clear hka hGw
  obtain ⟨⟨x0, x1, x2, x3⟩, _⟩ := HX.out ka Hka.out
  go_wp2_with fail
  go_at_call 16
  refine (HFi.out _).mono ?_
  rintro e k1 ⟨rfl, hb⟩
  have Hk1 : Hid (Below w1.heap.size w1 k1) := Hka.out.trans (hb.mono Hka.out.size)
  have HG1 : Hid (Blk k1 Gw 46 (arr8 Z)) := HGa.out.below hb
  clear hb x0 x1 x2 x3
  obtain ⟨r0, r1, r2, r3, r4, r5, r6, r7⟩ := HG1.out.cells8
  obtain ⟨f0, f1, f2, f3, f4, f5, f6, f7⟩ := HG1.out.frozen8
  go_upto_region 5 with fail
  clear r0 r1 r2 r3 r4 r5 r6 r7 f0 f1 f2 f3 f4 f5 f6 f7
  obtain ⟨kb, hkb⟩ : ∃ kb, kb = put8 k1 Gw C := ⟨_, rfl⟩
  have Hkb : Hid (Below w1.heap.size w1 kb) := by unfold Hid; rw [hkb]; exact put8_below Hk1.out HGw.out C
  have HGb : Hid (Blk kb Gw 46 (arr8 C)) := by unfold Hid; rw [hkb]; exact put8_blk HG1.out C
  unfold put8 at hkb
  rw [← hkb]
  clear hkb
  obtain ⟨⟨x0, x1, x2, x3⟩, _⟩ := HX.out kb Hkb.out
  go_wp2_with fail
  go_at_call 17
  refine (HOf.out _).mono ?_
  rintro e k2 ⟨rfl, hb⟩
  have Hk2 : Hid (Below w1.heap.size w1 k2) := Hkb.out.trans (hb.mono Hkb.out.size)
  have HG2 : Hid (Blk k2 Gw 46 (arr8 C)) := HGb.out.below hb
  clear hb x0 x1 x2 x3
  obtain ⟨Gx, hGx⟩ : ∃ G, G = k2.heap.size := ⟨_, rfl⟩
  obtain ⟨kc, hkc⟩ : ∃ kc, kc = k2.alloc (.cells #[.int .i64 (C 0), .int .i64 (C 1), .int .i64 (C 2), .int .i64 (C 3), .int .i64 (C 4), .int .i64 (C 5), .int .i64 (C 6), .int .i64 (C 7)] 46) := ⟨_, rfl⟩
  have Hkc : Hid (Below w1.heap.size w1 kc) := by unfold Hid; rw [hkc]; exact Hk2.out.alloc Hk2.out.size _
  have HG3 : Hid (Blk kc Gw 46 (arr8 C)) := by unfold Hid; rw [hkc]; exact HG2.out.old _
  have HX3 : Hid (Blk kc Gx 46 (arr8 C)) := by unfold Hid; rw [hkc, hGx]; exact Blk.new _ _ _
  go_upto_region 6 with fail
  rw [← hkc, ← hGx]
  clear hkc hGx
  go_wp2_with fail
  go_at_call 10
  refine (HEn.out _).mono ?_
  rintro e k3 ⟨rfl, hb⟩
  have Hk3 : Hid (Below w1.heap.size w1 k3) := Hkc.out.trans (hb.mono Hkc.out.size)
  have hg := HG3.out.below hb
  have hx := HX3.out.below hb
  clear hb
  obtain ⟨r0, r1, r2, r3, r4, r5, r6, r7⟩ := hg.cells8
  obtain ⟨s0, s1, s2, s3, s4, s5, s6, s7⟩ := hx.cells8
  clear hg hx
  have hq := same8 C
  have hgd := guard8
  go_upto_region 7 with fail
  clear r0 r1 r2 r3 r4 r5 r6 r7 s0 s1 s2 s3 s4 s5 s6 s7 hq hgd
  obtain ⟨_, y0, y1, y2, y3, y4, y5, y6, y7⟩ := HX.out k3 Hk3.out
  go_wp2_with fail
  go_at_call 18
  refine (HCo.out _).mono ?_
  rintro e k4 ⟨rfl, hb⟩
  have Hk4 : Hid (Below w1.heap.size w1 k4) := Hk3.out.trans (hb.mono Hk3.out.size)
  clear hb y0 y1 y2 y3 y4 y5 y6 y7
  obtain ⟨Gm, hGm⟩ : ∃ G, G = k4.heap.size := ⟨_, rfl⟩
  have HGm : Hid (w1.heap.size ≤ Gm) := by unfold Hid; rw [hGm]; exact Hk4.out.size
  obtain ⟨kd, hkd⟩ : ∃ kd, kd = k4.alloc (.cells #[.int .i64 0, .int .i64 0, .int .i64 0, .int .i64 0] 28) := ⟨_, rfl⟩
  have Hkd : Hid (Below w1.heap.size w1 kd) := by unfold Hid; rw [hkd]; exact Hk4.out.alloc Hk4.out.size _
  have HGd : Hid (Blk kd Gm 28 (arrW M)) := by unfold Hid; rw [hkd, hGm, hY]; exact Blk.new _ _ _
  clear hY
  go_upto_region 9 with fail
  rw [← hkd, ← hGm]
  clear hkd hGm
  go_upto_region 11 with fail
  obtain ⟨ke, hke⟩ : ∃ ke, ke = kd := ⟨_, rfl⟩
  have Hke : Hid (Below w1.heap.size w1 ke) := by unfold Hid; rw [hke]; exact Hkd.out
  have HGe : Hid (Blk ke Gm 28 (arrW M)) := by unfold Hid; rw [hke]; exact HGd.out
  rw [← hke]
  clear hke
  obtain ⟨_, y0, y1, y2, y3, y4, y5, y6, y7⟩ := HX.out ke Hke.out
  go_wp2_with fail
  go_at_call 20
  refine (HFw.out _).mono ?_
  rintro e k6 ⟨rfl, hb⟩
  have Hk6 : Hid (Below w1.heap.size w1 k6) := Hke.out.trans (hb.mono Hke.out.size)
  have HG6 : Hid (Blk k6 Gm 28 (arrW M)) := HGe.out.below hb
  clear hb y0 y1 y2 y3 y4 y5 y6 y7
  obtain ⟨Gy, hGy⟩ : ∃ G, G = k6.heap.size := ⟨_, rfl⟩
  obtain ⟨kf, hkf⟩ : ∃ kf, kf = k6.alloc (.cells #[.int .i64 M.u, .int .i64 M.a, .int .i64 M.b, .int .i64 M.c] 28) := ⟨_, rfl⟩
  have Hkf : Hid (Below w1.heap.size w1 kf) := by unfold Hid; rw [hkf]; exact Hk6.out.alloc Hk6.out.size _
  have HG7 : Hid (Blk kf Gm 28 (arrW M)) := by unfold Hid; rw [hkf]; exact HG6.out.old _
  have HY7 : Hid (Blk kf Gy 28 (arrW M)) := by unfold Hid; rw [hkf, hGy]; exact Blk.new _ _ _
  go_upto_region 12 with fail
  rw [← hkf, ← hGy]
  clear hkf hGy
  go_wp2_with fail
  go_at_call 10
  refine (HEr.out F _ Hkf.out).mono ?_
  rintro e k7 ⟨rfl, hb⟩
  have Hk7 : Hid (Below w1.heap.size w1 k7) := Hkf.out.trans (hb.mono Hkf.out.size)
  have hg := HG7.out.below hb
  have hx := HY7.out.below hb
  clear hb
  obtain ⟨r0, r1, r2, r3⟩ := hg.cells4
  obtain ⟨s0, s1, s2, s3⟩ := hx.cells4
  clear hg hx
  have hq := sameW M.u M.a M.b M.c
  have hgd := guardW
  go_upto_region 13 with fail
  clear r0 r1 r2 r3 s0 s1 s2 s3 hq hgd
  go_wp2_with fail
  go_at_call 21
  refine (HTe.out _ Hk7.out).mono ?_
  rintro e k8 ⟨rfl, hb⟩
  have Hk8 : Hid (Below w1.heap.size w1 k8) := Hk7.out.trans (hb.mono Hk7.out.size)
  clear hb
  go_wp2
  refine wp_loop_rounds 1 ?_
  rw [rounds_succ]
  have Hk9 : Hid (Below w1.heap.size w1 k8) := Hk8.out
  go_wp2_with fail
  go_at_call 24
  refine (HMk.out _ Hk9.out).mono ?_
  rintro e k10 ⟨rfl, hb⟩
  have Hk10 : Hid (Below w1.heap.size w1 k10) := Hk9.out.trans (hb.mono Hk9.out.size)
  clear hb
  go_wp2_with fail
  go_at_call 10
  refine (HEr.out E _ Hk10.out).mono ?_
  rintro e k11 ⟨rfl, hb⟩
  have Hk11 : Hid (Below w1.heap.size w1 k11) := Hk10.out.trans (hb.mono Hk10.out.size)
  clear hb
  obtain ⟨_, y0, y1, y2, y3, y4, y5, y6, y7⟩ := HX.out k11 Hk11.out
  go_wp2_with fail
  go_at_call 25
  refine (HCt.out _ Hk11.out).mono ?_
  rintro e k12 ⟨rfl, hb⟩
  have Hk12 : Hid (Below w1.heap.size w1 k12) := Hk11.out.trans (hb.mono Hk11.out.size)
  clear hb y0 y1 y2 y3 y4 y5 y6 y7
  go_wp2_with fail
  go_at_call 10
  refine (HEr.out E _ Hk12.out).mono ?_
  rintro e k13 ⟨rfl, hb⟩
  have Hk13 : Hid (Below w1.heap.size w1 k13) := Hk12.out.trans (hb.mono Hk12.out.size)
  clear hb
  go_wp2
  go_ret
  exact ⟨rfl, HB1.out.trans (Hk13.out.mono HB1.out.size)⟩
end Go.Proofs.YtenmheenieifpacDoor
