/-
  Proved: venntop.TopThree returns true where what it calls answers as the chapters say; what was in memory is as it was (the walk that the statement leans on). Written by program.
-/
import Derived.Test.YtjaedfjfcghgcabGreatDoorLibT11
import Derived.Test.YtjaedfjfcghgcabGreatDoorLibT13
import Derived.Test.YtjaedfjfcghgcabGreatDoorLibT14
import Derived.Test.YtjaedfjfcghgcabGreatDoorLibT8
import Derived.Test.YtjaedfjfcghgcabGreatDoorLibT12
import Derived.Deep.CutRange
namespace Go.Proofs.YtjaedfjfcghgcabGreatDoor
open Go.ChangeShapes Go.WideShapes Go.ChangeAt Go.RowKit
set_option maxRecDepth 100000

set_option maxHeartbeats 16000000 in
theorem topThree_in (ats : List At) (L : List (List Int)) (n : Nat) (hn : n ≤ 6) (ao : Option Addr) (acap : Nat) (co : Option Addr) (cl ccap : Nat) (B : Bool) (N : Int) (er : Value) (m0 : List Int → Int) (x0 x1 x2 x3 : Int) (w : World)
    (HA : Hid (ReadsA w (.slice ao ats.length acap) ats)) (h6 : ats.length ≤ 6) (HDok : Hid (∀ d ∈ L, cubeOk ats.length d)) (hL63 : L.length ≤ 9223372036854775807)
    (HE : Hid ((B = true ∧ er = .nilIface) ∨ (B = false ∧ er = .iface 75 (.int .i64 5))))
    (HN : Hid (decide (0 < N) = B)) (HP : Hid ((L.any fun d => decide (0 < m0 d)) = B))
    (HOn : Hid (∀ W, Below w.heap.size w W → Calls Tryz.prog 5 #[] W fun e w' => e = .returned (.bool true) ∧ Below W.heap.size W w'))
    (HCu : Hid (∀ W, Below w.heap.size w W → Calls Tryz.prog 6 #[.agg #[.slice ao ats.length acap, .slice co cl ccap]] W fun e w' => ∃ lo lcap, e = .returned (.tuple #[.slice lo L.length lcap, .nilIface]) ∧ RS2 (fun _ => True) w' (.slice lo L.length lcap) L ∧ Below W.heap.size W w'))
    (HMo : Hid (∀ W, Below w.heap.size w W → Calls Tryz.prog 7 #[.agg #[.slice ao ats.length acap, .slice co cl ccap], .int .i64 n] W fun e w' => e = .returned (.tuple #[.agg #[.int .i64 x0, .int .i64 x1, .int .i64 x2, .int .i64 x3], er]) ∧ Below W.heap.size W w'))
    (HWo : Hid (∀ W, Below w.heap.size w W → Calls Tryz.prog 8 #[.agg #[.slice ao ats.length acap, .slice co cl ccap], .int .i64 n] W fun e w' => e = .returned (.tuple #[.int .i64 N, .nilIface]) ∧ Below W.heap.size W w'))
    (HOp : Hid (∀ W G, Below w.heap.size w W → Blk W G 25 #[.slice ao ats.length acap, .slice co cl ccap] → Calls Tryz.prog 9 #[.slice (some ⟨G, 0, none⟩) 1 1, .int .i64 n] W fun e w' => e = .returned (.tuple #[.bool B, .nilIface]) ∧ Below W.heap.size W w'))
    (HEr : Hid (∀ W, Below w.heap.size w W → Calls Tryz.prog 10 #[.iface 75 (.int .i64 5), .int .i64 5] W fun e w' => e = .returned (.bool true) ∧ Below W.heap.size W w'))
    (HRo : Hid (∀ (a : At) (h : Bool) vs vt W, a ∈ ats → Below w.heap.size w W → Reads W vs a.s → Reads W vt a.t → Calls Tryz.prog 11 #[.agg #[.int .i64 a.k, vs, vt, .int .i64 a.n], .bool h] W fun e w' => e = .returned (.tuple #[.agg (arrR (rowT a.k a.s a.t h) (rowM a.k a.n h)), .nilIface]) ∧ Below W.heap.size W w'))
    (HMa : Hid (∀ (k : Nat) d v W, L[k]? = some d → Below w.heap.size w W → ReadsR W v (cubeR ats d) → Calls Tryz.prog 12 #[.int .i64 n, v] W fun e w' => e = .returned (.tuple #[.int .i64 (m0 d), .nilIface]) ∧ Below W.heap.size W w')) :
    Calls Tryz.prog 3 #[.agg #[.slice ao ats.length acap, .slice co cl ccap], .int .i64 n] w fun e w' => e = .returned (.bool true) ∧ Below w.heap.size w w' := by
  obtain ⟨M, hMe⟩ : ∃ M, M = ats.length := ⟨_, rfl⟩
  rw [← hMe] at HA h6 HCu HMo HWo HOp HDok ⊢
  have HMe : Hid (M = ats.length) := hMe
  obtain ⟨w1, hw1⟩ : ∃ w1, w1 = w.alloc (.cells #[.slice ao M acap, .slice co cl ccap] 25) := ⟨_, rfl⟩
  have HB1 : Hid (Below w.heap.size w w1) := by unfold Hid; rw [hw1]; exact below_alloc1 _ _
  have HF1 : Hid (Blk w1 w.heap.size 25 #[.slice ao M acap, .slice co cl ccap]) := by unfold Hid; rw [hw1]; exact Blk.new _ _ _
  clear hMe
  go_enter Tryz.func3, Tryz.ntmps3
  go_upto_region 1 with fail
  rw [← hw1]
  clear hw1
  go_wp2_with fail
  go_at_call 5
  refine (HOn.out _ HB1.out).mono ?_
  rintro e w2 ⟨rfl, hb⟩
  have HB2 : Hid (Below w.heap.size w w2) := HB1.out.trans (hb.mono HB1.out.size)
  have HF2 : Hid (Blk w2 w.heap.size 25 #[.slice ao M acap, .slice co cl ccap]) := HF1.out.below hb
  clear hb
  have y0 : w2.cell? ⟨w.heap.size, 0, none⟩ = some (.slice ao M acap) := HF2.out.cell 0
  have y1 : w2.cell? ⟨w.heap.size, 1, none⟩ = some (.slice co cl ccap) := HF2.out.cell 1
  go_wp2_with fail
  go_at_call 6
  refine (HCu.out _ HB2.out).mono ?_
  rintro e w3 ⟨lo, lcap, rfl, hR3, hb⟩
  have HB3 : Hid (Below w.heap.size w w3) := HB2.out.trans (hb.mono HB2.out.size)
  have HF3 : Hid (Blk w3 w.heap.size 25 #[.slice ao M acap, .slice co cl ccap]) := HF2.out.below hb
  have HR3 : Hid (RS2 (fun _ => True) w3 (.slice lo L.length lcap) L) := hR3
  clear hb hR3 y0 y1
  have hu0 : ¬ (n : Int) < 0 := by omega
  have hu6 : ¬ (6 : Int) < (n : Int) := by omega
  have y0 : w3.cell? ⟨w.heap.size, 0, none⟩ = some (.slice ao M acap) := HF3.out.cell 0
  have y1 : w3.cell? ⟨w.heap.size, 1, none⟩ = some (.slice co cl ccap) := HF3.out.cell 1
  go_wp2_with fail
  go_at_call 7
  refine (HMo.out _ HB3.out).mono ?_
  rintro e w4 ⟨rfl, hb⟩
  have HB4 : Hid (Below w.heap.size w w4) := HB3.out.trans (hb.mono HB3.out.size)
  have HF4 : Hid (Blk w4 w.heap.size 25 #[.slice ao M acap, .slice co cl ccap]) := HF3.out.below hb
  have HR4 : Hid (RS2 (fun _ => True) w4 (.slice lo L.length lcap) L) := HR3.out.kept (Kept.of_below hb)
  clear hb y0 y1
  have y0 : w4.cell? ⟨w.heap.size, 0, none⟩ = some (.slice ao M acap) := HF4.out.cell 0
  have y1 : w4.cell? ⟨w.heap.size, 1, none⟩ = some (.slice co cl ccap) := HF4.out.cell 1
  go_wp2_with fail
  go_at_call 8
  refine (HWo.out _ HB4.out).mono ?_
  rintro e w5 ⟨rfl, hb⟩
  have HB5 : Hid (Below w.heap.size w w5) := HB4.out.trans (hb.mono HB4.out.size)
  have HF5 : Hid (Blk w5 w.heap.size 25 #[.slice ao M acap, .slice co cl ccap]) := HF4.out.below hb
  have HR5 : Hid (RS2 (fun _ => True) w5 (.slice lo L.length lcap) L) := HR4.out.kept (Kept.of_below hb)
  clear hb y0 y1
  have y0 : w5.cell? ⟨w.heap.size, 0, none⟩ = some (.slice ao M acap) := HF5.out.cell 0
  have y1 : w5.cell? ⟨w.heap.size, 1, none⟩ = some (.slice co cl ccap) := HF5.out.cell 1
  obtain ⟨w6, hw6⟩ : ∃ x, x = w5.alloc (.cells #[.slice ao M acap, .slice co cl ccap] 25) := ⟨_, rfl⟩
  have hb6 : Below w5.heap.size w5 w6 := by rw [hw6]; exact below_alloc1 _ _
  have HO6 : Hid (Calls Tryz.prog 9 #[.slice (some ⟨w5.heap.size, 0, none⟩) 1 1, .int .i64 n] w6 fun e w' => e = .returned (.tuple #[.bool B, .nilIface]) ∧ Below w5.heap.size w5 w') := by
    have h : Blk w6 w5.heap.size 25 #[.slice ao M acap, .slice co cl ccap] := by rw [hw6]; exact Blk.new _ _ _
    exact (HOp.out w6 w5.heap.size (HB5.out.trans (hb6.mono HB5.out.size)) h).mono fun e w' ⟨h1, h2⟩ => ⟨h1, hb6.trans (h2.mono hb6.size)⟩
  clear hb6
  go_wp2_with fail
  rw [← hw6]
  clear hw6
  go_at_call 9
  refine HO6.out.mono ?_
  rintro e w7 ⟨rfl, hb⟩
  have HB7 : Hid (Below w.heap.size w w7) := HB5.out.trans (hb.mono HB5.out.size)
  have HF7 : Hid (Blk w7 w.heap.size 25 #[.slice ao M acap, .slice co cl ccap]) := HF5.out.below hb
  have HR7 : Hid (RS2 (fun _ => True) w7 (.slice lo L.length lcap) L) := HR5.out.kept (Kept.of_below hb)
  clear hb y0 y1
  go_upto_region 10 with fail
  go_cut [73] from 74 (fun c wx => c = .bool false ∧ Below w7.heap.size w7 wx)
  case first =>
    rcases HE.out with ⟨-, rfl⟩ | ⟨-, rfl⟩
    · go_wp2_with fail
      go_meet
      case rel => exact ⟨rfl, Below.refl _ _⟩
    · go_wp2_with fail
      go_at_call 10
      refine (HEr.out _ HB7.out).mono ?_
      rintro e w8 ⟨rfl, hb⟩
      have HBe : Hid (Below w7.heap.size w7 w8) := hb
      clear hb
      go_wp2_with fail
      go_meet
      case rel => exact ⟨rfl, HBe.out⟩
  case rest =>
  obtain ⟨rfl, hbc⟩ := hcut
  obtain ⟨w8, hw8⟩ : ∃ x, x = wc := ⟨_, rfl⟩
  subst hw8
  have HB8 : Hid (Below w.heap.size w w8) := HB7.out.trans (hbc.mono HB7.out.size)
  have HF8 : Hid (Blk w8 w.heap.size 25 #[.slice ao M acap, .slice co cl ccap]) := HF7.out.below hbc
  have HR8 : Hid (RS2 (fun _ => True) w8 (.slice lo L.length lcap) L) := HR7.out.kept (Kept.of_below hbc)
  clear hbc
  obtain ⟨nL, hnL⟩ : ∃ x, x = L.length := ⟨_, rfl⟩
  have HNL : Hid (nL = L.length) := hnL
  rw [← hnL] at HR8 hL63 ⊢
  clear hnL HR3 HR4 HR5 HR7
  go_wp2
  go_loopw [12, 13] (fun p i wr => ∃ k : Nat, k ≤ nL ∧ i = .int .i64 k ∧ p = .bool ((L.take k).any fun d => decide (0 < m0 d)) ∧ Below w8.heap.size w8 wr) (fun _ i _ => nL - (intOf i).toNat)
  case atStart => exact ⟨0, Nat.zero_le _, rfl, rfl, Below.refl _ _⟩
  case round =>
    obtain ⟨k, hk, rfl, rfl, hbr⟩ := hrel
    have HBr : Hid (Below w8.heap.size w8 wr) := hbr
    clear hbr
    by_cases hlt : k < nL
    · obtain ⟨d, hd⟩ : ∃ d, L[k]? = some d := ⟨_, List.getElem?_eq_getElem (by rw [← HNL.out]; exact hlt)⟩
      have HD : Hid (L[k]? = some d) := hd
      have HdO : Hid (cubeOk M d) := HDok.out d (List.mem_of_getElem? hd)
      have HPs : Hid (((L.take (k + 1)).any fun d => decide (0 < m0 d)) = (((L.take k).any fun d => decide (0 < m0 d)) || decide (0 < m0 d))) := by
        unfold Hid; rw [List.take_add_one, hd, List.any_append]; simp
      clear hd
      obtain ⟨bL, oL, hlo, hbL, vd, hvd, hrs⟩ : ∃ bL oL, lo = some ⟨bL, oL, none⟩ ∧ bL < w8.heap.size ∧ ∃ vd, w8.cell? ⟨bL, oL + k, none⟩ = some vd ∧ RS (fun _ => True) w8 vd d := by
        rcases HR8.out with ⟨ao', cap, hv, h0⟩ | ⟨b, off, cap, hv, ⟨_, hb⟩, _, _, hcell⟩
        · have := HNL.out; rw [h0] at this; simp at this; omega
        · obtain ⟨h1, _, _⟩ := Value.slice.inj hv
          obtain ⟨vd, h2, h3⟩ := hcell k d HD.out
          exact ⟨b, off, h1, hb, vd, h2, h3⟩
      subst hlo
      obtain ⟨dao, dcap, rfl, _⟩ := hrs.slice
      have hd6 : d.length ≤ 6 := by have := cube_len HdO.out; omega
      obtain ⟨nd, hnd⟩ : ∃ x, x = d.length := ⟨_, rfl⟩
      have HND : Hid (nd = d.length) := hnd
      rw [← hnd] at hvd hrs hd6
      have HY : Hid (∀ W, Below w8.heap.size w8 W → W.cell? ⟨bL, oL + k, none⟩ = some (.slice dao nd dcap)) := fun W hW => (hW.cell hbL).trans hvd
      have HDr : Hid (RS (fun _ => True) w8 (.slice dao nd dcap) d) := hrs
      clear hnd hvd hrs hbL
      obtain ⟨pk, hpk⟩ : ∃ x, x = (L.take k).any fun d => decide (0 < m0 d) := ⟨_, rfl⟩
      rw [← hpk] at HPs ⊢
      clear hpk
      have hkn : (k : Int) < (nL : Int) := by omega
      obtain ⟨wo, hwo⟩ : ∃ x, x = wr := ⟨_, rfl⟩
      have HBo : Hid (Below w8.heap.size w8 wo) := by unfold Hid; rw [hwo]; exact HBr.out
      rw [← hwo]
      clear hwo HBr
      go_wp2_with fail
      go_loopw [14, 15] (fun r i wx => ∃ kk : Nat, kk ≤ nd ∧ i = .int .i64 kk ∧ wx.ownsRow wo.heap.size 46 9 r kk (cellsR ((d.take kk).map (rowOf ats))) ∧ Below wo.heap.size wo wx) (fun _ i _ => nd - (intOf i).toNat)
      case atStart => exact ⟨0, Nat.zero_le _, rfl, World.ownsRow_nil _ _ _ _, Below.refl _ _⟩
      case round =>
        obtain ⟨kk, hkk, rfl, hown, hbx⟩ := hrel
        have HBx : Hid (Below wo.heap.size wo wr) := hbx
        have HOw : Hid (wr.ownsRow wo.heap.size 46 9 u14 kk (cellsR ((d.take kk).map (rowOf ats)))) := hown
        have HB8x : Hid (Below w8.heap.size w8 wr) := HBo.out.trans (hbx.mono HBo.out.size)
        have HBwx : Hid (Below w.heap.size w wr) := HB8.out.trans (HB8x.out.mono HB8.out.size)
        clear hbx hown
        have y := HY.out wr HB8x.out
        by_cases hl2 : kk < nd
        · have hl2z : (kk : Int) < (nd : Int) := by omega
          obtain ⟨bd, od, hdo, z⟩ : ∃ bd od, dao = some ⟨bd, od, none⟩ ∧ wr.cell? ⟨bd, od + kk, none⟩ = some (.int .i64 (d.getD kk 0)) := by
            rcases HDr.out with ⟨ao, cap, hv, h0⟩ | ⟨b, off, cap, hv, ⟨_, hb⟩, _, _, hcell⟩
            · have := HND.out; rw [h0] at this; simp at this; omega
            · obtain ⟨h1, _, _⟩ := Value.slice.inj hv
              exact ⟨b, off, h1, (HB8x.out.cell hb).trans (hcell kk (by rw [← HND.out]; exact hl2))⟩
          subst hdo
          have HM : Hid (d[kk]? = some (d.getD kk 0)) := by
            unfold Hid
            have : kk < d.length := by rw [← HND.out]; exact hl2
            rw [List.getD_eq_getElem?_getD, List.getElem?_eq_getElem this]; rfl
          obtain ⟨m, hm⟩ : ∃ m, m = d.getD kk 0 := ⟨_, rfl⟩
          rw [← hm] at HM z
          clear hm
          obtain ⟨m1, m2⟩ := HdO.out.1 m (List.mem_of_getElem? HM.out)
          obtain ⟨j, hj⟩ : ∃ j, m.natAbs = j + 1 := ⟨m.natAbs - 1, by omega⟩
          have hjM : j < M := by omega
          have hj6 : j < 6 := by omega
          obtain ⟨a, ha⟩ : ∃ a, a = ats.getD (m.natAbs - 1) atZ := ⟨_, rfl⟩
          have haj : ats[j]? = some a := by
            have : j < ats.length := by rw [← HMe.out]; exact hjM
            rw [ha, hj, Nat.add_sub_cancel, List.getD_eq_getElem?_getD, List.getElem?_eq_getElem this]; rfl
          have HRow : Hid (rowOf ats m = Rw.mk (rowT a.k a.s a.t (decide (0 < m))) (rowM a.k a.n (decide (0 < m)))) := by unfold Hid rowOf; rw [← ha]
          obtain ⟨bA, oA, hao, hat⟩ : ∃ bA oA, ao = some ⟨bA, oA, none⟩ ∧ AtomAt wr bA (oA + j * 4) a := by
            rcases HA.out.below HBwx.out with ⟨ao', cap, hv, h0⟩ | ⟨b, off, cap, hv, hb, _, _, hcell⟩
            · rw [h0] at haj; simp at haj
            · obtain ⟨h1, _, _⟩ := Value.slice.inj hv
              exact ⟨b, off, h1, hcell j a haj⟩
          subst hao
          obtain ⟨vs, vt, c0, c1, c2, c3, hs, ht⟩ := hat
          obtain ⟨so, sc, rfl, _⟩ := hs.slice
          obtain ⟨tto, tc, rfl, _⟩ := ht.slice
          obtain ⟨sl, hsl⟩ : ∃ x, x = a.s.length := ⟨_, rfl⟩
          obtain ⟨tl, htl⟩ : ∃ x, x = a.t.length := ⟨_, rfl⟩
          obtain ⟨ak, hak⟩ : ∃ x, x = a.k := ⟨_, rfl⟩
          obtain ⟨an, han⟩ : ∃ x, x = a.n := ⟨_, rfl⟩
          obtain ⟨T, hT⟩ : ∃ x, x = rowT a.k a.s a.t (decide (0 < m)) := ⟨_, rfl⟩
          obtain ⟨mm, hmm⟩ : ∃ x, x = rowM a.k a.n (decide (0 < m)) := ⟨_, rfl⟩
          have HR0 : Hid (Calls Tryz.prog 11 #[.agg #[.int .i64 ak, .slice so sl sc, .slice tto tl tc, .int .i64 an], .bool (decide (0 < m))] wr fun e w' => e = .returned (.tuple #[.agg #[.int .i64 (T 0), .int .i64 (T 1), .int .i64 (T 2), .int .i64 (T 3), .int .i64 (T 4), .int .i64 (T 5), .int .i64 (T 6), .int .i64 (T 7), .int .i64 mm], .nilIface]) ∧ Below wr.heap.size wr w') := by
            have h := HRo.out a (decide (0 < m)) _ _ wr (List.mem_of_getElem? haj) HBwx.out hs ht
            unfold Hid
            rw [hak, han, hsl, htl, hT, hmm]
            exact h
          rw [← hsl] at c1
          rw [← htl] at c2
          rw [← hak] at c0
          rw [← han] at c3
          rw [← hT, ← hmm] at HRow
          have q0 : wr.cell? ⟨w.heap.size, 0, none⟩ = some (.slice (some ⟨bA, oA, none⟩) M acap) := (HF8.out.below HB8x.out).cell 0
          clear hs ht haj ha hsl htl hak han hT hmm m1 m2
          have hjMz : (j : Int) < (M : Int) := by omega
          have hlen : ((d.take kk).map (rowOf ats)).length = kk := by rw [List.length_map, List.length_take, ← HND.out]; omega
          obtain ⟨l, hl⟩ : ∃ l, l = (d.take kk).map (rowOf ats) := ⟨_, rfl⟩
          have HOl : Hid (wr.ownsRow wo.heap.size 46 9 u14 l.length (cellsR l)) := by
            have h := HOw.out
            unfold Hid
            rw [hl, hlen]
            exact h
          have HLl : Hid (l.length = kk) := by unfold Hid; rw [hl]; exact hlen
          have HLs : Hid ((d.take (kk + 1)).map (rowOf ats) = l ++ [Rw.mk T mm]) := by
            unfold Hid
            rw [List.take_add_one, HM.out, List.map_append, ← hl, ← HRow.out]; rfl
          clear hl hlen
          rcases (by omega : m = (j : Int) + 1 ∨ m = -((j : Int) + 1)) with hm | hm
          · rw [decide_eq_true (by omega : (0 : Int) < m)] at HR0
            clear hj
            have s1 : wrap64 (m - 1) = j := by unfold wrap64; omega
            have s2 : ¬ m < 0 := by omega
            have s3 : ¬ (j : Int) < 0 := by omega
            have s4 : ¬ ((M : Int) ≤ (j : Int)) := by omega
            have s5 : (0 : Int) < m := by omega
            clear hm
            go_upto_region 26 with fail
            clear z y
            go_wp2_with fail
            go_at_call 11
            refine HR0.out.mono ?_
            rintro e w5' ⟨rfl, hb5⟩
            obtain ⟨w6', hw6⟩ : ∃ x, x = w5'.alloc (.cells #[.int .i64 (T 0), .int .i64 (T 1), .int .i64 (T 2), .int .i64 (T 3), .int .i64 (T 4), .int .i64 (T 5), .int .i64 (T 6), .int .i64 (T 7), .int .i64 mm] 46) := ⟨_, rfl⟩
            have hb6 : Below wr.heap.size wr w6' := by rw [hw6]; exact hb5.alloc hb5.size _
            have HG6 : Hid (Blk w6' w5'.heap.size 46 (arrR T mm)) := by unfold Hid; rw [hw6]; exact Blk.new _ _ _
            have HB6 : Hid (Below wo.heap.size wo w6') := HBx.out.trans (hb6.mono HBx.out.size)
            have HO6' : Hid (w6'.ownsRow wo.heap.size 46 9 u14 l.length (cellsR l)) := ownsRow_same HOl.out hb6.block
            clear hb5 hb6 c0 c1 c2 c3 q0
            go_upto_region 27 with fail
            rw [← hw6]
            clear hw6
            obtain ⟨r0, r1, r2, r3, r4, r5, r6, r7, r8⟩ := HG6.out.cells9
            have hl12 : l.length ≤ 12 := by have := HLl.out; omega
            have HS6 : Hid (wo.heap.size ≤ w6'.heap.size) := HB6.out.size
            go_wp2_with (at_builtin; refine append_one rfl _ _ rfl wo.heap.size u14 rfl l (Rw.mk T mm) w6'.heap.size 1 rfl (HO6'.out.alloc _) (heap_alloc_new w6' _) (by have := HS6.out; simp; omega) hl12 ?_)
            intro v9 w9 hown hgrow
            have HBa : Hid (Below wo.heap.size wo (w6'.alloc (.cells #[.int .i64 (T 0), .int .i64 (T 1), .int .i64 (T 2), .int .i64 (T 3), .int .i64 (T 4), .int .i64 (T 5), .int .i64 (T 6), .int .i64 (T 7), .int .i64 mm] 46))) := HB6.out.alloc HB6.out.size _
            have HB9 : Hid (Below wo.heap.size wo w9) := HBa.out.grown hgrow HBa.out.size (fun x hx => (HO6'.out.lt x hx).1)
            have HO9 : Hid (w9.ownsRow wo.heap.size 46 9 v9 (kk + 1) (cellsR ((d.take (kk + 1)).map (rowOf ats)))) := by
              unfold Hid
              rw [HLs.out]
              have h : w9.ownsRow wo.heap.size 46 9 v9 (l.length + 1) (cellsR (l ++ [Rw.mk T mm])) := hown
              rw [HLl.out] at h
              exact h
            clear hown hgrow r0 r1 r2 r3 r4 r5 r6 r7 r8
            go_wp2
            go_roundw
            case rel => exact ⟨kk + 1, by omega, by go_num, HO9.out, HB9.out⟩
            case measure => simp [intOf]; omega
          · rw [decide_eq_false (by omega : ¬ (0 : Int) < m)] at HR0
            clear hj
            obtain ⟨q9, s0⟩ : ∃ q9, wrap64 (m - 1) = q9 := ⟨_, rfl⟩
            have s1 : wrap64 (-m) = (j : Int) + 1 := by unfold wrap64; omega
            have s6 : wrap64 ((j : Int) + 1 - 1) = j := by unfold wrap64; omega
            have s2 : m < 0 := by omega
            have s3 : ¬ (j : Int) < 0 := by omega
            have s4 : ¬ ((M : Int) ≤ (j : Int)) := by omega
            have s5 : ¬ (0 : Int) < m := by omega
            clear hm
            go_upto_region 26 with fail
            clear z y
            go_wp2_with fail
            go_at_call 11
            refine HR0.out.mono ?_
            rintro e w5' ⟨rfl, hb5⟩
            obtain ⟨w6', hw6⟩ : ∃ x, x = w5'.alloc (.cells #[.int .i64 (T 0), .int .i64 (T 1), .int .i64 (T 2), .int .i64 (T 3), .int .i64 (T 4), .int .i64 (T 5), .int .i64 (T 6), .int .i64 (T 7), .int .i64 mm] 46) := ⟨_, rfl⟩
            have hb6 : Below wr.heap.size wr w6' := by rw [hw6]; exact hb5.alloc hb5.size _
            have HG6 : Hid (Blk w6' w5'.heap.size 46 (arrR T mm)) := by unfold Hid; rw [hw6]; exact Blk.new _ _ _
            have HB6 : Hid (Below wo.heap.size wo w6') := HBx.out.trans (hb6.mono HBx.out.size)
            have HO6' : Hid (w6'.ownsRow wo.heap.size 46 9 u14 l.length (cellsR l)) := ownsRow_same HOl.out hb6.block
            clear hb5 hb6 c0 c1 c2 c3 q0
            go_upto_region 27 with fail
            rw [← hw6]
            clear hw6
            obtain ⟨r0, r1, r2, r3, r4, r5, r6, r7, r8⟩ := HG6.out.cells9
            have hl12 : l.length ≤ 12 := by have := HLl.out; omega
            have HS6 : Hid (wo.heap.size ≤ w6'.heap.size) := HB6.out.size
            go_wp2_with (at_builtin; refine append_one rfl _ _ rfl wo.heap.size u14 rfl l (Rw.mk T mm) w6'.heap.size 1 rfl (HO6'.out.alloc _) (heap_alloc_new w6' _) (by have := HS6.out; simp; omega) hl12 ?_)
            intro v9 w9 hown hgrow
            have HBa : Hid (Below wo.heap.size wo (w6'.alloc (.cells #[.int .i64 (T 0), .int .i64 (T 1), .int .i64 (T 2), .int .i64 (T 3), .int .i64 (T 4), .int .i64 (T 5), .int .i64 (T 6), .int .i64 (T 7), .int .i64 mm] 46))) := HB6.out.alloc HB6.out.size _
            have HB9 : Hid (Below wo.heap.size wo w9) := HBa.out.grown hgrow HBa.out.size (fun x hx => (HO6'.out.lt x hx).1)
            have HO9 : Hid (w9.ownsRow wo.heap.size 46 9 v9 (kk + 1) (cellsR ((d.take (kk + 1)).map (rowOf ats)))) := by
              unfold Hid
              rw [HLs.out]
              have h : w9.ownsRow wo.heap.size 46 9 v9 (l.length + 1) (cellsR (l ++ [Rw.mk T mm])) := hown
              rw [HLl.out] at h
              exact h
            clear hown hgrow r0 r1 r2 r3 r4 r5 r6 r7 r8
            go_wp2
            go_roundw
            case rel => exact ⟨kk + 1, by omega, by go_num, HO9.out, HB9.out⟩
            case measure => simp [intOf]; omega
        · obtain rfl : kk = nd := by omega
          have hlen : ((d.take kk).map (rowOf ats)).length = kk := by rw [List.length_map, List.length_take, ← HND.out]; omega
          have hcb : (d.take kk).map (rowOf ats) = cubeR ats d := by rw [HND.out, List.take_length]; rfl
          have hRr : ReadsR wr u14 (cubeR ats d) := by
            have h := HOw.out
            rw [hcb] at h hlen
            rw [← hlen] at h
            exact own_readsR h (by omega)
          have HMk : Hid (Calls Tryz.prog 12 #[.int .i64 n, u14] wr fun e w' => e = .returned (.tuple #[.int .i64 (m0 d), .nilIface]) ∧ Below wr.heap.size wr w') := HMa.out k d u14 wr HD.out HBwx.out hRr
          obtain ⟨ro, rcap, hru, _⟩ := hRr.slice
          subst hru
          clear hRr hlen hcb
          obtain ⟨rl, hrl⟩ : ∃ x, x = (cubeR ats d).length := ⟨_, rfl⟩
          rw [← hrl] at HMk ⊢
          obtain ⟨md, hmd⟩ : ∃ x, x = m0 d := ⟨_, rfl⟩
          rw [← hmd] at HMk HPs
          clear hrl hmd HOw
          go_wp2_with fail
          go_at_call 12
          refine HMk.out.mono ?_
          rintro e w5' ⟨rfl, hb5⟩
          have HB5' : Hid (Below w8.heap.size w8 w5') := HB8x.out.trans (hb5.mono HB8x.out.size)
          clear hb5 y
          cases pk with
          | true =>
            go_wp2
            go_roundw
            case rel => exact ⟨k + 1, by omega, by go_num, by rw [HPs.out]; rfl, HB5'.out⟩
            case measure => simp [intOf]; omega
          | false =>
            go_wp2
            go_roundw
            case rel => exact ⟨k + 1, by omega, by go_num, by rw [HPs.out]; rfl, HB5'.out⟩
            case measure => simp [intOf]; omega
    · obtain rfl : k = nL := by omega
      have HBe : Hid (Below w.heap.size w wr) := HB8.out.trans (HBr.out.mono HB8.out.size)
      have HPe : Hid (((L.take k).any fun d => decide (0 < m0 d)) = B) := by unfold Hid; rw [HNL.out, List.take_length]; exact HP.out
      rw [HPe.out]
      have hltz : ¬ (k : Int) < (k : Int) := by omega
      rcases HE.out with ⟨hB, rfl⟩ | ⟨hB, rfl⟩
      · have hN : 0 < N := by have := HN.out; rw [hB] at this; simpa using this
        subst hB
        go_wp2
        go_ret
        exact ⟨rfl, HBe.out⟩
      · have hN : ¬ 0 < N := by have := HN.out; rw [hB] at this; simpa using this
        subst hB
        go_wp2
        go_ret
        exact ⟨rfl, HBe.out⟩
end Go.Proofs.YtjaedfjfcghgcabGreatDoor
