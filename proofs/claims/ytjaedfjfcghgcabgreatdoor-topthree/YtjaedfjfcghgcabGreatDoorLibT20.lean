/-
  Proved: what model.isNone, model.members and model.first return: whether an error says that there is none, the rows of a cube, and the world of the least counts that fit them; what was in memory is as it was (contracts that the statements lean on).
  Proved: what model.Of returns, of any formula and any number of things, where cubes.Of answers as chapter 5 says; what was in memory is as it was (the walks that the contracts of package model lean on).
  Proved: what model.Against and model.Sure return, where form.Negate and model.Of answer as chapters 4 and 9 say; what was in memory is as it was (the walks that the contracts of package model lean on).
-/
import Derived.Test.YtjaedfjfcghgcabGreatDoorLibT14
import Derived.Test.YtjaedfjfcghgcabGreatDoorLibT15
import Derived.Test.YtjaedfjfcghgcabGreatDoorLibT19
import Derived.Test.YtjaedfjfcghgcabGreatDoorLibT17
import Derived.Test.YtjaedfjfcghgcabGreatDoorLibT13
import Derived.Test.YtjaedfjfcghgcabGreatDoorLibT10
import Derived.Deep.CutRange
import Derived.Test.YtjaedfjfcghgcabGreatDoorLibT9
namespace Go.Proofs.YtjaedfjfcghgcabGreatDoor
open Go.ChangeShapes Go.WideShapes Go.ChangeAt Go.RowKit Go.Extern.Stop Go.Stop Go.Extern
set_option maxRecDepth 100000

theorem as_nil (t : Addr) (w : World) : Calls Tryz.prog 73 #[.nilIface, .iface 137 (.pointer (some t))] w fun e w' => e = .returned (.bool false) ∧ w = w' := by
  go_enter Tryz.func73, Tryz.ntmps73
  go_wp2
  go_ret
  exact ⟨rfl, rfl⟩
theorem isNone_nil (w : World) : Calls Tryz.prog 26 #[.nilIface] w fun e w' => e = .returned (.bool false) ∧ Below w.heap.size w w' := by
  go_enter Tryz.func26, Tryz.ntmps26
  go_wp2_with (go_at_call 73; refine (as_nil _ _).mono ?_; rintro e w' ⟨rfl, rfl⟩)
  go_ret
  exact ⟨rfl, below_alloc1 _ _⟩
set_option maxHeartbeats 1000000 in
theorem isNone_err (n : Int) (w : World) (hg : Laid w) : Calls Tryz.prog 26 #[.iface 75 (.int .i64 n)] w fun e w' => e = .returned (.bool (n == 5)) ∧ Below w.heap.size w w' := by
  have hgA : (w.alloc (.cells #[.int .i64 0] 75)).cell? ⟨3, 0, none⟩ = some (.iface 207 (.agg #[.pointer (some ⟨12, 29, none⟩)])) := by
    rw [World.cell?_alloc_lt _ _ ⟨3, 0, none⟩ hg.lt]; exact hg
  have htA : (w.alloc (.cells #[.int .i64 0] 75)).cell? ⟨w.heap.size, 0, none⟩ = some (.int .i64 0) := by simp
  have hfA : (w.alloc (.cells #[.int .i64 0] 75)).frozen? ⟨w.heap.size, 0, none⟩ = false := by simp
  clear hg
  go_enter Tryz.func26, Tryz.ntmps26
  go_wp2_with (go_at_call 73; refine (as_hit _ _ _ _ hgA htA hfA).mono ?_; rintro e w' ⟨rfl, rfl⟩)
  go_ret
  refine ⟨rfl, ?_⟩
  exact ((((((Below.refl _ _).alloc (Nat.le_refl _) _).alloc (by simp) _).alloc (by simp; omega) _).alloc (by simp; omega) _).alloc (by simp; omega) _)

set_option maxHeartbeats 8000000 in
theorem members_any (ats : List At) (d : List Int) (ao : Option Addr) (acap : Nat) (dao : Option Addr) (dcap : Nat) (w : World) (hA : ReadsA w (.slice ao ats.length acap) ats) (hD : Reads w (.slice dao d.length dcap) d) (hK : KindsLaid w) (hL : TimesLaid w)
    (hflt : ∀ a ∈ ats, a.fault = 0) (h6 : ats.length ≤ 6) (hok : cubeOk ats.length d) :
    Calls Tryz.prog 70 #[.slice ao ats.length acap, .slice dao d.length dcap] w fun e w' => ∃ ro rcap, e = .returned (.tuple #[.slice ro (cubeR ats d).length rcap, .nilIface]) ∧ ReadsR w' (.slice ro (cubeR ats d).length rcap) (cubeR ats d) ∧ Below w.heap.size w w' := by
  have HA : Hid (ReadsA w (.slice ao ats.length acap) ats) := hA
  have HD : Hid (Reads w (.slice dao d.length dcap) d) := hD
  have HK : Hid (KindsLaid w) := hK
  have HL : Hid (TimesLaid w) := hL
  have Hflt : Hid (∀ a ∈ ats, a.fault = 0) := hflt
  have HDok : Hid (cubeOk ats.length d) := hok
  have hd6 : d.length ≤ 6 := by have := cube_len hok; omega
  obtain ⟨M, hMe⟩ : ∃ M, M = ats.length := ⟨_, rfl⟩
  obtain ⟨nd, hnd⟩ : ∃ x, x = d.length := ⟨_, rfl⟩
  rw [← hMe] at HA h6
  rw [← hnd] at HD hd6
  rw [← hMe, ← hnd]
  have HMe : Hid (M = ats.length) := hMe
  have HND : Hid (nd = d.length) := hnd
  clear hA hD hK hL hflt hok hMe hnd
  go_enter Tryz.func70, Tryz.ntmps70
  go_wp2
  go_loopw [6, 13] (fun r i wx => ∃ kk : Nat, kk ≤ nd ∧ i = .int .i64 kk ∧ wx.ownsRow w.heap.size 46 9 r kk (cellsR ((d.take kk).map (rowOf ats))) ∧ Below w.heap.size w wx) (fun _ i _ => nd - (intOf i).toNat)
  case atStart => exact ⟨0, Nat.zero_le _, rfl, World.ownsRow_nil _ _ _ _, Below.refl _ _⟩
  case round =>
    obtain ⟨kk, hkk, rfl, hown, hbx⟩ := hrel
    have HBx : Hid (Below w.heap.size w wr) := hbx
    have HOw : Hid (wr.ownsRow w.heap.size 46 9 u6 kk (cellsR ((d.take kk).map (rowOf ats)))) := hown
    clear hbx hown
    by_cases hl2 : kk < nd
    · obtain ⟨bd, od, hdo, z⟩ : ∃ bd od, dao = some ⟨bd, od, none⟩ ∧ wr.cell? ⟨bd, od + kk, none⟩ = some (.int .i64 (d.getD kk 0)) := by
        rcases HD.out with ⟨ao, cap, hv, h0⟩ | ⟨b, off, cap, hv, hb, _, _, hcell⟩
        · have := HND.out; rw [h0] at this; simp at this; omega
        · obtain ⟨h1, _, _⟩ := Value.slice.inj hv
          exact ⟨b, off, h1, (HBx.out.cell hb).trans (hcell kk (by rw [← HND.out]; exact hl2))⟩
      subst hdo
      have HM : Hid (d[kk]? = some (d.getD kk 0)) := by
        unfold Hid
        have : kk < d.length := by rw [← HND.out]; exact hl2
        rw [List.getD_eq_getElem?_getD, List.getElem?_eq_getElem this]; rfl
      obtain ⟨m, hm⟩ : ∃ m, m = d.getD kk 0 := ⟨_, rfl⟩
      rw [← hm] at HM z
      clear hm
      obtain ⟨m1, m2⟩ := HDok.out.1 m (List.mem_of_getElem? HM.out)
      obtain ⟨j, hj⟩ : ∃ j, m.natAbs = j + 1 := ⟨m.natAbs - 1, by omega⟩
      have hjM : j < M := by rw [HMe.out]; omega
      have hj6 : j < 6 := by omega
      obtain ⟨a, ha⟩ : ∃ a, a = ats.getD (m.natAbs - 1) atZ := ⟨_, rfl⟩
      have haj : ats[j]? = some a := by
        have : j < ats.length := by rw [← HMe.out]; exact hjM
        rw [ha, hj, Nat.add_sub_cancel, List.getD_eq_getElem?_getD, List.getElem?_eq_getElem this]; rfl
      have hfa : atomFault a.k a.s a.t a.n = 0 := Hflt.out a (List.mem_of_getElem? haj)
      have HRow : Hid (rowOf ats m = Rw.mk (rowT a.k a.s a.t (decide (0 < m))) (rowM a.k a.n (decide (0 < m)))) := by unfold Hid rowOf; rw [← ha]
      obtain ⟨bA, oA, hao, hat⟩ : ∃ bA oA, ao = some ⟨bA, oA, none⟩ ∧ AtomAt wr bA (oA + j * 4) a := by
        rcases HA.out.below HBx.out with ⟨ao', cap, hv, h0⟩ | ⟨b, off, cap, hv, hb, _, _, hcell⟩
        · rw [h0] at haj; simp at haj
        · obtain ⟨h1, _, _⟩ := Value.slice.inj hv
          exact ⟨b, off, h1, hcell j a haj⟩
      subst hao
      obtain ⟨vs, vt, c0, c1, c2, c3, hs, ht⟩ := hat
      obtain ⟨so, sc, rfl, _⟩ := hs.slice
      obtain ⟨tto, tc, rfl, _⟩ := ht.slice
      obtain ⟨sl, hsl⟩ : ∃ x, x = a.s.length := ⟨_, rfl⟩
      obtain ⟨tl, htl⟩ : ∃ x, x = a.t.length := ⟨_, rfl⟩
      obtain ⟨ak, hak⟩ : ∃ x, x = a.k := ⟨_, rfl⟩
      obtain ⟨an, han⟩ : ∃ x, x = a.n := ⟨_, rfl⟩
      obtain ⟨T, hT⟩ : ∃ x, x = rowT a.k a.s a.t (decide (0 < m)) := ⟨_, rfl⟩
      obtain ⟨mm, hmm⟩ : ∃ x, x = rowM a.k a.n (decide (0 < m)) := ⟨_, rfl⟩
      have HR0 : Hid (Calls Tryz.prog 11 #[.agg #[.int .i64 ak, .slice so sl sc, .slice tto tl tc, .int .i64 an], .bool (decide (0 < m))] wr fun e w' => e = .returned (.tuple #[.agg #[.int .i64 (T 0), .int .i64 (T 1), .int .i64 (T 2), .int .i64 (T 3), .int .i64 (T 4), .int .i64 (T 5), .int .i64 (T 6), .int .i64 (T 7), .int .i64 mm], .nilIface]) ∧ Below wr.heap.size wr w') := by
        have h := rowsOf_any a.k a.n (decide (0 < m)) _ _ a.s a.t wr hs ht (HK.out.below HBx.out) (HL.out.below HBx.out)
        unfold ofT ofM at h
        rw [if_pos hfa, if_pos hfa, hfa] at h
        unfold Hid
        rw [hak, han, hsl, htl, hT, hmm]
        exact h
      rw [← hsl] at c1
      rw [← htl] at c2
      rw [← hak] at c0
      rw [← han] at c3
      rw [← hT, ← hmm] at HRow
      clear hs ht hfa haj ha hsl htl hak han hT hmm m1 m2
      go_upto_region 5 with fail
      clear z
      go_cut [9, 10] from 14 to 38 (fun g e wx => ∃ G, g = .pointer (some ⟨G, 0, none⟩) ∧ e = .nilIface ∧ Blk wx G 46 (arrR T mm) ∧ wr.heap.size ≤ G ∧ Below wr.heap.size wr wx)
      case first =>
        rcases (by omega : m = (j : Int) + 1 ∨ m = -((j : Int) + 1)) with rfl | rfl
        · rw [decide_eq_true (by omega : (0 : Int) < (j : Int) + 1)] at HR0
          have mx1 : max ((j : Int) + 1) (-((j : Int) + 1)) = (j : Int) + 1 := by omega
          have mx2 : max (-((j : Int) + 1)) ((j : Int) + 1) = (j : Int) + 1 := by omega
          clear hj
          go_wp2_with fail
          go_at_call 11
          refine HR0.out.mono ?_
          rintro e w5 ⟨rfl, hb5⟩
          go_wp2_with fail
          go_meet
          exact ⟨w5.heap.size, rfl, rfl, Blk.new w5 _ _, hb5.size, hb5.alloc hb5.size _⟩
        · rw [decide_eq_false (by omega : ¬ (0 : Int) < -((j : Int) + 1))] at HR0
          have mx1 : max ((j : Int) + 1) (-((j : Int) + 1)) = (j : Int) + 1 := by omega
          have mx2 : max (-((j : Int) + 1)) ((j : Int) + 1) = (j : Int) + 1 := by omega
          clear hj
          go_wp2_with fail
          go_at_call 11
          refine HR0.out.mono ?_
          rintro e w5 ⟨rfl, hb5⟩
          go_wp2_with fail
          go_meet
          exact ⟨w5.heap.size, rfl, rfl, Blk.new w5 _ _, hb5.size, hb5.alloc hb5.size _⟩
      case rest =>
        obtain ⟨G, rfl, rfl, hG, hG2, hbc⟩ := hcut
        obtain ⟨w6, hw6⟩ : ∃ x, x = wc := ⟨_, rfl⟩
        subst hw6
        have HB6 : Hid (Below w.heap.size w w6) := HBx.out.trans (hbc.mono HBx.out.size)
        have hlen : ((d.take kk).map (rowOf ats)).length = kk := by rw [List.length_map, List.length_take, ← HND.out]; omega
        obtain ⟨l, hl⟩ : ∃ l, l = (d.take kk).map (rowOf ats) := ⟨_, rfl⟩
        have HO6 : Hid (w6.ownsRow w.heap.size 46 9 u6 l.length (cellsR l)) := by
          have h := ownsRow_same HOw.out hbc.block
          unfold Hid
          rw [hl, hlen]
          exact h
        have HLl : Hid (l.length = kk) := by unfold Hid; rw [hl]; exact hlen
        have HLs : Hid ((d.take (kk + 1)).map (rowOf ats) = l ++ [Rw.mk T mm]) := by
          unfold Hid
          rw [List.take_add_one, HM.out, List.map_append, ← hl, ← HRow.out]; rfl
        have HS6 : Hid (w.heap.size ≤ w6.heap.size) := HB6.out.size
        obtain ⟨r0, r1, r2, r3, r4, r5, r6, r7, r8⟩ := hG.cells9
        clear hG hG2 hbc hl hlen c0 c1 c2 c3 hj
        have hl12 : l.length ≤ 12 := by have := HLl.out; omega
        go_wp2_with (at_builtin; refine append_one rfl _ _ rfl w.heap.size u6 rfl l (Rw.mk T mm) w6.heap.size 1 rfl (HO6.out.alloc _) (heap_alloc_new w6 _) (by have := HS6.out; simp; omega) hl12 ?_)
        intro v9 w9 hown hgrow
        have HBa : Hid (Below w.heap.size w (w6.alloc (.cells #[.int .i64 (T 0), .int .i64 (T 1), .int .i64 (T 2), .int .i64 (T 3), .int .i64 (T 4), .int .i64 (T 5), .int .i64 (T 6), .int .i64 (T 7), .int .i64 mm] 46))) := HB6.out.alloc HB6.out.size _
        have HB9 : Hid (Below w.heap.size w w9) := HBa.out.grown hgrow HBa.out.size (fun x hx => (HO6.out.lt x hx).1)
        have HO9 : Hid (w9.ownsRow w.heap.size 46 9 v9 (kk + 1) (cellsR ((d.take (kk + 1)).map (rowOf ats)))) := by
          unfold Hid
          rw [HLs.out]
          have h : w9.ownsRow w.heap.size 46 9 v9 (l.length + 1) (cellsR (l ++ [Rw.mk T mm])) := hown
          rw [HLl.out] at h
          exact h
        clear hown hgrow r0 r1 r2 r3 r4 r5 r6 r7 r8
        go_wp2
        go_roundw
        case rel => exact ⟨kk + 1, by omega, by go_num, HO9.out, HB9.out⟩
        case measure => simp [intOf]; omega
    · obtain rfl : kk = nd := by omega
      have hlen : ((d.take kk).map (rowOf ats)).length = kk := by rw [List.length_map, List.length_take, ← HND.out]; omega
      have hcb : (d.take kk).map (rowOf ats) = cubeR ats d := by rw [HND.out, List.take_length]; rfl
      have hRr : ReadsR wr u6 (cubeR ats d) := by
        have h := HOw.out
        rw [hcb] at h hlen
        rw [← hlen] at h
        exact own_readsR h (by omega)
      obtain ⟨ro, rcap, hru, _⟩ := hRr.slice
      subst hru
      have HRr : Hid (ReadsR wr (.slice ro (cubeR ats d).length rcap) (cubeR ats d)) := hRr
      clear hRr hlen hcb
      go_wp2
      go_ret2
      exact ⟨ro, rcap, rfl, HRr.out, HBx.out⟩

theorem many_find {A : List (Nat → Int)} {p : (Nat → Int) → Bool} : (A.find? p = none → manyD A p 0 = 0) ∧ ∀ N, A.find? p = some N → ¬ manyD A p 0 = 0 ∧ leastD A p 0 = N := by
  unfold manyD leastD
  rw [List.drop_zero]
  refine ⟨fun h => ?_, fun N h => ⟨fun h0 => ?_, by rw [h]; rfl⟩⟩
  · rw [List.length_eq_zero_iff, List.filter_eq_nil_iff]
    intro x hx
    simpa using List.find?_eq_none.1 h x hx
  · rw [List.length_eq_zero_iff, List.filter_eq_nil_iff] at h0
    exact absurd (List.find?_some h) (by simpa using h0 N (List.mem_of_find?_eq_some h))

set_option maxHeartbeats 4000000 in
theorem mfirst_any (n : Nat) (hn : n ≤ 6) (ats : List At) (d : List Int) (ao : Option Addr) (acap : Nat) (dao : Option Addr) (dcap : Nat) (w : World) (hA : ReadsA w (.slice ao ats.length acap) ats) (hD : Reads w (.slice dao d.length dcap) d) (hK : KindsLaid w) (hL : TimesLaid w)
    (hflt : ∀ a ∈ ats, a.fault = 0) (h6 : ats.length ≤ 6) (hok : cubeOk ats.length d) :
    Calls Tryz.prog 25 #[.slice ao ats.length acap, .slice dao d.length dcap, .int .i64 n] w fun e w' =>
      ((∃ N, (everyC n).find? (fitB (cubeR ats d)) = some N ∧ e = .returned (.tuple #[.agg (arrW (madeN N 8)), .nilIface])) ∨ ((everyC n).find? (fitB (cubeR ats d)) = none ∧ e = .returned (.tuple #[.agg (arrW ⟨0, 0, 0, 0⟩), .iface 75 (.int .i64 5)]))) ∧ Below w.heap.size w w' := by
  have hff : fitFault (n : Int) (cubeR ats d) = 0 := by unfold fitFault; rw [if_pos ⟨by omega, by omega⟩]; exact cube_rows hflt h6 hok
  have HM : Hid (∀ W, Below w.heap.size w W → Calls Tryz.prog 70 #[.slice ao ats.length acap, .slice dao d.length dcap] W fun e w' => ∃ ro rl rcap, e = .returned (.tuple #[.slice ro rl rcap, .nilIface]) ∧ (∀ W', Below w'.heap.size w' W' → Calls Tryz.prog 71 #[.int .i64 n, .slice ro rl rcap] W' fun e w'' => e = .returned (.tuple #[.agg (arr8 (leastN n (cubeR ats d))), errV (leastFault n (cubeR ats d))]) ∧ Below W'.heap.size W' w'') ∧ Below W.heap.size W w') := fun W hW => by
    refine (members_any ats d ao acap dao dcap W (hA.below hW) (hD.below hW) (hK.below hW) (hL.below hW) hflt h6 hok).mono ?_
    rintro e w' ⟨ro, rcap, rfl, hR, hb⟩
    exact ⟨ro, _, rcap, rfl, fun W' hW' => least_any n (cubeR ats d) _ W' (hR.below hW'), hb⟩
  obtain ⟨f1, f2⟩ := @many_find (everyC n) (fitB (cubeR ats d))
  have efault : leastFault (n : Int) (cubeR ats d) = if manyD (everyC n) (fitB (cubeR ats d)) 0 = 0 then 5 else 0 := by
    have hm : fitManyN (n : Int) (cubeR ats d) = (manyD (everyC n) (fitB (cubeR ats d)) 0 : Int) := by unfold fitManyN; rw [if_pos hff, Int.toNat_natCast]
    unfold leastFault
    rw [if_pos hff, hm]
    by_cases h : manyD (everyC n) (fitB (cubeR ats d)) 0 = 0
    · rw [if_pos h, if_pos (by omega)]
    · rw [if_neg h, if_neg (by omega)]
  have eleast : leastN (n : Int) (cubeR ats d) = leastD (everyC n) (fitB (cubeR ats d)) 0 := by unfold leastN; rw [if_pos hff, Int.toNat_natCast]
  obtain ⟨w1, hw1⟩ : ∃ w1, w1 = w.alloc (.cells #[.int .i64 0, .int .i64 0, .int .i64 0, .int .i64 0] 34) := ⟨_, rfl⟩
  have HB1 : Hid (Below w.heap.size w w1) := by unfold Hid; rw [hw1]; exact below_alloc1 _ _
  have HP1 : Hid (Blk w1 w.heap.size 34 (arrW ⟨0, 0, 0, 0⟩)) := by unfold Hid; rw [hw1]; exact Blk.new _ _ _
  obtain ⟨M, hMe⟩ : ∃ M, M = ats.length := ⟨_, rfl⟩
  obtain ⟨nd, hnd⟩ : ∃ x, x = d.length := ⟨_, rfl⟩
  rw [← hMe, ← hnd] at HM ⊢
  cases hfd : (everyC n).find? (fitB (cubeR ats d)) with
  | none =>
    rw [efault, if_pos (f1 hfd)] at HM
    obtain ⟨N, hN⟩ : ∃ N, N = leastN (n : Int) (cubeR ats d) := ⟨_, rfl⟩
    rw [← hN] at HM
    clear hff hA hD hK hL hflt h6 hok f1 f2 efault eleast hMe hnd hN hfd
    go_enter Tryz.func25, Tryz.ntmps25
    go_wp2_with fail
    rw [← hw1]
    clear hw1
    go_wp2_with fail
    go_at_call 70
    refine (HM.out _ HB1.out).mono ?_
    rintro e w2 ⟨ro, rl, rcap, rfl, hLe, hb⟩
    have HLe : Hid (∀ W', Below w2.heap.size w2 W' → Calls Tryz.prog 71 #[.int .i64 n, .slice ro rl rcap] W' fun e w'' => e = .returned (.tuple #[.agg (arr8 N), .iface 75 (.int .i64 5)]) ∧ Below W'.heap.size W' w'') := hLe
    have HB2 : Hid (Below w.heap.size w w2) := HB1.out.trans (hb.mono HB1.out.size)
    have HP2 : Hid (Blk w2 w.heap.size 34 (arrW ⟨0, 0, 0, 0⟩)) := HP1.out.below hb
    clear hLe hb
    go_wp2_with fail
    go_at_call 71
    refine (HLe.out _ (Below.refl _ _)).mono ?_
    rintro e w3 ⟨rfl, hb⟩
    have HB3 : Hid (Below w.heap.size w w3) := HB2.out.trans (hb.mono HB2.out.size)
    have HP3 : Hid (Blk w3 w.heap.size 34 (arrW ⟨0, 0, 0, 0⟩)) := HP2.out.below hb
    clear hb
    obtain ⟨w4, hw4⟩ : ∃ w4, w4 = w3.alloc (.cells (arr8 N) 44) := ⟨_, rfl⟩
    have HB4 : Hid (Below w.heap.size w w4) := by unfold Hid; rw [hw4]; exact HB3.out.alloc HB3.out.size _
    have HP4 : Hid (Blk w4 w.heap.size 34 (arrW ⟨0, 0, 0, 0⟩)) := by unfold Hid; rw [hw4]; exact HP3.out.old _
    unfold arr8 at hw4 ⊢
    go_upto_region 5 with fail
    rw [← hw4]
    clear hw4
    have p0 : w4.cell? ⟨w.heap.size, 0, none⟩ = some (.int .i64 0) := HP4.out.cell 0
    have p1 : w4.cell? ⟨w.heap.size, 1, none⟩ = some (.int .i64 0) := HP4.out.cell 1
    have p2 : w4.cell? ⟨w.heap.size, 2, none⟩ = some (.int .i64 0) := HP4.out.cell 2
    have p3 : w4.cell? ⟨w.heap.size, 3, none⟩ = some (.int .i64 0) := HP4.out.cell 3
    obtain ⟨q0, q1, q2, q3⟩ := HP4.out.frozen4
    go_wp2
    have hld := loadW (putW_blk HP4.out ⟨0, 0, 0, 0⟩)
    refine bodyPost_ret (v := .tuple #[.agg (arrW ⟨0, 0, 0, 0⟩), .iface 75 (.int .i64 5)]) ?_ rfl ⟨Or.inr ⟨by first | rfl | trivial, rfl⟩, ?_⟩
    · rw [results_cell_tmp rfl]
      unfold putW arrW at hld
      simp only at hld
      simp [asAddr, Result.andThen, hld, arrW]
    · exact putW_below HB4.out (Nat.le_refl _) ⟨0, 0, 0, 0⟩
  | some N =>
    obtain ⟨g1, g2⟩ := f2 N hfd
    rw [efault, if_neg g1, eleast, g2] at HM
    have hcN : countsFault N = 0 := everyC_right hn (List.mem_of_find?_eq_some hfd)
    have HW : Hid (∀ W, Calls Tryz.prog 72 #[.agg #[.int .i64 (N 0), .int .i64 (N 1), .int .i64 (N 2), .int .i64 (N 3), .int .i64 (N 4), .int .i64 (N 5), .int .i64 (N 6), .int .i64 (N 7)]] W fun e w' => e = .returned (.tuple #[.agg #[.int .i64 (madeN N 8).u, .int .i64 (madeN N 8).a, .int .i64 (madeN N 8).b, .int .i64 (madeN N 8).c], .nilIface]) ∧ Below W.heap.size W w') := fun W => by
      have h := fworld_any N W
      unfold madeW at h
      rw [if_pos hcN, hcN] at h
      exact h
    obtain ⟨D, hDe⟩ : ∃ D, D = madeN N 8 := ⟨_, rfl⟩
    rw [← hDe] at HW
    have HDe : Hid (D = madeN N 8) := hDe
    clear hff hA hD hK hL hflt h6 hok f1 f2 efault eleast hMe hnd hfd g1 g2 hcN hDe
    go_enter Tryz.func25, Tryz.ntmps25
    go_wp2_with fail
    rw [← hw1]
    clear hw1
    go_wp2_with fail
    go_at_call 70
    refine (HM.out _ HB1.out).mono ?_
    rintro e w2 ⟨ro, rl, rcap, rfl, hLe, hb⟩
    have HLe : Hid (∀ W', Below w2.heap.size w2 W' → Calls Tryz.prog 71 #[.int .i64 n, .slice ro rl rcap] W' fun e w'' => e = .returned (.tuple #[.agg (arr8 N), .nilIface]) ∧ Below W'.heap.size W' w'') := hLe
    have HB2 : Hid (Below w.heap.size w w2) := HB1.out.trans (hb.mono HB1.out.size)
    have HP2 : Hid (Blk w2 w.heap.size 34 (arrW ⟨0, 0, 0, 0⟩)) := HP1.out.below hb
    clear hLe hb
    go_wp2_with fail
    go_at_call 71
    refine (HLe.out _ (Below.refl _ _)).mono ?_
    rintro e w3 ⟨rfl, hb⟩
    have HB3 : Hid (Below w.heap.size w w3) := HB2.out.trans (hb.mono HB2.out.size)
    have HP3 : Hid (Blk w3 w.heap.size 34 (arrW ⟨0, 0, 0, 0⟩)) := HP2.out.below hb
    clear hb
    obtain ⟨w4, hw4⟩ : ∃ w4, w4 = w3.alloc (.cells (arr8 N) 44) := ⟨_, rfl⟩
    have HB4 : Hid (Below w.heap.size w w4) := by unfold Hid; rw [hw4]; exact HB3.out.alloc HB3.out.size _
    have HP4 : Hid (Blk w4 w.heap.size 34 (arrW ⟨0, 0, 0, 0⟩)) := by unfold Hid; rw [hw4]; exact HP3.out.old _
    have HN4 : Hid (Blk w4 w3.heap.size 44 (arr8 N)) := by unfold Hid; rw [hw4]; exact Blk.new _ _ _
    unfold arr8 at hw4 ⊢
    go_upto_region 5 with fail
    rw [← hw4]
    clear hw4
    obtain ⟨r0, r1, r2, r3, r4, r5, r6, r7⟩ := HN4.out.cells8
    go_wp2_with fail
    go_at_call 72
    refine (HW.out _).mono ?_
    rintro e w5 ⟨rfl, hb⟩
    have HB5 : Hid (Below w.heap.size w w5) := HB4.out.trans (hb.mono HB4.out.size)
    have HP5 : Hid (Blk w5 w.heap.size 34 (arrW ⟨0, 0, 0, 0⟩)) := HP4.out.below hb
    clear hb r0 r1 r2 r3 r4 r5 r6 r7
    have p0 : w5.cell? ⟨w.heap.size, 0, none⟩ = some (.int .i64 0) := HP5.out.cell 0
    have p1 : w5.cell? ⟨w.heap.size, 1, none⟩ = some (.int .i64 0) := HP5.out.cell 1
    have p2 : w5.cell? ⟨w.heap.size, 2, none⟩ = some (.int .i64 0) := HP5.out.cell 2
    have p3 : w5.cell? ⟨w.heap.size, 3, none⟩ = some (.int .i64 0) := HP5.out.cell 3
    obtain ⟨q0, q1, q2, q3⟩ := HP5.out.frozen4
    go_wp2
    have hld := loadW (putW_blk HP5.out D)
    refine bodyPost_ret (v := .tuple #[.agg (arrW D), .nilIface]) ?_ rfl ⟨Or.inl ⟨N, rfl, by rw [HDe.out]⟩, ?_⟩
    · rw [results_cell_tmp rfl]
      unfold putW at hld
      simp [asAddr, Result.andThen, hld]
    · exact putW_below HB5.out (Nat.le_refl _) D
end Go.Proofs.YtjaedfjfcghgcabGreatDoor


namespace Go.Proofs.YtjaedfjfcghgcabGreatDoor
open Go.ChangeShapes Go.WideShapes Go.ChangeAt Go.RowKit
set_option maxRecDepth 100000

theorem modelL_at {ats : List At} {u : Nat} {N : Nat → Int} {d : List Int} : ∀ {L : List (List Int)} {i : Nat}, L[i]? = some d → (∀ j, j < i → ∀ e, L[j]? = some e → (everyC u).find? (fitB (cubeR ats e)) = none) → (everyC u).find? (fitB (cubeR ats d)) = some N → modelL ats u L = some N := by
  intro L
  induction L with
  | nil => intro i h; simp at h
  | cons e L ih =>
    intro i h h1 h2
    unfold modelL
    cases i with
    | zero =>
      obtain rfl : e = d := by simpa using h
      rw [h2]
    | succ i =>
      rw [h1 0 (by omega) e rfl]
      exact ih (i := i) (by simpa using h) (fun j hj e' he' => h1 (j + 1) (by omega) e' (by simpa using he')) h2
theorem modelL_end {ats : List At} {u : Nat} : ∀ {L : List (List Int)}, (∀ j, j < L.length → ∀ e, L[j]? = some e → (everyC u).find? (fitB (cubeR ats e)) = none) → modelL ats u L = none := by
  intro L
  induction L with
  | nil => intro _; rfl
  | cons e L ih =>
    intro h
    unfold modelL
    rw [h 0 (by simp) e rfl]
    exact ih fun j hj e' he' => h (j + 1) (by simp; omega) e' (by simpa using he')
theorem okB_zero {u : Int} (h : 0 ≤ u ∧ u ≤ 6) : okB u 0 = true := by
  obtain ⟨n, rfl⟩ := Int.eq_ofNat_of_zero_le h.1
  have : ∀ n : Nat, n < 7 → okB (n : Int) 0 = true := by decide
  exact this n (by omega)
theorem okB_out {u : Int} (h : ¬ (0 ≤ u ∧ u ≤ 6)) : okB u 0 = false := by
  unfold okB
  exact decide_eq_false fun g => h ⟨g.1, g.2.1⟩

-- a formula whose cubes are told as an error
set_option maxHeartbeats 4000000 in
theorem modelOf_err (ao : Option Addr) (al acap : Nat) (co : Option Addr) (cl ccap : Nat) (u n : Int) (w : World)
    (hCu : ∀ W, Below w.heap.size w W → Calls Tryz.prog 6 #[.agg #[.slice ao al acap, .slice co cl ccap]] W fun e w' => e = .returned (.tuple #[.slice none 0 0, .iface 75 (.int .i64 n)]) ∧ Below W.heap.size W w') :
    Calls Tryz.prog 7 #[.agg #[.slice ao al acap, .slice co cl ccap], .int .i64 u] w fun e w' => e = .returned (.tuple #[.agg (arrW ⟨0, 0, 0, 0⟩), .iface 75 (.int .i64 n)]) ∧ Below w.heap.size w w' := by
  have HCu : Hid (∀ W, Below w.heap.size w W → Calls Tryz.prog 6 #[.agg #[.slice ao al acap, .slice co cl ccap]] W fun e w' => e = .returned (.tuple #[.slice none 0 0, .iface 75 (.int .i64 n)]) ∧ Below W.heap.size W w') := hCu
  clear hCu
  obtain ⟨w1, hw1⟩ : ∃ w1, w1 = (w.alloc (.cells #[.slice ao al acap, .slice co cl ccap] 25)).alloc (.cells #[.int .i64 0, .int .i64 0, .int .i64 0, .int .i64 0] 34) := ⟨_, rfl⟩
  have HB1 : Hid (Below w.heap.size w w1) := by unfold Hid; rw [hw1]; exact (below_alloc1 _ _).alloc (by simp) _
  have HP0 : Hid (Blk w1 w.heap.size 25 #[.slice ao al acap, .slice co cl ccap]) := by unfold Hid; rw [hw1]; exact (Blk.new _ _ _).old _
  have HP1 : Hid (Blk w1 (w.heap.size + 1) 34 (arrW ⟨0, 0, 0, 0⟩)) := by
    unfold Hid; rw [hw1]
    have := Blk.new (w.alloc (.cells #[.slice ao al acap, .slice co cl ccap] 25)) 34 (arrW ⟨0, 0, 0, 0⟩)
    simp only [World.size_alloc] at this
    exact this
  have x0 : w1.cell? ⟨w.heap.size, 0, none⟩ = some (.slice ao al acap) := HP0.out.cell 0
  have x1 : w1.cell? ⟨w.heap.size, 1, none⟩ = some (.slice co cl ccap) := HP0.out.cell 1
  go_enter Tryz.func7, Tryz.ntmps7
  go_wp2_with fail
  rw [← hw1]
  clear hw1
  go_wp2_with fail
  go_at_call 6
  refine (HCu.out _ HB1.out).mono ?_
  rintro e w2 ⟨rfl, hb⟩
  have HB2 : Hid (Below w.heap.size w w2) := HB1.out.trans (hb.mono HB1.out.size)
  have HP2 : Hid (Blk w2 (w.heap.size + 1) 34 (arrW ⟨0, 0, 0, 0⟩)) := HP1.out.below hb
  clear hb x0 x1
  have p0 : w2.cell? ⟨w.heap.size + 1, 0, none⟩ = some (.int .i64 0) := HP2.out.cell 0
  have p1 : w2.cell? ⟨w.heap.size + 1, 1, none⟩ = some (.int .i64 0) := HP2.out.cell 1
  have p2 : w2.cell? ⟨w.heap.size + 1, 2, none⟩ = some (.int .i64 0) := HP2.out.cell 2
  have p3 : w2.cell? ⟨w.heap.size + 1, 3, none⟩ = some (.int .i64 0) := HP2.out.cell 3
  obtain ⟨q0, q1, q2, q3⟩ := HP2.out.frozen4
  go_wp2
  have hld := loadW (putW_blk HP2.out ⟨0, 0, 0, 0⟩)
  refine bodyPost_ret (v := .tuple #[.agg (arrW ⟨0, 0, 0, 0⟩), .iface 75 (.int .i64 n)]) ?_ rfl ⟨rfl, ?_⟩
  · rw [results_cell_tmp rfl]
    unfold putW arrW at hld
    simp only at hld
    simp [asAddr, Result.andThen, hld, arrW]
  · exact putW_below HB2.out (by omega) ⟨0, 0, 0, 0⟩

-- a formula with cubes, and no number of things
set_option maxHeartbeats 4000000 in
theorem modelOf_out (ao : Option Addr) (al acap : Nat) (co : Option Addr) (cl ccap : Nat) (u : Int) (hu : ¬ (0 ≤ u ∧ u ≤ 6)) (w : World)
    (hCu : ∀ W, Below w.heap.size w W → Calls Tryz.prog 6 #[.agg #[.slice ao al acap, .slice co cl ccap]] W fun e w' => ∃ lo ll lcap, e = .returned (.tuple #[.slice lo ll lcap, .nilIface]) ∧ Below W.heap.size W w') :
    Calls Tryz.prog 7 #[.agg #[.slice ao al acap, .slice co cl ccap], .int .i64 u] w fun e w' => e = .returned (.tuple #[.agg (arrW ⟨0, 0, 0, 0⟩), .iface 75 (.int .i64 1)]) ∧ Below w.heap.size w w' := by
  have HCu : Hid (∀ W, Below w.heap.size w W → Calls Tryz.prog 6 #[.agg #[.slice ao al acap, .slice co cl ccap]] W fun e w' => ∃ lo ll lcap, e = .returned (.tuple #[.slice lo ll lcap, .nilIface]) ∧ Below W.heap.size W w') := hCu
  have HCk : Hid (∀ W, Calls Tryz.prog 24 #[.int .i64 u, .int .i64 0] W fun e w' => e = .returned (.iface 75 (.int .i64 1)) ∧ W = w') := fun W => check_no u 0 (okB_out hu) W
  clear hCu hu
  obtain ⟨w1, hw1⟩ : ∃ w1, w1 = (w.alloc (.cells #[.slice ao al acap, .slice co cl ccap] 25)).alloc (.cells #[.int .i64 0, .int .i64 0, .int .i64 0, .int .i64 0] 34) := ⟨_, rfl⟩
  have HB1 : Hid (Below w.heap.size w w1) := by unfold Hid; rw [hw1]; exact (below_alloc1 _ _).alloc (by simp) _
  have HP0 : Hid (Blk w1 w.heap.size 25 #[.slice ao al acap, .slice co cl ccap]) := by unfold Hid; rw [hw1]; exact (Blk.new _ _ _).old _
  have HP1 : Hid (Blk w1 (w.heap.size + 1) 34 (arrW ⟨0, 0, 0, 0⟩)) := by
    unfold Hid; rw [hw1]
    have := Blk.new (w.alloc (.cells #[.slice ao al acap, .slice co cl ccap] 25)) 34 (arrW ⟨0, 0, 0, 0⟩)
    simp only [World.size_alloc] at this
    exact this
  have x0 : w1.cell? ⟨w.heap.size, 0, none⟩ = some (.slice ao al acap) := HP0.out.cell 0
  have x1 : w1.cell? ⟨w.heap.size, 1, none⟩ = some (.slice co cl ccap) := HP0.out.cell 1
  go_enter Tryz.func7, Tryz.ntmps7
  go_wp2_with fail
  rw [← hw1]
  clear hw1
  go_wp2_with fail
  go_at_call 6
  refine (HCu.out _ HB1.out).mono ?_
  rintro e w2 ⟨lo, ll, lcap, rfl, hb⟩
  have HB2 : Hid (Below w.heap.size w w2) := HB1.out.trans (hb.mono HB1.out.size)
  have HP2 : Hid (Blk w2 (w.heap.size + 1) 34 (arrW ⟨0, 0, 0, 0⟩)) := HP1.out.below hb
  clear hb x0 x1
  go_wp2_with fail
  go_at_call 24
  refine (HCk.out _).mono ?_
  rintro e w3 ⟨rfl, rfl⟩
  have p0 : w2.cell? ⟨w.heap.size + 1, 0, none⟩ = some (.int .i64 0) := HP2.out.cell 0
  have p1 : w2.cell? ⟨w.heap.size + 1, 1, none⟩ = some (.int .i64 0) := HP2.out.cell 1
  have p2 : w2.cell? ⟨w.heap.size + 1, 2, none⟩ = some (.int .i64 0) := HP2.out.cell 2
  have p3 : w2.cell? ⟨w.heap.size + 1, 3, none⟩ = some (.int .i64 0) := HP2.out.cell 3
  obtain ⟨q0, q1, q2, q3⟩ := HP2.out.frozen4
  go_wp2
  have hld := loadW (putW_blk HP2.out ⟨0, 0, 0, 0⟩)
  refine bodyPost_ret (v := .tuple #[.agg (arrW ⟨0, 0, 0, 0⟩), .iface 75 (.int .i64 1)]) ?_ rfl ⟨rfl, ?_⟩
  · rw [results_cell_tmp rfl]
    unfold putW arrW at hld
    simp only at hld
    simp [asAddr, Result.andThen, hld, arrW]
  · exact putW_below HB2.out (by omega) ⟨0, 0, 0, 0⟩

-- a formula with cubes, and a number of things
set_option maxHeartbeats 8000000 in
theorem modelOf_in (n : Nat) (hn : n ≤ 6) (ats : List At) (c : List Int) (L : List (List Int)) (ao : Option Addr) (acap : Nat) (co : Option Addr) (ccap : Nat) (w : World)
    (hA : ReadsA w (.slice ao ats.length acap) ats) (hK : KindsLaid w) (hT : TimesLaid w) (hg : Laid w) (hf : formFault ats c = 0) (hL : cubesC c = some L)
    (hCu : ∀ W, Below w.heap.size w W → Calls Tryz.prog 6 #[.agg #[.slice ao ats.length acap, .slice co c.length ccap]] W fun e w' => ∃ lo lcap, e = .returned (.tuple #[.slice lo L.length lcap, .nilIface]) ∧ RS2 (fun _ => True) w' (.slice lo L.length lcap) L ∧ Below W.heap.size W w') :
    Calls Tryz.prog 7 #[.agg #[.slice ao ats.length acap, .slice co c.length ccap], .int .i64 n] w fun e w' =>
      ((∃ N, modelL ats n L = some N ∧ e = .returned (.tuple #[.agg (arrW (madeN N 8)), .nilIface])) ∨ (modelL ats n L = none ∧ e = .returned (.tuple #[.agg (arrW ⟨0, 0, 0, 0⟩), .iface 75 (.int .i64 5)]))) ∧ Below w.heap.size w w' := by
  obtain ⟨⟨hM1, hM6⟩, _, hflt, _, _⟩ := formFault_zero.1 hf
  obtain ⟨hok, hL40, _⟩ := cubes_say [] hf hL
  obtain ⟨q, hq⟩ : ∃ q : List Int → Option (Nat → Int), q = fun d => (everyC n).find? (fitB (cubeR ats d)) := ⟨_, rfl⟩
  have HFound : Hid (∀ (i : Nat) (d : List Int) (N : Nat → Int), L[i]? = some d → (∀ j, j < i → ∀ e, L[j]? = some e → q e = none) → q d = some N → modelL ats n L = some N) := fun i d N h1 h2 h3 => by
    rw [hq] at h2 h3
    exact modelL_at h1 h2 h3
  have HNone : Hid ((∀ j, j < L.length → ∀ e, L[j]? = some e → q e = none) → modelL ats n L = none) := fun h => by
    rw [hq] at h
    exact modelL_end h
  have HCu : Hid (∀ W, Below w.heap.size w W → Calls Tryz.prog 6 #[.agg #[.slice ao ats.length acap, .slice co c.length ccap]] W fun e w' => ∃ lo lcap, e = .returned (.tuple #[.slice lo L.length lcap, .nilIface]) ∧ RS2 (fun _ => True) w' (.slice lo L.length lcap) L ∧ Below W.heap.size W w') := hCu
  have HCk : Hid (∀ W, Calls Tryz.prog 24 #[.int .i64 n, .int .i64 0] W fun e w' => e = .returned .nilIface ∧ W = w') := fun W => check_ok n 0 (okB_zero ⟨by omega, by omega⟩) W
  have HFi : Hid (∀ (k : Nat) d dao dcap W, L[k]? = some d → Below w.heap.size w W → Reads W (.slice dao d.length dcap) d → Calls Tryz.prog 25 #[.slice ao ats.length acap, .slice dao d.length dcap, .int .i64 n] W fun e w' => ((∃ N, q d = some N ∧ e = .returned (.tuple #[.agg (arrW (madeN N 8)), .nilIface])) ∨ (q d = none ∧ e = .returned (.tuple #[.agg (arrW ⟨0, 0, 0, 0⟩), .iface 75 (.int .i64 5)]))) ∧ Below W.heap.size W w') := fun k d dao dcap W hd hW hR => by
    rw [hq]
    exact mfirst_any n hn ats d ao acap dao dcap W (hA.below hW) hR (hK.below hW) (hT.below hW) hflt hM6 (hok.1 d (List.mem_of_getElem? hd))
  have HIs : Hid (∀ W, Below w.heap.size w W → Calls Tryz.prog 26 #[.iface 75 (.int .i64 5)] W fun e w' => e = .returned (.bool true) ∧ Below W.heap.size W w') := fun W hW => isNone_err 5 W (hg.below hW)
  obtain ⟨w1, hw1⟩ : ∃ w1, w1 = (w.alloc (.cells #[.slice ao ats.length acap, .slice co c.length ccap] 25)).alloc (.cells #[.int .i64 0, .int .i64 0, .int .i64 0, .int .i64 0] 34) := ⟨_, rfl⟩
  have HB1 : Hid (Below w.heap.size w w1) := by unfold Hid; rw [hw1]; exact (below_alloc1 _ _).alloc (by simp) _
  have HP0 : Hid (Blk w1 w.heap.size 25 #[.slice ao ats.length acap, .slice co c.length ccap]) := by unfold Hid; rw [hw1]; exact (Blk.new _ _ _).old _
  have HP1 : Hid (Blk w1 (w.heap.size + 1) 34 (arrW ⟨0, 0, 0, 0⟩)) := by
    unfold Hid; rw [hw1]
    have := Blk.new (w.alloc (.cells #[.slice ao ats.length acap, .slice co c.length ccap] 25)) 34 (arrW ⟨0, 0, 0, 0⟩)
    simp only [World.size_alloc] at this
    exact this
  obtain ⟨M, hMe⟩ : ∃ M, M = ats.length := ⟨_, rfl⟩
  obtain ⟨nc, hnc⟩ : ∃ x, x = c.length := ⟨_, rfl⟩
  rw [← hMe, ← hnc] at HCu HP0 hw1 ⊢
  rw [← hMe] at HFi
  clear hCu hq hA hK hT hg hf hL hM1 hM6 hflt hok hMe hnc
  have x0 : w1.cell? ⟨w.heap.size, 0, none⟩ = some (.slice ao M acap) := HP0.out.cell 0
  have x1 : w1.cell? ⟨w.heap.size, 1, none⟩ = some (.slice co nc ccap) := HP0.out.cell 1
  go_enter Tryz.func7, Tryz.ntmps7
  go_wp2_with fail
  rw [← hw1]
  clear hw1
  go_wp2_with fail
  go_at_call 6
  refine (HCu.out _ HB1.out).mono ?_
  rintro e w3 ⟨lo, lcap, rfl, hR3, hb⟩
  have HB3 : Hid (Below w.heap.size w w3) := HB1.out.trans (hb.mono HB1.out.size)
  have HP03 : Hid (Blk w3 w.heap.size 25 #[.slice ao M acap, .slice co nc ccap]) := HP0.out.below hb
  have HP13 : Hid (Blk w3 (w.heap.size + 1) 34 (arrW ⟨0, 0, 0, 0⟩)) := HP1.out.below hb
  have HR3 : Hid (RS2 (fun _ => True) w3 (.slice lo L.length lcap) L) := hR3
  clear hb x0 x1 hR3
  go_wp2_with fail
  go_at_call 24
  refine (HCk.out _).mono ?_
  rintro e w4 ⟨rfl, rfl⟩
  go_wp2
  go_loopw [30] (fun i wr => ∃ k : Nat, k ≤ L.length ∧ i = .int .i64 k ∧ Below w3.heap.size w3 wr ∧ ∀ j, j < k → ∀ e, L[j]? = some e → q e = none) (fun i _ => L.length - (intOf i).toNat)
  case atStart => exact ⟨0, Nat.zero_le _, rfl, Below.refl _ _, fun j hj => by omega⟩
  case round =>
    obtain ⟨k, hk, rfl, hbr, hno⟩ := hrel
    have HBr : Hid (Below w3.heap.size w3 wr) := hbr
    have HNo : Hid (∀ j, j < k → ∀ e, L[j]? = some e → q e = none) := hno
    clear hbr hno
    have HP1r : Hid (Blk wr (w.heap.size + 1) 34 (arrW ⟨0, 0, 0, 0⟩)) := HP13.out.below HBr.out
    have HBw : Hid (Below w.heap.size w wr) := HB3.out.trans (HBr.out.mono HB3.out.size)
    by_cases hlt : k < L.length
    · obtain ⟨d, hd⟩ : ∃ d, L[k]? = some d := ⟨_, List.getElem?_eq_getElem hlt⟩
      have HD : Hid (L[k]? = some d) := hd
      clear hd
      obtain ⟨bL, oL, hlo, hbL, vd, hvd, hrs⟩ : ∃ bL oL, lo = some ⟨bL, oL, none⟩ ∧ bL < w3.heap.size ∧ ∃ vd, w3.cell? ⟨bL, oL + k, none⟩ = some vd ∧ RS (fun _ => True) w3 vd d := by
        rcases HR3.out with ⟨ao', cap, hv, h0⟩ | ⟨b, off, cap, hv, ⟨_, hb⟩, _, _, hcell⟩
        · rw [h0] at hlt; simp at hlt
        · obtain ⟨h1, _, _⟩ := Value.slice.inj hv
          obtain ⟨vd, h2, h3⟩ := hcell k d HD.out
          exact ⟨b, off, h1, hb, vd, h2, h3⟩
      subst hlo
      obtain ⟨dao, dcap, rfl, _⟩ := hrs.slice
      have y : wr.cell? ⟨bL, oL + k, none⟩ = some (.slice dao d.length dcap) := (HBr.out.cell hbL).trans hvd
      have HF : Hid (Calls Tryz.prog 25 #[.slice ao M acap, .slice dao d.length dcap, .int .i64 n] wr fun e w' => ((∃ N, q d = some N ∧ e = .returned (.tuple #[.agg (arrW (madeN N 8)), .nilIface])) ∨ (q d = none ∧ e = .returned (.tuple #[.agg (arrW ⟨0, 0, 0, 0⟩), .iface 75 (.int .i64 5)]))) ∧ Below wr.heap.size wr w') := HFi.out k d dao dcap wr HD.out HBw.out (hrs.reads.below HBr.out)
      clear hvd hrs hbL
      obtain ⟨nd, hnd⟩ : ∃ x, x = d.length := ⟨_, rfl⟩
      rw [← hnd] at y HF
      clear hnd
      have x0 : wr.cell? ⟨w.heap.size, 0, none⟩ = some (.slice ao M acap) := (HP03.out.below HBr.out).cell 0
      go_wp2_with fail
      go_at_call 25
      refine HF.out.mono ?_
      rintro e w5 ⟨hor, hb⟩
      have HB5 : Hid (Below w3.heap.size w3 w5) := HBr.out.trans (hb.mono HBr.out.size)
      have HBw5 : Hid (Below w.heap.size w w5) := HBw.out.trans (hb.mono HBw.out.size)
      have HP15 : Hid (Blk w5 (w.heap.size + 1) 34 (arrW ⟨0, 0, 0, 0⟩)) := HP1r.out.below hb
      clear hb x0 y
      rcases hor with ⟨N, hN, rfl⟩ | ⟨hN, rfl⟩
      · have HFo : Hid (modelL ats n L = some N) := HFound.out k d N HD.out HNo.out hN
        clear hN
        obtain ⟨D, hDe⟩ : ∃ D, D = madeN N 8 := ⟨_, rfl⟩
        rw [← hDe]
        have HDe : Hid (D = madeN N 8) := hDe
        clear hDe
        obtain ⟨w6, hw6⟩ : ∃ w6, w6 = w5.alloc (.cells (arrW D) 34) := ⟨_, rfl⟩
        have HB6 : Hid (Below w.heap.size w w6) := by unfold Hid; rw [hw6]; exact HBw5.out.alloc HBw5.out.size _
        have HP6 : Hid (Blk w6 (w.heap.size + 1) 34 (arrW ⟨0, 0, 0, 0⟩)) := by unfold Hid; rw [hw6]; exact HP15.out.old _
        have HQ6 : Hid (Blk w6 w5.heap.size 34 (arrW D)) := by unfold Hid; rw [hw6]; exact Blk.new _ _ _
        unfold arrW at hw6
        simp only [arrW]
        go_upto_region 11 with fail
        rw [← hw6]
        clear hw6
        go_wp2_with fail
        go_at_call 26
        refine (isNone_nil _).mono ?_
        rintro e w7 ⟨rfl, hb⟩
        have HB7 : Hid (Below w.heap.size w w7) := HB6.out.trans (hb.mono HB6.out.size)
        have HP7 : Hid (Blk w7 (w.heap.size + 1) 34 (arrW ⟨0, 0, 0, 0⟩)) := HP6.out.below hb
        have HQ7 : Hid (Blk w7 w5.heap.size 34 (arrW D)) := HQ6.out.below hb
        clear hb
        have p0 : w7.cell? ⟨w.heap.size + 1, 0, none⟩ = some (.int .i64 0) := HP7.out.cell 0
        have p1 : w7.cell? ⟨w.heap.size + 1, 1, none⟩ = some (.int .i64 0) := HP7.out.cell 1
        have p2 : w7.cell? ⟨w.heap.size + 1, 2, none⟩ = some (.int .i64 0) := HP7.out.cell 2
        have p3 : w7.cell? ⟨w.heap.size + 1, 3, none⟩ = some (.int .i64 0) := HP7.out.cell 3
        obtain ⟨q0, q1, q2, q3⟩ := HP7.out.frozen4
        obtain ⟨d0, d1, d2, d3⟩ := HQ7.out.cells4
        go_wp2
        have hld := loadW (putW_blk HP7.out D)
        refine bodyPost_ret (v := .tuple #[.agg (arrW D), .nilIface]) ?_ rfl ⟨Or.inl ⟨N, HFo.out, by rw [← HDe.out]⟩, ?_⟩
        · rw [results_cell_tmp rfl]
          unfold putW at hld
          simp [asAddr, Result.andThen, hld]
        · exact putW_below HB7.out (by omega) D
      · have HN1 : Hid (∀ j, j < k + 1 → ∀ e, L[j]? = some e → q e = none) := fun j hj e he => by
          rcases Nat.lt_or_ge j k with h | h
          · exact HNo.out j h e he
          · obtain rfl : j = k := by omega
            have e2 := HD.out.symm.trans he
            rw [← Option.some.inj e2]
            exact hN
        clear hN
        obtain ⟨w6, hw6⟩ : ∃ w6, w6 = w5.alloc (.cells (arrW ⟨0, 0, 0, 0⟩) 34) := ⟨_, rfl⟩
        have HB6 : Hid (Below w3.heap.size w3 w6) := by unfold Hid; rw [hw6]; exact HB5.out.alloc HB5.out.size _
        have HBw6 : Hid (Below w.heap.size w w6) := HB3.out.trans (HB6.out.mono HB3.out.size)
        simp only [arrW] at hw6 ⊢
        go_upto_region 11 with fail
        rw [← hw6]
        clear hw6
        go_wp2_with fail
        go_at_call 26
        refine (HIs.out _ HBw6.out).mono ?_
        rintro e w7 ⟨rfl, hb⟩
        have HB7 : Hid (Below w3.heap.size w3 w7) := HB6.out.trans (hb.mono HB6.out.size)
        clear hb
        go_wp2
        go_roundw
        case rel => exact ⟨k + 1, by omega, by go_num, HB7.out, HN1.out⟩
        case measure => simp [intOf]; omega
    · obtain rfl : k = L.length := by omega
      have HE : Hid (modelL ats n L = none) := HNone.out HNo.out
      have p0 : wr.cell? ⟨w.heap.size + 1, 0, none⟩ = some (.int .i64 0) := HP1r.out.cell 0
      have p1 : wr.cell? ⟨w.heap.size + 1, 1, none⟩ = some (.int .i64 0) := HP1r.out.cell 1
      have p2 : wr.cell? ⟨w.heap.size + 1, 2, none⟩ = some (.int .i64 0) := HP1r.out.cell 2
      have p3 : wr.cell? ⟨w.heap.size + 1, 3, none⟩ = some (.int .i64 0) := HP1r.out.cell 3
      obtain ⟨q0, q1, q2, q3⟩ := HP1r.out.frozen4
      go_wp2
      have hld := loadW (putW_blk HP1r.out ⟨0, 0, 0, 0⟩)
      refine bodyPost_ret (v := .tuple #[.agg (arrW ⟨0, 0, 0, 0⟩), .iface 75 (.int .i64 5)]) ?_ rfl ⟨Or.inr ⟨HE.out, rfl⟩, ?_⟩
      · rw [results_cell_tmp rfl]
        unfold putW arrW at hld
        simp only at hld
        simp [asAddr, Result.andThen, hld, arrW]
      · exact putW_below HBw.out (by omega) ⟨0, 0, 0, 0⟩
end Go.Proofs.YtjaedfjfcghgcabGreatDoor


namespace Go.Proofs.YtjaedfjfcghgcabGreatDoor
open Go.ChangeShapes Go.WideShapes Go.ChangeAt Go.RowKit
set_option maxRecDepth 100000

end Go.Proofs.YtjaedfjfcghgcabGreatDoor

