/-
  Proved: what the reference's Model returns, of any formula and any number of things; what was in memory is as it was (a contract that the statements lean on).
  Proved: what the reference's Model returns, of any formula and any number of things; what was in memory is as it was (a contract that the statements lean on). Written by program.
  Proved: what vennref1.Negate returns, of a formula that is none or is full; what was in memory is as it was (contracts that the statements lean on).
  Proved: what vennref1.Negate returns, of any formula; what was in memory is as it was (contracts that the statements lean on).
-/
import Derived.Test.YtedgbohobgnedaeGreatDoorLibPA5
import Derived.Test.YtedgbohobgnedaeGreatDoorLibRA1
import Derived.Test.YtedgbohobgnedaeGreatDoorLibRA2
import Derived.Test.YtedgbohobgnedaeGreatDoorLibMA1
import Derived.Deep.CutRange
import Derived.Deep.RegionHeld3
import Derived.Test.YtedgbohobgnedaeGreatDoorLibPA4
import Derived.OwnWalk
import Derived.Laws.OwnMore
import Derived.Laws.AppendOwn
namespace Go.Proofs.YtedgbohobgnedaeGreatDoor
open Go.ChangeShapes Go.WideShapes Go.ChangeAt Go.RowKit
set_option maxRecDepth 100000

theorem rfar_any (x : Int) (hx : x.natAbs ≤ 6) (w : World) : Calls Tryz.prog 24 #[.int .i64 x] w fun e w' => e = .returned (.int .i64 x.natAbs) ∧ w' = w := by
  by_cases h : x < 0
  · have e : ((x.natAbs : Nat) : Int) = -x := by omega
    rw [e]
    have x1 : -9223372036854775808 ≤ -x := by omega
    have x2 : -x ≤ 9223372036854775807 := by omega
    clear e
    go_enter Tryz.func24, Tryz.ntmps24
    go_wp2
    go_ret
    exact ⟨rfl, rfl⟩
  · have e : ((x.natAbs : Nat) : Int) = x := by omega
    rw [e]
    clear e
    go_enter Tryz.func24, Tryz.ntmps24
    go_wp2
    go_ret
    exact ⟨rfl, rfl⟩

theorem modelL_found {ats : List At} {u : Nat} {N : Nat → Int} {d : List Int} : ∀ {L : List (List Int)} {i k : Nat}, L[i]? = some d → (∀ j, j < i → ∀ e, L[j]? = some e → ∀ M ∈ everyC u, fitB (cubeR ats e) M = false) →
    (everyC u)[k]? = some N → (∀ j, j < k → ∀ M, (everyC u)[j]? = some M → fitB (cubeR ats d) M = false) → fitB (cubeR ats d) N = true → modelL ats u L = some N := by
  intro L
  induction L with
  | nil => intro i k h; simp at h
  | cons e L ih =>
    intro i k h h1 h2 h3 h4
    unfold modelL
    cases i with
    | zero =>
      obtain rfl : e = d := by simpa using h
      obtain ⟨hk, rfl⟩ := List.getElem?_eq_some_iff.1 h2
      rw [List.find?_eq_some_iff_getElem.2 ⟨h4, k, hk, rfl, fun j hj => by simpa using h3 j hj _ (List.getElem?_eq_getElem _)⟩]
    | succ i =>
      rw [List.find?_eq_none.2 fun M hM => by simpa using h1 0 (by omega) e rfl M hM]
      exact ih (i := i) (k := k) (by simpa using h) (fun j hj e' he' => h1 (j + 1) (by omega) e' (by simpa using he')) h2 h3 h4
theorem modelL_nothing {ats : List At} {u : Nat} : ∀ {L : List (List Int)}, (∀ j, j < L.length → ∀ e, L[j]? = some e → ∀ M ∈ everyC u, fitB (cubeR ats e) M = false) → modelL ats u L = none := by
  intro L
  induction L with
  | nil => intro _; rfl
  | cons e L ih =>
    intro h
    unfold modelL
    rw [List.find?_eq_none.2 fun M hM => by simpa using h 0 (by simp) e rfl M hM]
    exact ih fun j hj e' he' => h (j + 1) (by simp; omega) e' (by simpa using he')
theorem cell_putR {w : World} {R : Nat} {N : Nat → Int} {m : Int} {b o : Nat} (h : b ≠ R) : (putR w R N m).cell? ⟨b, o, none⟩ = w.cell? ⟨b, o, none⟩ := by
  have hb : (putR w R N m).heap[b]? = w.heap[b]? := by
    unfold putR
    rw [Below.heap_setCell _ _ _ _ (by exact h), Below.heap_setCell _ _ _ _ (by exact h), Below.heap_setCell _ _ _ _ (by exact h), Below.heap_setCell _ _ _ _ (by exact h), Below.heap_setCell _ _ _ _ (by exact h), Below.heap_setCell _ _ _ _ (by exact h), Below.heap_setCell _ _ _ _ (by exact h), Below.heap_setCell _ _ _ _ (by exact h), Below.heap_setCell _ _ _ _ (by exact h)]
  exact World.cell?_of_block (a := ⟨b, o, none⟩) hb

set_option maxHeartbeats 8000000 in
theorem refModel_in (n : Nat) (hn : n ≤ 6) (ats : List At) (c : List Int) (L : List (List Int)) (bA oA acap : Nat) (co : Option Addr) (ccap : Nat) (w : World)
    (hA : ReadsA w (.slice (some ⟨bA, oA, none⟩) ats.length acap) ats) (hC : Reads w (.slice co c.length ccap) c) (hf : formFault ats c = 0) (hL : cubesC c = some L) :
    Calls Tryz.prog 7 #[.agg #[.slice (some ⟨bA, oA, none⟩) ats.length acap, .slice co c.length ccap], .int .i64 n] w fun e w' =>
      ((∃ N, modelL ats n L = some N ∧ e = .returned (.tuple #[.agg (arrW (madeN N 8)), .int .i64 0])) ∨ (modelL ats n L = none ∧ e = .returned (.tuple #[.agg (arrW ⟨0, 0, 0, 0⟩), .int .i64 5]))) ∧ Below w.heap.size w w' := by
  obtain ⟨⟨hM1, hM6⟩, _, hflt, _, _⟩ := formFault_zero.1 hf
  obtain ⟨hok, hL40, _⟩ := cubes_say [] hf hL
  obtain ⟨A, hAe⟩ : ∃ A, A = everyC n := ⟨_, rfl⟩
  obtain ⟨q, hq⟩ : ∃ q : List Int → (Nat → Int) → Bool, q = fun d M => fitB (cubeR ats d) M := ⟨_, rfl⟩
  have HFound : Hid (∀ (i k : Nat) (d : List Int) (N : Nat → Int), L[i]? = some d → (∀ j, j < i → ∀ e, L[j]? = some e → ∀ M ∈ A, q e M = false) → A[k]? = some N → (∀ j, j < k → ∀ M, A[j]? = some M → q d M = false) → q d N = true → modelL ats n L = some N) := fun i k d N h1 h2 h3 h4 h5 => by
    rw [hAe] at h2 h3 h4
    rw [hq] at h2 h4 h5
    exact modelL_found h1 h2 h3 h4 h5
  have HNone : Hid ((∀ j, j < L.length → ∀ e, L[j]? = some e → ∀ M ∈ A, q e M = false) → modelL ats n L = none) := fun h => by
    rw [hAe, hq] at h
    exact modelL_nothing h
  have HFm : Hid (∀ W, Below w.heap.size w W → Calls Tryz.prog 12 #[.agg #[.slice (some ⟨bA, oA, none⟩) ats.length acap, .slice co c.length ccap]] W fun e w' => e = .returned (.int .i64 0) ∧ Below W.heap.size W w') := fun W hW => by
    have := refForm_any _ _ ats c W (hA.below hW) (hC.below hW)
    rw [hf] at this
    exact this
  have HCu : Hid (∀ W, Below w.heap.size w W → Calls Tryz.prog 21 #[.agg #[.slice (some ⟨bA, oA, none⟩) ats.length acap, .slice co c.length ccap]] W fun e w' => ∃ lo lcap, e = .returned (.tuple #[.slice lo L.length lcap, .int .i64 0]) ∧ RS2 (fun _ => True) w' (.slice lo L.length lcap) L ∧ Below W.heap.size W w') := fun W hW => by
    refine (refCubes_good _ _ ats c W (hA.below hW) (hC.below hW) hf).mono ?_
    rintro e w' ⟨ho, hb⟩
    rw [hL] at ho
    obtain ⟨v, rfl, hr⟩ := ho
    obtain ⟨lo, lcap, rfl, _⟩ := hr.slice
    exact ⟨lo, lcap, rfl, hr.mono fun _ _ _ => trivial, hb⟩
  have HAl : Hid (∀ W, Calls Tryz.prog 22 #[.int .i64 n] W fun e w' => ∃ bE oE ecap, e = .returned (.slice (some ⟨bE, oE, none⟩) A.length ecap) ∧ (bE < w'.heap.size ∧ A.length ≤ ecap ∧ ∀ i N, A[i]? = some N → CntAt w' bE (oE + i * 8) N) ∧ Below W.heap.size W w') := fun W => by
    refine (refAll_any n hn W).mono ?_
    rintro e w' ⟨v, rfl, hr, _, hb⟩
    rw [← hAe] at hr
    rcases hr with ⟨ao, cap, rfl, h0⟩ | ⟨b, off, cap, rfl, h2, h3, h4, h5⟩
    · rw [hAe] at h0; exact absurd h0 (allF_ne 7 n _)
    · exact ⟨b, off, cap, rfl, ⟨h2, h4.2, h5⟩, hb⟩
  have HLA : Hid (A.length ≤ 1716) := by unfold Hid; rw [hAe]; exact length_everyC hn
  have HCube : Hid (∀ (k : Nat) d, L[k]? = some d → cubeOk ats.length d ∧ rowsFault (cubeR ats d) = 0 ∧ d.length ≤ 6) := fun k d hd => by
    have h := hok.1 d (List.mem_of_getElem? hd)
    exact ⟨h, cube_rows hflt hM6 h, by have := cube_len h; omega⟩
  have HCnt : Hid (∀ (k : Nat) N, A[k]? = some N → countsFault N = 0) := fun k N hN => by rw [hAe] at hN; exact everyC_right hn (List.mem_of_getElem? hN)
  have HAt : Hid (∀ W, Below w.heap.size w W → ∀ i a, ats[i]? = some a → AtomAt W bA (oA + i * 4) a) := fun W hW i a ha => by
    rcases hA.below hW with ⟨ao, cap, hv, h0⟩ | ⟨b, off, cap, hv, h2, h3, h4, h5⟩
    · rw [h0] at hM1; simp at hM1
    · obtain ⟨h1, _, _⟩ := Value.slice.inj hv
      obtain ⟨rfl, rfl, _⟩ := Addr.mk.inj (Option.some.inj h1)
      exact h5 i a ha
  have HbA : Hid (bA < w.heap.size) := by
    rcases hA with ⟨ao, cap, hv, h0⟩ | ⟨b, off, cap, hv, h2, h3, h4, h5⟩
    · rw [h0] at hM1; simp at hM1
    · obtain ⟨h1, _, _⟩ := Value.slice.inj hv
      obtain ⟨rfl, _, _⟩ := Addr.mk.inj (Option.some.inj h1)
      exact h2
  have Hflt : Hid (∀ a ∈ ats, a.fault = 0) := hflt
  have HQ : Hid (q = fun d M => fitB (cubeR ats d) M) := hq
  obtain ⟨M, hMe⟩ : ∃ M, M = ats.length := ⟨_, rfl⟩
  obtain ⟨nc, hnc⟩ : ∃ x, x = c.length := ⟨_, rfl⟩
  obtain ⟨w1, hw1⟩ : ∃ w1, w1 = (w.alloc (.cells #[.slice (some ⟨bA, oA, none⟩) ats.length acap, .slice co c.length ccap] 25)).alloc (.cells #[.int .i64 0, .int .i64 0, .int .i64 0, .int .i64 0] 28) := ⟨_, rfl⟩
  have HB1 : Hid (Below w.heap.size w w1) := by unfold Hid; rw [hw1]; exact (below_alloc1 _ _).alloc (by simp) _
  have HP0 : Hid (Blk w1 w.heap.size 25 #[.slice (some ⟨bA, oA, none⟩) ats.length acap, .slice co c.length ccap]) := by unfold Hid; rw [hw1]; exact (Blk.new _ _ _).old _
  have HP1 : Hid (Blk w1 (w.heap.size + 1) 28 (arrW ⟨0, 0, 0, 0⟩)) := by
    unfold Hid; rw [hw1]
    have := Blk.new (w.alloc (.cells #[.slice (some ⟨bA, oA, none⟩) ats.length acap, .slice co c.length ccap] 25)) 28 (arrW ⟨0, 0, 0, 0⟩)
    simp only [World.size_alloc] at this
    exact this
  have HM6 : Hid (M ≤ 6) := by unfold Hid; rw [hMe]; exact hM6
  rw [← hMe, ← hnc] at HFm HCu HP0 ⊢
  rw [← hMe, ← hnc] at hw1
  have HMe : Hid (M = ats.length) := hMe
  clear hAe hq hA hC hf hL hM1 hM6 hflt hok hMe hnc
  have x0 : w1.cell? ⟨w.heap.size, 0, none⟩ = some (.slice (some ⟨bA, oA, none⟩) M acap) := HP0.out.cell 0
  have x1 : w1.cell? ⟨w.heap.size, 1, none⟩ = some (.slice co nc ccap) := HP0.out.cell 1
  go_enter Tryz.func7, Tryz.ntmps7
  go_wp2_with fail
  rw [← hw1]
  clear hw1
  go_wp2_with fail
  go_at_call 12
  refine (HFm.out _ HB1.out).mono ?_
  rintro e w2 ⟨rfl, hb⟩
  have HB2 : Hid (Below w.heap.size w w2) := HB1.out.trans (hb.mono HB1.out.size)
  have HP02 : Hid (Blk w2 w.heap.size 25 #[.slice (some ⟨bA, oA, none⟩) M acap, .slice co nc ccap]) := HP0.out.below hb
  have HP12 : Hid (Blk w2 (w.heap.size + 1) 28 (arrW ⟨0, 0, 0, 0⟩)) := HP1.out.below hb
  clear hb x0 x1
  have x0 : w2.cell? ⟨w.heap.size, 0, none⟩ = some (.slice (some ⟨bA, oA, none⟩) M acap) := HP02.out.cell 0
  have x1 : w2.cell? ⟨w.heap.size, 1, none⟩ = some (.slice co nc ccap) := HP02.out.cell 1
  go_wp2_with fail
  go_at_call 21
  refine (HCu.out _ HB2.out).mono ?_
  rintro e w3 ⟨lo, lcap, rfl, hR3, hb⟩
  have HB3 : Hid (Below w.heap.size w w3) := HB2.out.trans (hb.mono HB2.out.size)
  have HP03 : Hid (Blk w3 w.heap.size 25 #[.slice (some ⟨bA, oA, none⟩) M acap, .slice co nc ccap]) := HP02.out.below hb
  have HP13 : Hid (Blk w3 (w.heap.size + 1) 28 (arrW ⟨0, 0, 0, 0⟩)) := HP12.out.below hb
  have HR3 : Hid (RS2 (fun _ => True) w3 (.slice lo L.length lcap) L) := hR3
  clear hb x0 x1 hR3
  have hn6 : (n : Int) ≤ 6 := by omega
  go_wp2_with fail
  go_at_call 22
  refine (HAl.out _).mono ?_
  rintro e w4 ⟨bE, oE, ecap, rfl, hE, hb⟩
  have HB4 : Hid (Below w.heap.size w w4) := HB3.out.trans (hb.mono HB3.out.size)
  have HP04 : Hid (Blk w4 w.heap.size 25 #[.slice (some ⟨bA, oA, none⟩) M acap, .slice co nc ccap]) := HP03.out.below hb
  have HP14 : Hid (Blk w4 (w.heap.size + 1) 28 (arrW ⟨0, 0, 0, 0⟩)) := HP13.out.below hb
  have HR4 : Hid (RS2 (fun _ => True) w4 (.slice lo L.length lcap) L) := HR3.out.kept (Kept.of_below hb)
  have HE4 : Hid (bE < w4.heap.size ∧ A.length ≤ ecap ∧ ∀ i N, A[i]? = some N → CntAt w4 bE (oE + i * 8) N) := hE
  clear hb hE
  have hL63 : L.length ≤ 40 := hL40
  go_wp2
  go_loopw [9] (fun i wr => ∃ k : Nat, k ≤ L.length ∧ i = .int .i64 k ∧ Below w4.heap.size w4 wr ∧ ∀ j, j < k → ∀ e, L[j]? = some e → ∀ N ∈ A, q e N = false) (fun i _ => L.length - (intOf i).toNat)
  case atStart => exact ⟨0, Nat.zero_le _, rfl, Below.refl _ _, fun j hj => by omega⟩
  case round =>
    obtain ⟨k, hk, rfl, hbr, hno⟩ := hrel
    have HBr : Hid (Below w4.heap.size w4 wr) := hbr
    have HNo : Hid (∀ j, j < k → ∀ e, L[j]? = some e → ∀ N ∈ A, q e N = false) := hno
    clear hbr hno
    by_cases hlt : k < L.length
    · obtain ⟨d, hd⟩ : ∃ d, L[k]? = some d := ⟨_, List.getElem?_eq_getElem hlt⟩
      have HD : Hid (L[k]? = some d) := hd
      obtain ⟨hdok, hdr, hd6⟩ := HCube.out k d hd
      have HDok : Hid (cubeOk ats.length d) := hdok
      have HDr : Hid (rowsFault (cubeR ats d) = 0) := hdr
      clear hd hdok hdr
      obtain ⟨bL, oL, hlo, hbL, vd, hvd, hrs⟩ : ∃ bL oL, lo = some ⟨bL, oL, none⟩ ∧ bL < w4.heap.size ∧ ∃ vd, w4.cell? ⟨bL, oL + k, none⟩ = some vd ∧ RS (fun _ => True) w4 vd d := by
        rcases HR4.out with ⟨ao, cap, hv, h0⟩ | ⟨b, off, cap, hv, ⟨_, hb⟩, _, _, hcell⟩
        · rw [h0] at hlt; simp at hlt
        · obtain ⟨h1, _, _⟩ := Value.slice.inj hv
          obtain ⟨vd, h2, h3⟩ := hcell k d HD.out
          exact ⟨b, off, h1, hb, vd, h2, h3⟩
      subst hlo
      obtain ⟨dao, dcap, rfl, _⟩ := hrs.slice
      have HY : Hid (∀ W, Below w4.heap.size w4 W → W.cell? ⟨bL, oL + k, none⟩ = some (.slice dao d.length dcap)) := fun W hW => (hW.cell hbL).trans hvd
      have HRS : Hid (RS (fun _ => True) w4 (.slice dao d.length dcap) d) := hrs
      clear hvd hrs
      obtain ⟨nd, hnd⟩ : ∃ x, x = d.length := ⟨_, rfl⟩
      have HND : Hid (nd = d.length) := hnd
      rw [← hnd] at HY HRS hd6
      clear hnd
      go_wp2
      go_loopw [10, 11] (fun r i wx => ∃ kk : Nat, kk ≤ nd ∧ i = .int .i64 kk ∧ wx.ownsRow w4.heap.size 65 9 r kk (cellsR ((d.take kk).map (rowOf ats))) ∧ Below w4.heap.size w4 wx) (fun _ i _ => nd - (intOf i).toNat)
      case atStart => exact ⟨0, Nat.zero_le _, rfl, World.ownsRow_nil _ _ _ _, HBr.out⟩
      case round =>
        obtain ⟨kk, hkk, rfl, hown, hbx⟩ := hrel
        have HBx : Hid (Below w4.heap.size w4 wr) := hbx
        have HOw : Hid (wr.ownsRow w4.heap.size 65 9 u10 kk (cellsR ((d.take kk).map (rowOf ats)))) := hown
        clear hbx hown
        have HBw : Hid (Below w.heap.size w wr) := HB4.out.trans (HBx.out.mono HB4.out.size)
        have y := HY.out wr HBx.out
        by_cases hl2 : kk < nd
        · obtain ⟨bd, od, hdo, z⟩ : ∃ bd od, dao = some ⟨bd, od, none⟩ ∧ wr.cell? ⟨bd, od + kk, none⟩ = some (.int .i64 (d.getD kk 0)) := by
            rcases HRS.out with ⟨ao, cap, hv, h0⟩ | ⟨b, off, cap, hv, ⟨_, hb⟩, _, _, hcell⟩
            · have := HND.out; rw [h0] at this; simp at this; omega
            · obtain ⟨h1, _, _⟩ := Value.slice.inj hv
              exact ⟨b, off, h1, (HBx.out.cell hb).trans (hcell kk (by rw [← HND.out]; exact hl2))⟩
          subst hdo
          have HM : Hid (d[kk]? = some (d.getD kk 0)) := by
            unfold Hid
            have : kk < d.length := by rw [← HND.out]; exact hl2
            rw [List.getD_eq_getElem?_getD, List.getElem?_eq_getElem this]; rfl
          obtain ⟨m, hm⟩ : ∃ m, m = d.getD kk 0 := ⟨_, rfl⟩
          rw [← hm] at HM z
          clear hm
          obtain ⟨m1, m2⟩ := HDok.out.1 m (List.mem_of_getElem? HM.out)
          obtain ⟨j, hj⟩ : ∃ j, m.natAbs = j + 1 := ⟨m.natAbs - 1, by omega⟩
          have hjM : j < M := by rw [HMe.out]; omega
          have hj6 : j < 6 := by have := HM6.out; omega
          have HFar : Hid (∀ W, Calls Tryz.prog 24 #[.int .i64 m] W fun e w' => e = .returned (.int .i64 ((j : Int) + 1)) ∧ w' = W) := fun W => by
            have h := rfar_any m (by rw [hj]; omega) W
            rw [hj, show ((j + 1 : Nat) : Int) = (j : Int) + 1 by omega] at h
            exact h
          obtain ⟨a, ha⟩ : ∃ a, a = ats.getD (m.natAbs - 1) atZ := ⟨_, rfl⟩
          have haj : ats[j]? = some a := by
            have : j < ats.length := by rw [← HMe.out]; exact hjM
            rw [ha, hj, Nat.add_sub_cancel, List.getD_eq_getElem?_getD, List.getElem?_eq_getElem this]; rfl
          have hfa : atomFault a.k a.s a.t a.n = 0 := Hflt.out a (List.mem_of_getElem? haj)
          have HRow : Hid (rowOf ats m = Rw.mk (rowT a.k a.s a.t (decide (0 < m))) (rowM a.k a.n (decide (0 < m)))) := by unfold Hid rowOf; rw [← ha]
          obtain ⟨vs, vt, c0, c1, c2, c3, hs, ht⟩ := HAt.out wr HBw.out j a haj
          obtain ⟨so, sc, rfl, _⟩ := hs.slice
          obtain ⟨tto, tc, rfl, _⟩ := ht.slice
          obtain ⟨sl, hsl⟩ : ∃ x, x = a.s.length := ⟨_, rfl⟩
          obtain ⟨tl, htl⟩ : ∃ x, x = a.t.length := ⟨_, rfl⟩
          obtain ⟨ak, hak⟩ : ∃ x, x = a.k := ⟨_, rfl⟩
          obtain ⟨an, han⟩ : ∃ x, x = a.n := ⟨_, rfl⟩
          obtain ⟨T, hT⟩ : ∃ x, x = rowT a.k a.s a.t (decide (0 < m)) := ⟨_, rfl⟩
          obtain ⟨mm, hmm⟩ : ∃ x, x = rowM a.k a.n (decide (0 < m)) := ⟨_, rfl⟩
          have HR0 : ∀ W, Below wr.heap.size wr W → Calls Tryz.prog 23 #[.agg #[.int .i64 ak, .slice so sl sc, .slice tto tl tc, .int .i64 an], .bool (decide (0 < m))] W fun e w' => e = .returned (.agg #[.int .i64 (T 0), .int .i64 (T 1), .int .i64 (T 2), .int .i64 (T 3), .int .i64 (T 4), .int .i64 (T 5), .int .i64 (T 6), .int .i64 (T 7), .int .i64 mm]) ∧ Below W.heap.size W w' := fun W hW => by
            rw [hak, han, hsl, htl, hT, hmm]
            exact refRow_any a.k a.n (decide (0 < m)) _ _ a.s a.t W (hs.below hW) (ht.below hW) hfa
          rw [← hsl] at c1
          rw [← htl] at c2
          rw [← hak] at c0
          rw [← han] at c3
          rw [← hT, ← hmm] at HRow
          have hbA : bA < wr.heap.size := Nat.lt_of_lt_of_le HbA.out HBw.out.size
          have hP0 : w.heap.size < wr.heap.size := Nat.lt_of_lt_of_le HP04.out.lt HBx.out.size
          have p0 : wr.cell? ⟨w.heap.size, 0, none⟩ = some (.slice (some ⟨bA, oA, none⟩) M acap) := (HBx.out.cell HP04.out.lt).trans (HP04.out.cell 0)
          have HRA : Hid (∀ W, Below wr.heap.size wr W → Calls Tryz.prog 23 #[.agg #[.int .i64 ak, .slice so sl sc, .slice tto tl tc, .int .i64 an], .bool (decide (0 < m))] W fun e w' => e = .returned (.agg #[.int .i64 (T 0), .int .i64 (T 1), .int .i64 (T 2), .int .i64 (T 3), .int .i64 (T 4), .int .i64 (T 5), .int .i64 (T 6), .int .i64 (T 7), .int .i64 mm]) ∧ Below W.heap.size W w' ∧ Below wr.heap.size wr w' ∧ (w'.cell? ⟨w.heap.size, 0, none⟩ = some (.slice (some ⟨bA, oA, none⟩) M acap) ∧ w'.cell? ⟨bA, oA + j * 4, none⟩ = some (.int .i64 ak) ∧ w'.cell? ⟨bA, oA + j * 4 + 1, none⟩ = some (.slice so sl sc) ∧ w'.cell? ⟨bA, oA + j * 4 + 2, none⟩ = some (.slice tto tl tc) ∧ w'.cell? ⟨bA, oA + j * 4 + 3, none⟩ = some (.int .i64 an))) := fun W hW => (HR0 W hW).mono fun e w' ⟨he, hb⟩ => by
            have hb' := hW.trans (hb.mono hW.size)
            exact ⟨he, hb, hb', (hb'.cell hP0).trans p0, (hb'.cell hbA).trans c0, (hb'.cell hbA).trans c1, (hb'.cell hbA).trans c2, (hb'.cell hbA).trans c3⟩
          have HRB : Hid (∀ W, Blk W wr.heap.size 65 #[.int .i64 0, .int .i64 0, .int .i64 0, .int .i64 0, .int .i64 0, .int .i64 0, .int .i64 0, .int .i64 0, .int .i64 0] → Below wr.heap.size wr W → Calls Tryz.prog 23 #[.agg #[.int .i64 ak, .slice so sl sc, .slice tto tl tc, .int .i64 an], .bool (decide (0 < m))] W fun e w' => e = .returned (.agg #[.int .i64 (T 0), .int .i64 (T 1), .int .i64 (T 2), .int .i64 (T 3), .int .i64 (T 4), .int .i64 (T 5), .int .i64 (T 6), .int .i64 (T 7), .int .i64 mm]) ∧ Blk w' wr.heap.size 65 #[.int .i64 0, .int .i64 0, .int .i64 0, .int .i64 0, .int .i64 0, .int .i64 0, .int .i64 0, .int .i64 0, .int .i64 0] ∧ Below wr.heap.size wr w' ∧ (w'.cell? ⟨w.heap.size, 0, none⟩ = some (.slice (some ⟨bA, oA, none⟩) M acap) ∧ w'.cell? ⟨bA, oA + j * 4, none⟩ = some (.int .i64 ak) ∧ w'.cell? ⟨bA, oA + j * 4 + 1, none⟩ = some (.slice so sl sc) ∧ w'.cell? ⟨bA, oA + j * 4 + 2, none⟩ = some (.slice tto tl tc) ∧ w'.cell? ⟨bA, oA + j * 4 + 3, none⟩ = some (.int .i64 an)) ∧ (w'.cell? ⟨wr.heap.size, 0, none⟩ = some (.int .i64 0) ∧ w'.cell? ⟨wr.heap.size, 1, none⟩ = some (.int .i64 0) ∧ w'.cell? ⟨wr.heap.size, 2, none⟩ = some (.int .i64 0) ∧ w'.cell? ⟨wr.heap.size, 3, none⟩ = some (.int .i64 0) ∧ w'.cell? ⟨wr.heap.size, 4, none⟩ = some (.int .i64 0) ∧ w'.cell? ⟨wr.heap.size, 5, none⟩ = some (.int .i64 0) ∧ w'.cell? ⟨wr.heap.size, 6, none⟩ = some (.int .i64 0) ∧ w'.cell? ⟨wr.heap.size, 7, none⟩ = some (.int .i64 0) ∧ w'.cell? ⟨wr.heap.size, 8, none⟩ = some (.int .i64 0)) ∧ (w'.frozen? ⟨wr.heap.size, 0, none⟩ = false ∧ w'.frozen? ⟨wr.heap.size, 1, none⟩ = false ∧ w'.frozen? ⟨wr.heap.size, 2, none⟩ = false ∧ w'.frozen? ⟨wr.heap.size, 3, none⟩ = false ∧ w'.frozen? ⟨wr.heap.size, 4, none⟩ = false ∧ w'.frozen? ⟨wr.heap.size, 5, none⟩ = false ∧ w'.frozen? ⟨wr.heap.size, 6, none⟩ = false ∧ w'.frozen? ⟨wr.heap.size, 7, none⟩ = false ∧ w'.frozen? ⟨wr.heap.size, 8, none⟩ = false)) := fun W hK hW => (HR0 W hW).mono fun e w' ⟨he, hb⟩ => by
            have hb' := hW.trans (hb.mono hW.size)
            have hk' := hK.below hb
            exact ⟨he, hk', hb', ⟨(hb'.cell hP0).trans p0, (hb'.cell hbA).trans c0, (hb'.cell hbA).trans c1, (hb'.cell hbA).trans c2, (hb'.cell hbA).trans c3⟩, ⟨hk'.cell 0, hk'.cell 1, hk'.cell 2, hk'.cell 3, hk'.cell 4, hk'.cell 5, hk'.cell 6, hk'.cell 7, hk'.cell 8⟩, hk'.frozen9⟩
          have HpA : Hid (Below wr.heap.size wr wr.drew) := (Below.refl _ _).drew
          have HpB : Hid (Below wr.heap.size wr (wr.alloc (.cells #[.int .i64 0, .int .i64 0, .int .i64 0, .int .i64 0, .int .i64 0, .int .i64 0, .int .i64 0, .int .i64 0, .int .i64 0] 65)).drew) := (below_alloc1 _ _).drew
          have HpK : Hid (Blk (wr.alloc (.cells #[.int .i64 0, .int .i64 0, .int .i64 0, .int .i64 0, .int .i64 0, .int .i64 0, .int .i64 0, .int .i64 0, .int .i64 0] 65)).drew wr.heap.size 65 #[.int .i64 0, .int .i64 0, .int .i64 0, .int .i64 0, .int .i64 0, .int .i64 0, .int .i64 0, .int .i64 0, .int .i64 0]) := Blk.new _ _ _
          have HHj : Hid (m.natAbs = j + 1) := hj
          clear hs ht hfa haj ha hsl htl hak han hT hmm HR0 m1 m2 hj
          have i1 : IntKind.i64.wrap ((j : Int) + 1 - 1) = (j : Int) := by rw [show (j : Int) + 1 - 1 = j by omega]; rw [IntKind.wrap_i64]; omega
          have i2 : IntKind.i64.wrap (j : Int) = (j : Int) := by rw [IntKind.wrap_i64]; omega
          have i3 : (0 : Int) ≤ (j : Int) := by omega
          have n1 : wr.heap.size ≠ bA := by omega
          have n2 : wr.heap.size ≠ w.heap.size := by omega
          have i4 : (j : Int) < (M : Int) := by omega
          go_upto_region 18 with fail
          clear y z
          go_cut [13] from 46 to 75 (fun g wx => ∃ G, g = .pointer (some ⟨G, 0, none⟩) ∧ Blk wx G 65 (arrR T mm) ∧ wr.heap.size ≤ G ∧ Below wr.heap.size wr wx)
          case first =>
            go_region_held3 (fun w' => w'.cell? ⟨w.heap.size, 0, none⟩ = some (.slice (some ⟨bA, oA, none⟩) M acap) ∧ w'.cell? ⟨bA, oA + j * 4, none⟩ = some (.int .i64 ak) ∧ w'.cell? ⟨bA, oA + j * 4 + 1, none⟩ = some (.slice so sl sc) ∧ w'.cell? ⟨bA, oA + j * 4 + 2, none⟩ = some (.slice tto tl tc) ∧ w'.cell? ⟨bA, oA + j * 4 + 3, none⟩ = some (.int .i64 an)) (first | (go_keep; done) | (refine ⟨?_, ?_, ?_, ?_, ?_⟩ <;> first | (go_keep; done) | (rw [cell_putR (by omega)]; assumption)))
              (first
                | (go_at_call 24; refine (HFar.out _).mono ?_; rintro e w' ⟨rfl, rfl⟩)
                | (go_at_call 23; refine (HRB.out _ HpK.out HpB.out).mono ?_; rintro e w5 ⟨rfl, hk5, hb5, ⟨_, _, _, _, _⟩, ⟨_, _, _, _, _, _, _, _, _⟩, ⟨_, _, _, _, _, _, _, _, _⟩⟩)
                | (go_at_call 23; refine (HRA.out _ HpA.out).mono ?_; rintro e w5 ⟨rfl, hk5, hb5, ⟨_, _, _, _, _⟩⟩))
            all_goals (try go_wp2_with fail)
            all_goals go_meet
            · exact ⟨w5.heap.size, rfl, Blk.new w5 _ _, hb5.size, hb5.alloc hb5.size _⟩
            all_goals exact ⟨wr.heap.size, rfl, putR_blk (show Blk _ _ _ (arrR (fun _ => 0) 0) from hk5) T mm, Nat.le_refl _, putR_below hb5 (Nat.le_refl _) T mm⟩
          case rest =>
            obtain ⟨G, rfl, hG, hG2, hbc⟩ := hcut
            obtain ⟨w6, hw6⟩ : ∃ x, x = wc := ⟨_, rfl⟩
            subst hw6
            have HB6 : Hid (Below w4.heap.size w4 w6) := HBx.out.trans (hbc.mono HBx.out.size)
            have hlen : ((d.take kk).map (rowOf ats)).length = kk := by rw [List.length_map, List.length_take, ← HND.out]; omega
            obtain ⟨l, hl⟩ : ∃ l, l = (d.take kk).map (rowOf ats) := ⟨_, rfl⟩
            have HO6 : Hid (w6.ownsRow w4.heap.size 65 9 u10 l.length (cellsR l)) := by
              have h := ownsRow_same HOw.out hbc.block
              unfold Hid
              rw [hl, hlen]
              exact h
            have HLl : Hid (l.length = kk) := by unfold Hid; rw [hl]; exact hlen
            have HLs : Hid ((d.take (kk + 1)).map (rowOf ats) = l ++ [Rw.mk T mm]) := by
              unfold Hid
              rw [List.take_add_one, HM.out, List.map_append, ← hl, ← HRow.out]; rfl
            have HS6 : Hid (w4.heap.size ≤ w6.heap.size) := HB6.out.size
            obtain ⟨r0, r1, r2, r3, r4, r5, r6, r7, r8⟩ := hG.cells9
            clear hG hG2 hbc hl hlen
            have hl12 : l.length ≤ 12 := by have := HLl.out; omega
            go_wp2_with (at_builtin; refine append_one rfl _ _ rfl w4.heap.size u10 rfl l (Rw.mk T mm) w6.heap.size 1 rfl (HO6.out.alloc _) (heap_alloc_new w6 _) (by have := HS6.out; simp; omega) hl12 ?_)
            intro v9 w9 hown hgrow
            have HBa : Hid (Below w4.heap.size w4 (w6.alloc (.cells #[.int .i64 (T 0), .int .i64 (T 1), .int .i64 (T 2), .int .i64 (T 3), .int .i64 (T 4), .int .i64 (T 5), .int .i64 (T 6), .int .i64 (T 7), .int .i64 mm] 65))) := HB6.out.alloc HB6.out.size _
            have HB9 : Hid (Below w4.heap.size w4 w9) := HBa.out.grown hgrow HBa.out.size (fun x hx => (HO6.out.lt x hx).1)
            have HO9 : Hid (w9.ownsRow w4.heap.size 65 9 v9 (kk + 1) (cellsR ((d.take (kk + 1)).map (rowOf ats)))) := by
              unfold Hid
              rw [HLs.out]
              have h : w9.ownsRow w4.heap.size 65 9 v9 (l.length + 1) (cellsR (l ++ [Rw.mk T mm])) := hown
              rw [HLl.out] at h
              exact h
            clear hown hgrow r0 r1 r2 r3 r4 r5 r6 r7 r8
            go_wp2
            go_roundw
            case rel => exact ⟨kk + 1, by omega, by go_num, HO9.out, HB9.out⟩
            case measure => simp [intOf]; omega
        · obtain rfl : kk = nd := by omega
          have hlen : ((d.take kk).map (rowOf ats)).length = kk := by rw [List.length_map, List.length_take, ← HND.out]; omega
          have hcb : (d.take kk).map (rowOf ats) = cubeR ats d := by rw [HND.out, List.take_length]; rfl
          have hRr : ReadsR wr u10 (cubeR ats d) := by
            have h := HOw.out
            rw [hcb] at h hlen
            rw [← hlen] at h
            exact own_readsR h (by omega)
          have hcl : (cubeR ats d).length = kk := by rw [← hcb]; exact hlen
          obtain ⟨ro, rcap, hru, _⟩ := hRr.slice
          rw [hcl] at hru
          have HFit : Hid (∀ (i : Nat) (N : Nat → Int) W, A[i]? = some N → Below wr.heap.size wr W → Calls Tryz.prog 25 #[u10, .agg #[.int .i64 (N 0), .int .i64 (N 1), .int .i64 (N 2), .int .i64 (N 3), .int .i64 (N 4), .int .i64 (N 5), .int .i64 (N 6), .int .i64 (N 7)]] W fun e w' => e = .returned (.bool (q d N)) ∧ Below W.heap.size W w') := fun i N W hN hW => by
            have hfz : fitsFault (cubeR ats d) N = 0 := by unfold fitsFault; rw [if_pos HDr.out, HCnt.out i N hN]
            have h := refFits_right (cubeR ats d) u10 N W (hRr.below hW) hfz
            have e : fitsIs (cubeR ats d) N = q d N := by unfold fitsIs; rw [if_pos hfz, HQ.out]; rfl
            rw [e] at h
            exact h
          subst hru
          clear hRr hlen hcb hcl
          obtain ⟨wy, hwy⟩ : ∃ x, x = wr := ⟨_, rfl⟩
          subst hwy
          go_wp2
          go_loopw [14] (fun i wx => ∃ k3 : Nat, k3 ≤ A.length ∧ i = .int .i64 k3 ∧ Below wy.heap.size wy wx ∧ ∀ j, j < k3 → ∀ N, A[j]? = some N → q d N = false) (fun i _ => A.length - (intOf i).toNat)
          case atStart => exact ⟨0, Nat.zero_le _, rfl, Below.refl _ _, fun j hj => by omega⟩
          case round =>
            obtain ⟨k3, hk3, rfl, hb3, hno3⟩ := hrel
            have HB3x : Hid (Below wy.heap.size wy wr) := hb3
            have HNo3 : Hid (∀ j, j < k3 → ∀ N, A[j]? = some N → q d N = false) := hno3
            have HB43 : Hid (Below w4.heap.size w4 wr) := HBx.out.trans (hb3.mono HBx.out.size)
            clear hb3 hno3
            have hA63 := HLA.out
            by_cases hl3 : k3 < A.length
            · obtain ⟨N, hN⟩ : ∃ N, A[k3]? = some N := ⟨_, List.getElem?_eq_getElem hl3⟩
              have HNk : Hid (A[k3]? = some N) := hN
              have HCt : Hid (CntAt w4 bE (oE + k3 * 8) N) := HE4.out.2.2 k3 N hN
              have HMd : Hid (∀ W, Calls Tryz.prog 26 #[.agg #[.int .i64 (N 0), .int .i64 (N 1), .int .i64 (N 2), .int .i64 (N 3), .int .i64 (N 4), .int .i64 (N 5), .int .i64 (N 6), .int .i64 (N 7)]] W fun e w' => e = .returned (.agg #[.int .i64 (madeN N 8).u, .int .i64 (madeN N 8).a, .int .i64 (madeN N 8).b, .int .i64 (madeN N 8).c]) ∧ Below W.heap.size W w') := fun W => refMade_right N W (HCnt.out k3 N hN)
              obtain ⟨D, hD⟩ : ∃ D, D = madeN N 8 := ⟨_, rfl⟩
              rw [← hD] at HMd
              have HDd : Hid (D = madeN N 8) := hD
              have HFk : Hid (∀ W, Below wy.heap.size wy W → Calls Tryz.prog 25 #[.slice ro kk rcap, .agg #[.int .i64 (N 0), .int .i64 (N 1), .int .i64 (N 2), .int .i64 (N 3), .int .i64 (N 4), .int .i64 (N 5), .int .i64 (N 6), .int .i64 (N 7)]] W fun e w' => e = .returned (.bool (q d N)) ∧ Below W.heap.size W w') := fun W hW => HFit.out k3 N W hN hW
              obtain ⟨t, ht⟩ : ∃ t, t = q d N := ⟨_, rfl⟩
              rw [← ht] at HFk
              have HT : Hid (t = q d N) := ht
              clear hN hD ht
              have y0 : wr.cell? ⟨bE, oE + k3 * 8, none⟩ = some (.int .i64 (N 0)) := (HB43.out.cell HE4.out.1).trans (HCt.out 0 (by omega))
              have y1 : wr.cell? ⟨bE, oE + k3 * 8 + 1, none⟩ = some (.int .i64 (N 1)) := (HB43.out.cell HE4.out.1).trans (HCt.out 1 (by omega))
              have y2 : wr.cell? ⟨bE, oE + k3 * 8 + 2, none⟩ = some (.int .i64 (N 2)) := (HB43.out.cell HE4.out.1).trans (HCt.out 2 (by omega))
              have y3 : wr.cell? ⟨bE, oE + k3 * 8 + 3, none⟩ = some (.int .i64 (N 3)) := (HB43.out.cell HE4.out.1).trans (HCt.out 3 (by omega))
              have y4 : wr.cell? ⟨bE, oE + k3 * 8 + 4, none⟩ = some (.int .i64 (N 4)) := (HB43.out.cell HE4.out.1).trans (HCt.out 4 (by omega))
              have y5 : wr.cell? ⟨bE, oE + k3 * 8 + 5, none⟩ = some (.int .i64 (N 5)) := (HB43.out.cell HE4.out.1).trans (HCt.out 5 (by omega))
              have y6 : wr.cell? ⟨bE, oE + k3 * 8 + 6, none⟩ = some (.int .i64 (N 6)) := (HB43.out.cell HE4.out.1).trans (HCt.out 6 (by omega))
              have y7 : wr.cell? ⟨bE, oE + k3 * 8 + 7, none⟩ = some (.int .i64 (N 7)) := (HB43.out.cell HE4.out.1).trans (HCt.out 7 (by omega))
              go_wp2_with fail
              go_at_call 25
              refine (HFk.out _ HB3x.out).mono ?_
              rintro e w5 ⟨rfl, hb5⟩
              have HB5 : Hid (Below wy.heap.size wy w5) := HB3x.out.trans (hb5.mono HB3x.out.size)
              have HB45 : Hid (Below w4.heap.size w4 w5) := HB43.out.trans (hb5.mono HB43.out.size)
              clear hb5 y0 y1 y2 y3 y4 y5 y6 y7
              cases t with
              | true =>
                have HFo : Hid (modelL ats n L = some N) := HFound.out k k3 d N HD.out HNo.out HNk.out HNo3.out HT.out.symm
                clear HT
                have y0 : w5.cell? ⟨bE, oE + k3 * 8, none⟩ = some (.int .i64 (N 0)) := (HB45.out.cell HE4.out.1).trans (HCt.out 0 (by omega))
                have y1 : w5.cell? ⟨bE, oE + k3 * 8 + 1, none⟩ = some (.int .i64 (N 1)) := (HB45.out.cell HE4.out.1).trans (HCt.out 1 (by omega))
                have y2 : w5.cell? ⟨bE, oE + k3 * 8 + 2, none⟩ = some (.int .i64 (N 2)) := (HB45.out.cell HE4.out.1).trans (HCt.out 2 (by omega))
                have y3 : w5.cell? ⟨bE, oE + k3 * 8 + 3, none⟩ = some (.int .i64 (N 3)) := (HB45.out.cell HE4.out.1).trans (HCt.out 3 (by omega))
                have y4 : w5.cell? ⟨bE, oE + k3 * 8 + 4, none⟩ = some (.int .i64 (N 4)) := (HB45.out.cell HE4.out.1).trans (HCt.out 4 (by omega))
                have y5 : w5.cell? ⟨bE, oE + k3 * 8 + 5, none⟩ = some (.int .i64 (N 5)) := (HB45.out.cell HE4.out.1).trans (HCt.out 5 (by omega))
                have y6 : w5.cell? ⟨bE, oE + k3 * 8 + 6, none⟩ = some (.int .i64 (N 6)) := (HB45.out.cell HE4.out.1).trans (HCt.out 6 (by omega))
                have y7 : w5.cell? ⟨bE, oE + k3 * 8 + 7, none⟩ = some (.int .i64 (N 7)) := (HB45.out.cell HE4.out.1).trans (HCt.out 7 (by omega))
                go_wp2_with fail
                go_at_call 26
                refine (HMd.out _).mono ?_
                rintro e w6 ⟨rfl, hb6⟩
                have HB6 : Hid (Below w4.heap.size w4 w6) := HB45.out.trans (hb6.mono HB45.out.size)
                have HP6 : Hid (Blk w6 (w.heap.size + 1) 28 (arrW ⟨0, 0, 0, 0⟩)) := HP14.out.below HB6.out
                clear hb6 y0 y1 y2 y3 y4 y5 y6 y7
                have p0 : w6.cell? ⟨w.heap.size + 1, 0, none⟩ = some (.int .i64 0) := HP6.out.cell 0
                have p1 : w6.cell? ⟨w.heap.size + 1, 1, none⟩ = some (.int .i64 0) := HP6.out.cell 1
                have p2 : w6.cell? ⟨w.heap.size + 1, 2, none⟩ = some (.int .i64 0) := HP6.out.cell 2
                have p3 : w6.cell? ⟨w.heap.size + 1, 3, none⟩ = some (.int .i64 0) := HP6.out.cell 3
                obtain ⟨f0, f1, f2, f3⟩ := HP6.out.frozen4
                go_wp2
                have hld := loadW (putW_blk HP6.out D)
                refine bodyPost_ret (v := .tuple #[.agg (arrW D), .int .i64 0]) ?_ rfl ⟨Or.inl ⟨N, HFo.out, by rw [HDd.out]⟩, ?_⟩
                · rw [results_cell_tmp rfl]
                  unfold putW at hld
                  simp [asAddr, Result.andThen, hld]
                · exact putW_below (HB4.out.trans (HB6.out.mono HB4.out.size)) (by omega) D
              | false =>
                have HN3 : Hid (∀ j, j < k3 + 1 → ∀ N, A[j]? = some N → q d N = false) := fun j hj N' hN' => by
                  rcases Nat.lt_or_ge j k3 with h | h
                  · exact HNo3.out j h N' hN'
                  · obtain rfl : j = k3 := by omega
                    have e := HNk.out.symm.trans hN'
                    rw [← Option.some.inj e]
                    exact HT.out.symm
                clear HT
                go_wp2
                go_roundw
                case rel => exact ⟨k3 + 1, by omega, by go_num, HB5.out, HN3.out⟩
                case measure => simp [intOf]; omega
            · obtain rfl : k3 = A.length := by omega
              have HN4 : Hid (∀ j, j < k + 1 → ∀ e, L[j]? = some e → ∀ N ∈ A, q e N = false) := fun j hj e he N hN => by
                rcases Nat.lt_or_ge j k with h | h
                · exact HNo.out j h e he N hN
                · obtain rfl : j = k := by omega
                  have e2 := HD.out.symm.trans he
                  rw [← Option.some.inj e2]
                  obtain ⟨i, hi⟩ := List.mem_iff_getElem?.1 hN
                  exact HNo3.out i (List.getElem?_eq_some_iff.1 hi).1 N hi
              go_wp2
              go_roundw
              case rel => exact ⟨k + 1, by omega, by go_num, HB43.out, HN4.out⟩
              case measure => simp [intOf]; omega
    · obtain rfl : k = L.length := by omega
      have HE : Hid (modelL ats n L = none) := HNone.out HNo.out
      have HP6 : Hid (Blk wr (w.heap.size + 1) 28 (arrW ⟨0, 0, 0, 0⟩)) := HP14.out.below HBr.out
      have p0 : wr.cell? ⟨w.heap.size + 1, 0, none⟩ = some (.int .i64 0) := HP6.out.cell 0
      have p1 : wr.cell? ⟨w.heap.size + 1, 1, none⟩ = some (.int .i64 0) := HP6.out.cell 1
      have p2 : wr.cell? ⟨w.heap.size + 1, 2, none⟩ = some (.int .i64 0) := HP6.out.cell 2
      have p3 : wr.cell? ⟨w.heap.size + 1, 3, none⟩ = some (.int .i64 0) := HP6.out.cell 3
      obtain ⟨f0, f1, f2, f3⟩ := HP6.out.frozen4
      go_wp2
      have hld := loadW (putW_blk HP6.out ⟨0, 0, 0, 0⟩)
      refine bodyPost_ret (v := .tuple #[.agg (arrW ⟨0, 0, 0, 0⟩), .int .i64 5]) ?_ rfl ⟨Or.inr ⟨HE.out, rfl⟩, ?_⟩
      · rw [results_cell_tmp rfl]
        unfold putW arrW at hld
        simp only at hld
        simp [asAddr, Result.andThen, hld, arrW]
      · exact putW_below (HB4.out.trans (HBr.out.mono HB4.out.size)) (by omega) ⟨0, 0, 0, 0⟩
end Go.Proofs.YtedgbohobgnedaeGreatDoor

namespace Go.Proofs.YtedgbohobgnedaeGreatDoor
open Go.ChangeShapes Go.WideShapes Go.ChangeAt Go.RowKit
set_option maxRecDepth 100000

set_option maxHeartbeats 4000000 in
theorem refModel_form (u : Int) (ats : List At) (c : List Int) (ao : Option Addr) (acap : Nat) (co : Option Addr) (ccap : Nat) (w : World) (hA : ReadsA w (.slice ao ats.length acap) ats) (hC : Reads w (.slice co c.length ccap) c) (hf : ¬ formFault ats c = 0) :
    Calls Tryz.prog 7 #[.agg #[.slice ao ats.length acap, .slice co c.length ccap], .int .i64 u] w fun e w' => e = .returned (.tuple #[.agg (arrW ⟨0, 0, 0, 0⟩), .int .i64 (formFault ats c)]) ∧ Below w.heap.size w w' := by
  obtain ⟨F, hF⟩ : ∃ F, F = formFault ats c := ⟨_, rfl⟩
  have HFm : Hid (∀ W, Below w.heap.size w W → Calls Tryz.prog 12 #[.agg #[.slice ao ats.length acap, .slice co c.length ccap]] W fun e w' => e = .returned (.int .i64 F) ∧ Below W.heap.size W w') := fun W hW => by
    rw [hF]; exact refForm_any _ _ ats c W (hA.below hW) (hC.below hW)
  have hF0 : ¬ F = 0 := by rw [hF]; exact hf
  rw [← hF]
  obtain ⟨M, hMe⟩ : ∃ M, M = ats.length := ⟨_, rfl⟩
  obtain ⟨nc, hnc⟩ : ∃ x, x = c.length := ⟨_, rfl⟩
  obtain ⟨w1, hw1⟩ : ∃ w1, w1 = (w.alloc (.cells #[.slice ao ats.length acap, .slice co c.length ccap] 25)).alloc (.cells #[.int .i64 0, .int .i64 0, .int .i64 0, .int .i64 0] 28) := ⟨_, rfl⟩
  have HB1 : Hid (Below w.heap.size w w1) := by unfold Hid; rw [hw1]; exact (below_alloc1 _ _).alloc (by simp) _
  have HP0 : Hid (Blk w1 w.heap.size 25 #[.slice ao ats.length acap, .slice co c.length ccap]) := by unfold Hid; rw [hw1]; exact (Blk.new _ _ _).old _
  have HP1 : Hid (Blk w1 (w.heap.size + 1) 28 (arrW ⟨0, 0, 0, 0⟩)) := by
    unfold Hid; rw [hw1]
    have := Blk.new (w.alloc (.cells #[.slice ao ats.length acap, .slice co c.length ccap] 25)) 28 (arrW ⟨0, 0, 0, 0⟩)
    simp only [World.size_alloc] at this
    exact this
  rw [← hMe, ← hnc] at HFm HP0 hw1 ⊢
  clear hF hf hA hC hMe hnc
  have x0 : w1.cell? ⟨w.heap.size, 0, none⟩ = some (.slice ao M acap) := HP0.out.cell 0
  have x1 : w1.cell? ⟨w.heap.size, 1, none⟩ = some (.slice co nc ccap) := HP0.out.cell 1
  go_enter Tryz.func7, Tryz.ntmps7
  go_wp2_with fail
  rw [← hw1]
  clear hw1
  go_wp2_with fail
  go_at_call 12
  refine (HFm.out _ HB1.out).mono ?_
  rintro e w2 ⟨rfl, hb⟩
  have HB2 : Hid (Below w.heap.size w w2) := HB1.out.trans (hb.mono HB1.out.size)
  have HP02 : Hid (Blk w2 w.heap.size 25 #[.slice ao M acap, .slice co nc ccap]) := HP0.out.below hb
  have HP12 : Hid (Blk w2 (w.heap.size + 1) 28 (arrW ⟨0, 0, 0, 0⟩)) := HP1.out.below hb
  clear hb x0 x1
  have p0 : w2.cell? ⟨w.heap.size + 1, 0, none⟩ = some (.int .i64 0) := HP12.out.cell 0
  have p1 : w2.cell? ⟨w.heap.size + 1, 1, none⟩ = some (.int .i64 0) := HP12.out.cell 1
  have p2 : w2.cell? ⟨w.heap.size + 1, 2, none⟩ = some (.int .i64 0) := HP12.out.cell 2
  have p3 : w2.cell? ⟨w.heap.size + 1, 3, none⟩ = some (.int .i64 0) := HP12.out.cell 3
  obtain ⟨f0, f1, f2, f3⟩ := HP12.out.frozen4
  go_wp2
  have hld := loadW (putW_blk HP12.out ⟨0, 0, 0, 0⟩)
  refine bodyPost_ret (v := .tuple #[.agg (arrW ⟨0, 0, 0, 0⟩), .int .i64 F]) ?_ rfl ⟨rfl, ?_⟩
  · rw [results_cell_tmp rfl]
    unfold putW arrW at hld
    simp only at hld
    simp [asAddr, Result.andThen, hld, arrW]
  · exact putW_below HB2.out (by omega) ⟨0, 0, 0, 0⟩

set_option maxHeartbeats 4000000 in
theorem refModel_full (u : Int) (ats : List At) (c : List Int) (ao : Option Addr) (acap : Nat) (co : Option Addr) (ccap : Nat) (w : World) (hA : ReadsA w (.slice ao ats.length acap) ats) (hC : Reads w (.slice co c.length ccap) c) (hf : formFault ats c = 0) (hL : cubesC c = none) :
    Calls Tryz.prog 7 #[.agg #[.slice ao ats.length acap, .slice co c.length ccap], .int .i64 u] w fun e w' => e = .returned (.tuple #[.agg (arrW ⟨0, 0, 0, 0⟩), .int .i64 4]) ∧ Below w.heap.size w w' := by
  have HFm : Hid (∀ W, Below w.heap.size w W → Calls Tryz.prog 12 #[.agg #[.slice ao ats.length acap, .slice co c.length ccap]] W fun e w' => e = .returned (.int .i64 0) ∧ Below W.heap.size W w') := fun W hW => by
    have := refForm_any _ _ ats c W (hA.below hW) (hC.below hW)
    rw [hf] at this
    exact this
  have HCu : Hid (∀ W, Below w.heap.size w W → Calls Tryz.prog 21 #[.agg #[.slice ao ats.length acap, .slice co c.length ccap]] W fun e w' => e = .returned (.tuple #[.slice none 0 0, .int .i64 4]) ∧ Below W.heap.size W w') := fun W hW => by
    refine (refCubes_good _ _ ats c W (hA.below hW) (hC.below hW) hf).mono ?_
    rintro e w' ⟨ho, hb⟩
    rw [hL] at ho
    exact ⟨ho, hb⟩
  obtain ⟨M, hMe⟩ : ∃ M, M = ats.length := ⟨_, rfl⟩
  obtain ⟨nc, hnc⟩ : ∃ x, x = c.length := ⟨_, rfl⟩
  obtain ⟨w1, hw1⟩ : ∃ w1, w1 = (w.alloc (.cells #[.slice ao ats.length acap, .slice co c.length ccap] 25)).alloc (.cells #[.int .i64 0, .int .i64 0, .int .i64 0, .int .i64 0] 28) := ⟨_, rfl⟩
  have HB1 : Hid (Below w.heap.size w w1) := by unfold Hid; rw [hw1]; exact (below_alloc1 _ _).alloc (by simp) _
  have HP0 : Hid (Blk w1 w.heap.size 25 #[.slice ao ats.length acap, .slice co c.length ccap]) := by unfold Hid; rw [hw1]; exact (Blk.new _ _ _).old _
  have HP1 : Hid (Blk w1 (w.heap.size + 1) 28 (arrW ⟨0, 0, 0, 0⟩)) := by
    unfold Hid; rw [hw1]
    have := Blk.new (w.alloc (.cells #[.slice ao ats.length acap, .slice co c.length ccap] 25)) 28 (arrW ⟨0, 0, 0, 0⟩)
    simp only [World.size_alloc] at this
    exact this
  rw [← hMe, ← hnc] at HFm HCu HP0 hw1 ⊢
  clear hf hL hA hC hMe hnc
  have x0 : w1.cell? ⟨w.heap.size, 0, none⟩ = some (.slice ao M acap) := HP0.out.cell 0
  have x1 : w1.cell? ⟨w.heap.size, 1, none⟩ = some (.slice co nc ccap) := HP0.out.cell 1
  go_enter Tryz.func7, Tryz.ntmps7
  go_wp2_with fail
  rw [← hw1]
  clear hw1
  go_wp2_with fail
  go_at_call 12
  refine (HFm.out _ HB1.out).mono ?_
  rintro e w2 ⟨rfl, hb⟩
  have HB2 : Hid (Below w.heap.size w w2) := HB1.out.trans (hb.mono HB1.out.size)
  have HP02 : Hid (Blk w2 w.heap.size 25 #[.slice ao M acap, .slice co nc ccap]) := HP0.out.below hb
  have HP12 : Hid (Blk w2 (w.heap.size + 1) 28 (arrW ⟨0, 0, 0, 0⟩)) := HP1.out.below hb
  clear hb x0 x1
  have x0 : w2.cell? ⟨w.heap.size, 0, none⟩ = some (.slice ao M acap) := HP02.out.cell 0
  have x1 : w2.cell? ⟨w.heap.size, 1, none⟩ = some (.slice co nc ccap) := HP02.out.cell 1
  go_wp2_with fail
  go_at_call 21
  refine (HCu.out _ HB2.out).mono ?_
  rintro e w3 ⟨rfl, hb⟩
  have HB3 : Hid (Below w.heap.size w w3) := HB2.out.trans (hb.mono HB2.out.size)
  have HP13 : Hid (Blk w3 (w.heap.size + 1) 28 (arrW ⟨0, 0, 0, 0⟩)) := HP12.out.below hb
  clear hb x0 x1
  have p0 : w3.cell? ⟨w.heap.size + 1, 0, none⟩ = some (.int .i64 0) := HP13.out.cell 0
  have p1 : w3.cell? ⟨w.heap.size + 1, 1, none⟩ = some (.int .i64 0) := HP13.out.cell 1
  have p2 : w3.cell? ⟨w.heap.size + 1, 2, none⟩ = some (.int .i64 0) := HP13.out.cell 2
  have p3 : w3.cell? ⟨w.heap.size + 1, 3, none⟩ = some (.int .i64 0) := HP13.out.cell 3
  obtain ⟨f0, f1, f2, f3⟩ := HP13.out.frozen4
  go_wp2
  have hld := loadW (putW_blk HP13.out ⟨0, 0, 0, 0⟩)
  refine bodyPost_ret (v := .tuple #[.agg (arrW ⟨0, 0, 0, 0⟩), .int .i64 4]) ?_ rfl ⟨rfl, ?_⟩
  · rw [results_cell_tmp rfl]
    unfold putW arrW at hld
    simp only at hld
    simp [asAddr, Result.andThen, hld, arrW]
  · exact putW_below HB3.out (by omega) ⟨0, 0, 0, 0⟩

set_option maxHeartbeats 4000000 in
theorem refModel_range (u : Int) (ats : List At) (c : List Int) (ao : Option Addr) (acap : Nat) (co : Option Addr) (ccap : Nat) (w : World) (hA : ReadsA w (.slice ao ats.length acap) ats) (hC : Reads w (.slice co c.length ccap) c) (hf : formFault ats c = 0) (L : List (List Int)) (hL : cubesC c = some L) (hu : u < 0 ∨ 6 < u) :
    Calls Tryz.prog 7 #[.agg #[.slice ao ats.length acap, .slice co c.length ccap], .int .i64 u] w fun e w' => e = .returned (.tuple #[.agg (arrW ⟨0, 0, 0, 0⟩), .int .i64 1]) ∧ Below w.heap.size w w' := by
  have HFm : Hid (∀ W, Below w.heap.size w W → Calls Tryz.prog 12 #[.agg #[.slice ao ats.length acap, .slice co c.length ccap]] W fun e w' => e = .returned (.int .i64 0) ∧ Below W.heap.size W w') := fun W hW => by
    have := refForm_any _ _ ats c W (hA.below hW) (hC.below hW)
    rw [hf] at this
    exact this
  have HCu : Hid (∀ W, Below w.heap.size w W → Calls Tryz.prog 21 #[.agg #[.slice ao ats.length acap, .slice co c.length ccap]] W fun e w' => ∃ lo ll lcap, e = .returned (.tuple #[.slice lo ll lcap, .int .i64 0]) ∧ Below W.heap.size W w') := fun W hW => by
    refine (refCubes_good _ _ ats c W (hA.below hW) (hC.below hW) hf).mono ?_
    rintro e w' ⟨ho, hb⟩
    rw [hL] at ho
    obtain ⟨v, rfl, hr⟩ := ho
    obtain ⟨lo, lcap, rfl, _⟩ := hr.slice
    exact ⟨lo, _, lcap, rfl, hb⟩
  obtain ⟨M, hMe⟩ : ∃ M, M = ats.length := ⟨_, rfl⟩
  obtain ⟨nc, hnc⟩ : ∃ x, x = c.length := ⟨_, rfl⟩
  obtain ⟨w1, hw1⟩ : ∃ w1, w1 = (w.alloc (.cells #[.slice ao ats.length acap, .slice co c.length ccap] 25)).alloc (.cells #[.int .i64 0, .int .i64 0, .int .i64 0, .int .i64 0] 28) := ⟨_, rfl⟩
  have HB1 : Hid (Below w.heap.size w w1) := by unfold Hid; rw [hw1]; exact (below_alloc1 _ _).alloc (by simp) _
  have HP0 : Hid (Blk w1 w.heap.size 25 #[.slice ao ats.length acap, .slice co c.length ccap]) := by unfold Hid; rw [hw1]; exact (Blk.new _ _ _).old _
  have HP1 : Hid (Blk w1 (w.heap.size + 1) 28 (arrW ⟨0, 0, 0, 0⟩)) := by
    unfold Hid; rw [hw1]
    have := Blk.new (w.alloc (.cells #[.slice ao ats.length acap, .slice co c.length ccap] 25)) 28 (arrW ⟨0, 0, 0, 0⟩)
    simp only [World.size_alloc] at this
    exact this
  rw [← hMe, ← hnc] at HFm HCu HP0 hw1 ⊢
  clear hf hL hA hC hMe hnc
  have x0 : w1.cell? ⟨w.heap.size, 0, none⟩ = some (.slice ao M acap) := HP0.out.cell 0
  have x1 : w1.cell? ⟨w.heap.size, 1, none⟩ = some (.slice co nc ccap) := HP0.out.cell 1
  go_enter Tryz.func7, Tryz.ntmps7
  go_wp2_with fail
  rw [← hw1]
  clear hw1
  go_wp2_with fail
  go_at_call 12
  refine (HFm.out _ HB1.out).mono ?_
  rintro e w2 ⟨rfl, hb⟩
  have HB2 : Hid (Below w.heap.size w w2) := HB1.out.trans (hb.mono HB1.out.size)
  have HP02 : Hid (Blk w2 w.heap.size 25 #[.slice ao M acap, .slice co nc ccap]) := HP0.out.below hb
  have HP12 : Hid (Blk w2 (w.heap.size + 1) 28 (arrW ⟨0, 0, 0, 0⟩)) := HP1.out.below hb
  clear hb x0 x1
  have x0 : w2.cell? ⟨w.heap.size, 0, none⟩ = some (.slice ao M acap) := HP02.out.cell 0
  have x1 : w2.cell? ⟨w.heap.size, 1, none⟩ = some (.slice co nc ccap) := HP02.out.cell 1
  go_wp2_with fail
  go_at_call 21
  refine (HCu.out _ HB2.out).mono ?_
  rintro e w3 ⟨lo, ll, lcap, rfl, hb⟩
  have HB3 : Hid (Below w.heap.size w w3) := HB2.out.trans (hb.mono HB2.out.size)
  have HP13 : Hid (Blk w3 (w.heap.size + 1) 28 (arrW ⟨0, 0, 0, 0⟩)) := HP12.out.below hb
  clear hb x0 x1
  have p0 : w3.cell? ⟨w.heap.size + 1, 0, none⟩ = some (.int .i64 0) := HP13.out.cell 0
  have p1 : w3.cell? ⟨w.heap.size + 1, 1, none⟩ = some (.int .i64 0) := HP13.out.cell 1
  have p2 : w3.cell? ⟨w.heap.size + 1, 2, none⟩ = some (.int .i64 0) := HP13.out.cell 2
  have p3 : w3.cell? ⟨w.heap.size + 1, 3, none⟩ = some (.int .i64 0) := HP13.out.cell 3
  obtain ⟨f0, f1, f2, f3⟩ := HP13.out.frozen4
  rcases hu with hu | hu
  · go_wp2
    have hld := loadW (putW_blk HP13.out ⟨0, 0, 0, 0⟩)
    refine bodyPost_ret (v := .tuple #[.agg (arrW ⟨0, 0, 0, 0⟩), .int .i64 1]) ?_ rfl ⟨rfl, ?_⟩
    · rw [results_cell_tmp rfl]
      unfold putW arrW at hld
      simp only at hld
      simp [asAddr, Result.andThen, hld, arrW]
    · exact putW_below HB3.out (by omega) ⟨0, 0, 0, 0⟩
  · go_wp2
    have hld := loadW (putW_blk HP13.out ⟨0, 0, 0, 0⟩)
    refine bodyPost_ret (v := .tuple #[.agg (arrW ⟨0, 0, 0, 0⟩), .int .i64 1]) ?_ rfl ⟨rfl, ?_⟩
    · rw [results_cell_tmp rfl]
      unfold putW arrW at hld
      simp only at hld
      simp [asAddr, Result.andThen, hld, arrW]
    · exact putW_below HB3.out (by omega) ⟨0, 0, 0, 0⟩

/-- Model, whatever the formula and the number of things. -/
theorem refModel_any (va vc : Value) (ats : List At) (c : List Int) (u : Int) (w : World) (hA : ReadsA w va ats) (hC : Reads w vc c) :
    Calls Tryz.prog 7 #[.agg #[va, vc], .int .i64 u] w fun e w' => e = .returned (.tuple #[.agg (arrW (modelW ats c u)), .int .i64 (modelFault ats c u)]) ∧ Below w.heap.size w w' := by
  obtain ⟨ao, acap, rfl, _⟩ := hA.slice
  obtain ⟨co, ccap, rfl, _⟩ := hC.slice
  by_cases hf : formFault ats c = 0
  · cases hL : cubesC c with
    | none =>
      have e : modelFault ats c u = 4 := by unfold modelFault; rw [if_pos hf, hL]
      have e' : modelW ats c u = ⟨0, 0, 0, 0⟩ := by unfold modelW; rw [if_neg (by rw [e]; decide)]
      rw [e, e']
      exact refModel_full u ats c ao acap co ccap w hA hC hf hL
    | some L =>
      by_cases hu : 0 ≤ u ∧ u ≤ 6
      · obtain ⟨n, rfl⟩ := Int.eq_ofNat_of_zero_le hu.1
        obtain ⟨bA, oA, hao⟩ : ∃ bA oA, ao = some ⟨bA, oA, none⟩ := by
          rcases hA with ⟨a, cap, hv, h0⟩ | ⟨b, off, cap, hv, _⟩
          · have := (formFault_zero.1 hf).1.1; rw [h0] at this; simp at this
          · exact ⟨b, off, (Value.slice.inj hv).1⟩
        subst hao
        have em : modelN ats c (n : Int) = (modelL ats n L).getD zeroC := by unfold modelN; rw [hL, Int.toNat_natCast]; rfl
        refine (refModel_in n (by omega) ats c L bA oA acap co ccap w hA hC hf hL).mono ?_
        rintro e w' ⟨⟨N, hN, rfl⟩ | ⟨hN, rfl⟩, hb⟩
        · have e : modelFault ats c (n : Int) = 0 := by unfold modelFault; rw [if_pos hf, hL]; show (if _ then _ else _) = _; rw [if_pos hu, Int.toNat_natCast, hN]; rfl
          have e' : modelW ats c (n : Int) = madeN N 8 := by unfold modelW; rw [if_pos e, em, hN]; rfl
          rw [e, e']; exact ⟨rfl, hb⟩
        · have e : modelFault ats c (n : Int) = 5 := by unfold modelFault; rw [if_pos hf, hL]; show (if _ then _ else _) = _; rw [if_pos hu, Int.toNat_natCast, hN]; rfl
          have e' : modelW ats c (n : Int) = ⟨0, 0, 0, 0⟩ := by unfold modelW; rw [if_neg (by rw [e]; decide)]
          rw [e, e']; exact ⟨rfl, hb⟩
      · have e : modelFault ats c u = 1 := by unfold modelFault; rw [if_pos hf, hL]; show (if _ then _ else _) = _; rw [if_neg hu]
        have e' : modelW ats c u = ⟨0, 0, 0, 0⟩ := by unfold modelW; rw [if_neg (by rw [e]; decide)]
        rw [e, e']
        exact refModel_range u ats c ao acap co ccap w hA hC hf L hL (by omega)
  · have e : modelFault ats c u = formFault ats c := by unfold modelFault; rw [if_neg hf]
    have e' : modelW ats c u = ⟨0, 0, 0, 0⟩ := by unfold modelW; rw [if_neg (by rw [e]; exact hf)]
    rw [e, e']
    exact refModel_form u ats c ao acap co ccap w hA hC hf
end Go.Proofs.YtedgbohobgnedaeGreatDoor

namespace Go.Proofs.YtedgbohobgnedaeGreatDoor
open Go.ChangeShapes Go.WideShapes Go.ChangeAt Go.RowKit
set_option maxRecDepth 100000

set_option maxHeartbeats 2000000 in
theorem refNegate_bad (va vc : Value) (ats : List At) (c : List Int) (w : World) (hA : ReadsA w va ats) (hC : Reads w vc c) (hf : ¬ formFault ats c = 0) :
    Calls Tryz.prog 10 #[.agg #[va, vc]] w fun e w' => e = .returned (.tuple #[.agg #[.slice none 0 0, .slice none 0 0], .int .i64 (formFault ats c)]) ∧ Below w.heap.size w w' := by
  obtain ⟨ao, acap, rfl, _⟩ := hA.slice
  obtain ⟨co, ccap, rfl, _⟩ := hC.slice
  obtain ⟨w1, hw1⟩ : ∃ w1, w1 = (w.alloc (.cells #[.slice ao ats.length acap, .slice co c.length ccap] 25)).alloc (.cells #[.slice none 0 0, .slice none 0 0] 25) := ⟨_, rfl⟩
  have HB1 : Hid (Below w.heap.size w w1) := by unfold Hid; rw [hw1]; exact (below_alloc1 _ _).trans ((below_alloc1 _ _).mono (by simp))
  have HS1 : Hid (w1.heap.size = w.heap.size + 2) := by unfold Hid; rw [hw1]; simp
  have HX1 : Hid (BoxN w1 w.heap.size (.slice ao ats.length acap) (.slice co c.length ccap)) := by unfold Hid; rw [hw1]; exact boxN_alloc w _ _
  have HC : Hid (Calls Tryz.prog 12 #[.agg #[.slice ao ats.length acap, .slice co c.length ccap]] w1 fun e w' => e = .returned (.int .i64 (formFault ats c)) ∧ Below w1.heap.size w1 w') := by
    have := refForm_any _ _ ats c w1 (hA.below HB1.out) (hC.below HB1.out)
    exact this
  clear hA hC
  obtain ⟨F, hF⟩ : ∃ F, F = formFault ats c := ⟨_, rfl⟩
  rw [← hF] at HC hf ⊢
  have hf0 : (F == 0) = false := by simpa using hf
  have hf1 : (F != 0) = true := by simpa using hf
  clear hF
  obtain ⟨m, hm⟩ : ∃ m, m = ats.length := ⟨_, rfl⟩
  obtain ⟨n, hn⟩ : ∃ n, n = c.length := ⟨_, rfl⟩
  rw [← hm, ← hn] at HC hw1 HX1 ⊢
  clear hm hn hf
  obtain ⟨⟨x0, x1⟩, _, _⟩ := HX1.out
  rw [hw1] at x0 x1
  go_enter Tryz.func10, Tryz.ntmps10
  go_wp2_with fail
  rw [← hw1]
  clear hw1 x0 x1
  go_at_call 12
  refine HC.out.mono ?_
  rintro e w2 ⟨rfl, hb⟩
  have HB2 : Hid (Below w.heap.size w w2) := HB1.out.trans (hb.mono HB1.out.size)
  obtain ⟨⟨x0, x1⟩, ⟨y0, y1⟩, ⟨f0, f1⟩⟩ := HX1.out.below (by have := HS1.out; omega) hb
  clear hb
  go_wp2_with fail
  obtain ⟨m0, m1⟩ := set2_cells (u0 := .slice none 0 0) (u1 := .slice none 0 0) y0 y1
  have hld := load_form m0 m1
  refine bodyPost_ret (v := .tuple #[.agg #[.slice none 0 0, .slice none 0 0], .int .i64 F]) ?_ rfl ⟨rfl, ?_⟩
  · rw [results_cell_tmp rfl]
    simp [asAddr, Result.andThen, hld]
  · exact (HB2.out.setCell (by simp) _).setCell (by simp) _

set_option maxHeartbeats 2000000 in
theorem refNegate_full (va vc : Value) (ats : List At) (c : List Int) (w : World) (hA : ReadsA w va ats) (hC : Reads w vc c) (hf : formFault ats c = 0) (h20 : c.length = 20) :
    Calls Tryz.prog 10 #[.agg #[va, vc]] w fun e w' => e = .returned (.tuple #[.agg #[.slice none 0 0, .slice none 0 0], .int .i64 4]) ∧ Below w.heap.size w w' := by
  obtain ⟨ao, acap, rfl, _⟩ := hA.slice
  obtain ⟨co, ccap, rfl, _⟩ := hC.slice
  obtain ⟨w1, hw1⟩ : ∃ w1, w1 = (w.alloc (.cells #[.slice ao ats.length acap, .slice co c.length ccap] 25)).alloc (.cells #[.slice none 0 0, .slice none 0 0] 25) := ⟨_, rfl⟩
  have HB1 : Hid (Below w.heap.size w w1) := by unfold Hid; rw [hw1]; exact (below_alloc1 _ _).trans ((below_alloc1 _ _).mono (by simp))
  have HS1 : Hid (w1.heap.size = w.heap.size + 2) := by unfold Hid; rw [hw1]; simp
  have HX1 : Hid (BoxN w1 w.heap.size (.slice ao ats.length acap) (.slice co c.length ccap)) := by unfold Hid; rw [hw1]; exact boxN_alloc w _ _
  have HC : Hid (Calls Tryz.prog 12 #[.agg #[.slice ao ats.length acap, .slice co c.length ccap]] w1 fun e w' => e = .returned (.int .i64 0) ∧ Below w1.heap.size w1 w') := by
    have := refForm_any _ _ ats c w1 (hA.below HB1.out) (hC.below HB1.out)
    rw [hf] at this
    exact this
  clear hA hC
  obtain ⟨m, hm⟩ : ∃ m, m = ats.length := ⟨_, rfl⟩
  rw [← hm] at HC hw1 HX1 ⊢
  rw [h20] at HC hw1 HX1 ⊢
  clear hm h20 hf
  obtain ⟨⟨x0, x1⟩, _, _⟩ := HX1.out
  rw [hw1] at x0 x1
  go_enter Tryz.func10, Tryz.ntmps10
  go_wp2_with fail
  rw [← hw1]
  clear hw1 x0 x1
  go_at_call 12
  refine HC.out.mono ?_
  rintro e w2 ⟨rfl, hb⟩
  have HB2 : Hid (Below w.heap.size w w2) := HB1.out.trans (hb.mono HB1.out.size)
  obtain ⟨⟨x0, x1⟩, ⟨y0, y1⟩, ⟨f0, f1⟩⟩ := HX1.out.below (by have := HS1.out; omega) hb
  clear hb
  go_wp2_with fail
  obtain ⟨m0, m1⟩ := set2_cells (u0 := .slice none 0 0) (u1 := .slice none 0 0) y0 y1
  have hld := load_form m0 m1
  refine bodyPost_ret (v := .tuple #[.agg #[.slice none 0 0, .slice none 0 0], .int .i64 4]) ?_ rfl ⟨rfl, ?_⟩
  · rw [results_cell_tmp rfl]
    simp [asAddr, Result.andThen, hld]
  · exact (HB2.out.setCell (by simp) _).setCell (by simp) _
end Go.Proofs.YtedgbohobgnedaeGreatDoor

namespace Go.Proofs.YtedgbohobgnedaeGreatDoor
open Go.ChangeShapes Go.WideShapes Go.ChangeAt Go.RowKit
set_option maxRecDepth 100000
theorem ownsRow_set {W : World} {base : Nat} {e : TypeId} {size : Nat} {v : Value} {n : Nat} {xs : List Value} {B j : Nat} {u : Value} (h : W.ownsRow base e size v n xs) (hB : B < base) : (W.setCell ⟨B, j, none⟩ u).ownsRow base e size v n xs := by
  obtain ⟨h1, h2⟩ := h
  refine ⟨h1, ?_⟩
  rcases h2 with h2 | ⟨g, cap, cur, hv, hg, hh, r⟩
  · exact .inl h2
  · refine .inr ⟨g, cap, cur, hv, hg, ?_, r⟩
    rw [Below.heap_setCell _ _ _ _ (show g ≠ B by omega)]; exact hh
theorem own_readsN {w : World} {base : Nat} {e : TypeId} {v : Value} {n : Nat} {xs : List Value} {t : List Int} (h : w.ownsRow base e 1 v n xs) (hx : xs = t.map (Value.int .i64)) (hm : n ≤ 9223372036854775807) : Reads w v t := by
  have hn : t.length = n := by have := h.1; rw [hx] at this; simpa using this
  rcases h.2 with ⟨rfl, h0⟩ | ⟨g, cap, cur, rfl, _⟩
  · exact Or.inl ⟨_, _, rfl, List.eq_nil_of_length_eq_zero (by omega)⟩
  · rcases Nat.eq_zero_or_pos n with h0 | h0
    · exact Or.inl ⟨_, cap, by rw [h0], List.eq_nil_of_length_eq_zero (by omega)⟩
    · refine Or.inr ⟨g, 0, cap, by rw [hn], (ownsRow_block h).2.1, by omega, ⟨by omega, by have := (ownsRow_block h).2.2; omega⟩, fun k hk => ?_⟩
      rw [Nat.zero_add, h.cellAt k (by omega), hx]
      simp [List.getElem?_eq_getElem hk]
theorem BoxN.at' {W W' : World} {S0 K : Nat} {va vc : Value} (h : BoxN W S0 va vc) (hb : Below K W W') (hS : S0 + 1 < K) : BoxN W' S0 va vc := by
  obtain ⟨⟨a0, a1⟩, ⟨b0, b1⟩, f0, f1⟩ := h
  have h0 : S0 < K := by omega
  exact ⟨⟨(hb.cell h0).trans a0, (hb.cell h0).trans a1⟩, ⟨(hb.cell hS).trans b0, (hb.cell hS).trans b1⟩, (hb.frozen hS).trans f0, (hb.frozen hS).trans f1⟩
theorem set_far2 {W : World} {A i j : Nat} {v : Value} (h : i ≠ j) : (W.setCell ⟨A, i, none⟩ v).cell? ⟨A, j, none⟩ = W.cell? ⟨A, j, none⟩ := by
  apply World.cell?_setCell_other
  intro e
  injection e with _ e2
  exact h e2
theorem BoxN.far {W : World} {S0 B j : Nat} {va vc u : Value} (h : BoxN W S0 va vc) (h0 : B ≠ S0) (h1 : B ≠ S0 + 1) : BoxN (W.setCell ⟨B, j, none⟩ u) S0 va vc := by
  have f : ∀ S i, B ≠ S → (W.setCell ⟨B, j, none⟩ u).cell? ⟨S, i, none⟩ = W.cell? ⟨S, i, none⟩ := fun S i hS => World.cell?_setCell_other _ _ _ _ (fun e => hS (by injection e))
  obtain ⟨⟨a0, a1⟩, ⟨b0, b1⟩, f0, f1⟩ := h
  exact ⟨⟨(f _ _ h0).trans a0, (f _ _ h0).trans a1⟩, ⟨(f _ _ h1).trans b0, (f _ _ h1).trans b1⟩, by simp [f0], by simp [f1]⟩

set_option maxHeartbeats 4000000 in
theorem refNegate_own (va vc : Value) (ats : List At) (c : List Int) (w : World) (hA : ReadsA w va ats) (hC : Reads w vc c) (hf : formFault ats c = 0) (h20 : ¬ c.length = 20) :
    Calls Tryz.prog 10 #[.agg #[va, vc]] w fun e w' => ∃ vc' K, e = .returned (.tuple #[.agg #[va, vc'], .int .i64 0]) ∧ w.heap.size ≤ K ∧ Fresh K w' vc' (c ++ [12]) ∧ Below w.heap.size w w' := by
  obtain ⟨i0, hi, hz0, hz1, hz2⟩ := info_parts infoInt
  obtain ⟨_, ⟨hn1, hn20⟩, _⟩ := formFault_zero.1 hf
  obtain ⟨ao, acap, rfl, _⟩ := hA.slice
  obtain ⟨co, ccap, rfl, _⟩ := hC.slice
  obtain ⟨w1, hw1⟩ : ∃ w1, w1 = (w.alloc (.cells #[.slice ao ats.length acap, .slice co c.length ccap] 25)).alloc (.cells #[.slice none 0 0, .slice none 0 0] 25) := ⟨_, rfl⟩
  have HB1 : Hid (Below w.heap.size w w1) := by unfold Hid; rw [hw1]; exact (below_alloc1 _ _).trans ((below_alloc1 _ _).mono (by simp))
  have HS1 : Hid (w1.heap.size = w.heap.size + 2) := by unfold Hid; rw [hw1]; simp
  have HX1 : Hid (BoxN w1 w.heap.size (.slice ao ats.length acap) (.slice co c.length ccap)) := by unfold Hid; rw [hw1]; exact boxN_alloc w _ _
  have HC : Hid (Calls Tryz.prog 12 #[.agg #[.slice ao ats.length acap, .slice co c.length ccap]] w1 fun e w' => e = .returned (.int .i64 0) ∧ Below w1.heap.size w1 w') := by
    have := refForm_any _ _ ats c w1 (hA.below HB1.out) (hC.below HB1.out)
    rw [hf] at this
    exact this
  have HRc : Hid (∀ W, Below w.heap.size w W → Reads W (.slice co c.length ccap) c) := fun W h => hC.below h
  clear hA hC hf
  obtain ⟨m, hm⟩ : ∃ m, m = ats.length := ⟨_, rfl⟩
  obtain ⟨n, hn⟩ : ∃ n, n = c.length := ⟨_, rfl⟩
  rw [← hm] at HC hw1 HX1 ⊢
  rw [← hn] at HC hw1 HX1 HRc h20 hn1 hn20 ⊢
  have HN : Hid (n = c.length) := hn
  clear hm hn
  have h20' : ((n : Int) == 20) = false := by simp; omega
  obtain ⟨⟨x0, x1⟩, _, _⟩ := HX1.out
  rw [hw1] at x0 x1
  go_enter Tryz.func10, Tryz.ntmps10
  go_wp2_with fail
  rw [← hw1]
  clear hw1 x0 x1
  go_at_call 12
  refine HC.out.mono ?_
  rintro e w2 ⟨rfl, hb⟩
  have HB2 : Hid (Below w.heap.size w w2) := HB1.out.trans (hb.mono HB1.out.size)
  have HX2 : Hid (BoxN w2 w.heap.size (.slice ao m acap) (.slice co n ccap) ∧ w.heap.size + 2 ≤ w2.heap.size) := ⟨HX1.out.below (by have := HS1.out; omega) hb, by have := HS1.out; have := hb.size; omega⟩
  obtain ⟨⟨x0, x1⟩, ⟨y0, y1⟩, ⟨f0, f1⟩⟩ := HX2.out.1
  clear hb
  obtain ⟨G, hG⟩ : ∃ G, G = w2.heap.size := ⟨_, rfl⟩
  obtain ⟨w3, hw3⟩ : ∃ w3, w3 = w2.alloc (.cells #[.slice ao m acap, .slice none 0 0] 25) := ⟨_, rfl⟩
  have HB3 : Hid (Below w2.heap.size w2 w3 ∧ w3.heap.size = G + 1) := by unfold Hid; rw [hw3, hG]; exact ⟨below_alloc1 _ _, by simp⟩
  have HG3 : Hid ((w3.cell? ⟨G, 0, none⟩ = some (.slice ao m acap) ∧ w3.cell? ⟨G, 1, none⟩ = some (.slice none 0 0)) ∧ w3.frozen? ⟨G, 1, none⟩ = false) := by unfold Hid; rw [hw3, hG]; simp
  have HX3 : Hid (BoxN w3 w.heap.size (.slice ao m acap) (.slice co n ccap)) := HX2.out.1.below (by have := HX2.out.2; omega) HB3.out.1
  have HB30 : Hid (Below w.heap.size w w3) := HB2.out.trans (HB3.out.1.mono HB2.out.size)
  have HGw : Hid (w.heap.size + 2 ≤ G) := by rw [hG]; exact HX2.out.2
  have z1 := HX3.out.1.2
  have z2 := HG3.out.1.2
  rcases HRc.out w3 HB30.out with ⟨_, _, hv, hcn⟩ | ⟨b, off, cap, hv, hb, _, ⟨hl63, hle⟩, hc⟩
  · have := HN.out; rw [hcn] at this; simp at this; omega
  obtain rfl : co = some ⟨b, off, none⟩ := by cases hv; rfl
  clear hv
  have HCe : Hid (∀ j, j < c.length → w3.cell? ⟨b, off + j, none⟩ = some (.int .i64 (c.getD j 0))) := hc
  clear hc hb hl63 hle
  rw [hw3, hG] at z2
  rw [hw3] at z1
  go_wp2_with (first | (at_builtin; refine wpList_append_own _ rfl (.tmp 24) (.tmp 26) 23 rfl (G + 1) 3 i0 (.int .i64 0) 1 8 Tryz.underlying23 hi hz0 hz1 hz2 rfl (by decide) (.slice none 0 0) 0 [] rfl (World.ownsRow_nil _ _ _ _) ⟨b, off, none⟩ n ccap (c.map (Value.int .i64)) rfl ?a0 ?a1 ?a2 ?a3 ?a4 ?a5 ?_))
  case a0 => have := HN.out; simp; omega
  case a1 =>
    intro j y hj
    rw [List.getElem?_map] at hj
    cases hcj : c[j]? with
    | none => rw [hcj] at hj; cases hj
    | some s =>
      rw [hcj] at hj
      have hjl := (List.getElem?_eq_some_iff.1 hcj).1
      have := HCe.out j hjl
      rw [← hw3]
      rw [show (⟨b, off, none⟩ : Addr).add j = ⟨b, off + j, none⟩ by simp [Addr.add], this, List.getD_eq_getElem?_getD, hcj]
      simpa using hj
  case a2 => intro y hy; obtain ⟨s, _, rfl⟩ := List.mem_map.1 hy; rfl
  case a3 => unfold maxLen; omega
  case a4 => omega
  case a5 => rw [← hw3, HB3.out.2]; exact Nat.le_refl _
  intro v4 w4 hown hgrow _
  rw [← hw3] at hgrow
  subst hG
  have HB4 : Hid (Below w3.heap.size w3 w4) := by
    unfold Hid
    rw [HB3.out.2]
    exact (Below.refl _ _).grown hgrow (by rw [HB3.out.2]; exact Nat.le_refl _) (fun k hk => by cases hk)
  have HB40 : Hid (Below w.heap.size w w4) := HB30.out.trans (HB4.out.mono HB30.out.size)
  have hG3 : w2.heap.size < w3.heap.size := by rw [HB3.out.2]; omega
  have HG4 : Hid ((w4.cell? ⟨w2.heap.size, 0, none⟩ = some (.slice ao m acap) ∧ w4.cell? ⟨w2.heap.size, 1, none⟩ = some (.slice none 0 0)) ∧ w4.frozen? ⟨w2.heap.size, 1, none⟩ = false) := ⟨⟨(HB4.out.cell hG3).trans HG3.out.1.1, (HB4.out.cell hG3).trans HG3.out.1.2⟩, (HB4.out.frozen hG3).trans HG3.out.2⟩
  have HX4 : Hid (BoxN w4 w.heap.size (.slice ao m acap) (.slice (some ⟨b, off, none⟩) n ccap)) := HX3.out.below (by have := HB3.out.2; have := HGw.out; omega) HB4.out
  have HS4 : Hid (w2.heap.size + 1 ≤ w4.heap.size) := by have := HB4.out.size; rw [HB3.out.2] at this; exact this
  obtain ⟨g, cap4, rfl⟩ : ∃ g cap4, v4 = .slice (some ⟨g, 0, none⟩) n cap4 := by
    rcases hown.2 with ⟨_, h0⟩ | ⟨g, cap4, cur, rfl, _⟩
    · omega
    · exact ⟨g, cap4, rfl⟩
  obtain ⟨w5, hw5⟩ : ∃ w5, w5 = w4.setCell ⟨w2.heap.size, 1, none⟩ (.slice (some ⟨g, 0, none⟩) n cap4) := ⟨_, rfl⟩
  have HO5 : Hid (w5.ownsRow (w2.heap.size + 1) 3 1 (.slice (some ⟨g, 0, none⟩) n cap4) n (c.map (Value.int .i64))) := by unfold Hid; rw [hw5]; exact ownsRow_set hown (by omega)
  have HB5 : Hid (Below w.heap.size w w5) := by unfold Hid; rw [hw5]; exact HB40.out.setCell (by have := HGw.out; simp; omega) _
  have HX5 : Hid (BoxN w5 w.heap.size (.slice ao m acap) (.slice (some ⟨b, off, none⟩) n ccap)) := by unfold Hid; rw [hw5]; exact HX4.out.far (by have := HGw.out; omega) (by have := HGw.out; omega)
  have HG5 : Hid ((w5.cell? ⟨w2.heap.size, 0, none⟩ = some (.slice ao m acap) ∧ w5.cell? ⟨w2.heap.size, 1, none⟩ = some (.slice (some ⟨g, 0, none⟩) n cap4)) ∧ w5.frozen? ⟨w2.heap.size, 1, none⟩ = false) := by
    unfold Hid; rw [hw5]
    exact ⟨⟨(set_far2 (by decide)).trans HG4.out.1.1, World.cell?_setCell_same _ _ _ (by rw [HG4.out.1.2])⟩, by simp [HG4.out.2]⟩
  have HS5 : Hid (w2.heap.size + 1 ≤ w5.heap.size) := by unfold Hid; rw [hw5]; simpa using HS4.out
  have z3 := HG4.out.1.2
  have z4 := HG4.out.2
  have z5 := HG5.out.1.2
  rw [hw5] at z5
  clear hown hgrow
  go_wp2_with (first | (at_builtin; refine wpList_append_own _ rfl (.tmp 30) (.tmp 31) 23 rfl (w2.heap.size + 1) 3 i0 (.int .i64 0) 1 8 Tryz.underlying23 hi hz0 hz1 hz2 rfl (by decide) (.slice (some ⟨g, 0, none⟩) n cap4) n (c.map (Value.int .i64)) rfl (by rw [← hw5]; exact HO5.out.alloc _) ⟨w4.heap.size, 0, none⟩ 1 1 [.int .i64 12] rfl rfl ?b1 (by intro y hy; simp at hy; subst hy; rfl) ?b3 ?b4 ?b5 ?_))
  case b1 =>
    intro j y hj
    rw [← hw5]
    match j, hj with
    | 0, hj =>
      simp at hj; subst hj
      have e : w4.heap.size = w5.heap.size := by rw [hw5]; simp
      rw [e]
      simp [Addr.add]
  case b3 => unfold maxLen; omega
  case b4 => omega
  case b5 => have := HS4.out; simp; omega
  intro v6 w6 hown hgrow _
  rw [← hw5] at hgrow
  have HB6 : Hid (Below (w2.heap.size + 1) w5 w6) := ((Below.refl _ _).alloc HS5.out _).grown hgrow (by have := HS5.out; simp; omega) (fun k hk => (HO5.out.lt k hk).1)
  have HB60 : Hid (Below w.heap.size w w6) := HB5.out.trans (HB6.out.mono (by have := HGw.out; omega))
  obtain ⟨g6, cap6, rfl⟩ : ∃ g6 cap6, v6 = .slice (some ⟨g6, 0, none⟩) (n + 1) cap6 := by
    rcases hown.2 with ⟨_, h0⟩ | ⟨g6, cap6, cur, rfl, _⟩
    · omega
    · exact ⟨g6, cap6, rfl⟩
  have lG : w2.heap.size < w2.heap.size + 1 := by omega
  have g60 := (HB6.out.cell (p := ⟨w2.heap.size, 0, none⟩) lG).trans HG5.out.1.1
  have g61 := (HB6.out.cell (p := ⟨w2.heap.size, 1, none⟩) lG).trans HG5.out.1.2
  have g6f := (HB6.out.frozen (p := ⟨w2.heap.size, 1, none⟩) lG).trans HG5.out.2
  have HX6 : Hid (BoxN w6 w.heap.size (.slice ao m acap) (.slice (some ⟨b, off, none⟩) n ccap)) := HX5.out.at' HB6.out (by have := HGw.out; omega)
  obtain ⟨w7, hw7⟩ : ∃ w7, w7 = w6.setCell ⟨w2.heap.size, 1, none⟩ (.slice (some ⟨g6, 0, none⟩) (n + 1) cap6) := ⟨_, rfl⟩
  have HX7 : Hid (BoxN w7 w.heap.size (.slice ao m acap) (.slice (some ⟨b, off, none⟩) n ccap)) := by unfold Hid; rw [hw7]; exact HX6.out.far (by have := HGw.out; omega) (by have := HGw.out; omega)
  have HO7 : Hid (w7.ownsRow (w2.heap.size + 1) 3 1 (.slice (some ⟨g6, 0, none⟩) (n + 1) cap6) (n + 1) ((c ++ [12]).map (Value.int .i64))) := by unfold Hid; rw [hw7, List.map_append]; exact ownsRow_set hown (by omega)
  have HB7 : Hid (Below w.heap.size w w7) := by unfold Hid; rw [hw7]; exact HB60.out.setCell (by have := HGw.out; simp; omega) _
  have q0 : w7.cell? ⟨w2.heap.size, 0, none⟩ = some (.slice ao m acap) := by rw [hw7]; exact (set_far2 (by decide)).trans g60
  have q1 : w7.cell? ⟨w2.heap.size, 1, none⟩ = some (.slice (some ⟨g6, 0, none⟩) (n + 1) cap6) := by rw [hw7]; exact World.cell?_setCell_same _ _ _ (by rw [g61])
  obtain ⟨_, ⟨y0, y1⟩, ⟨f0, f1⟩⟩ := HX7.out
  have s0 := y0
  have s1 := y1
  clear hown hgrow g60 x0 x1 z1 z2 z3 z4 z5
  rw [hw7] at q0 q1 s0 s1 f0 f1
  go_wp2_with fail
  rw [← hw7]
  obtain ⟨m0, m1⟩ := set2_cells (u0 := .slice ao m acap) (u1 := .slice (some ⟨g6, 0, none⟩) (n + 1) cap6) y0 y1
  have hld := load_form m0 m1
  have hR : w.heap.size + 1 < w2.heap.size + 1 := by have := HGw.out; omega
  refine bodyPost_ret (v := .tuple #[.agg #[.slice ao m acap, .slice (some ⟨g6, 0, none⟩) (n + 1) cap6], .int .i64 0]) ?_ rfl ⟨_, w2.heap.size + 1, rfl, by have := HGw.out; omega, ?_, ?_⟩
  · rw [results_cell_tmp rfl]
    simp [asAddr, Result.andThen, hld]
  · have hl : (c ++ [12]).length = n + 1 := by rw [List.length_append, ← HN.out]; rfl
    unfold Fresh
    rw [hl]
    exact ownsRow_set (ownsRow_set HO7.out hR) hR
  · exact (HB7.out.setCell (by simp) _).setCell (by simp) _
theorem refNegate_good (va vc : Value) (ats : List At) (c : List Int) (w : World) (hA : ReadsA w va ats) (hC : Reads w vc c) (hf : formFault ats c = 0) (h20 : ¬ c.length = 20) :
    Calls Tryz.prog 10 #[.agg #[va, vc]] w fun e w' => ∃ vc', e = .returned (.tuple #[.agg #[va, vc'], .int .i64 0]) ∧ Reads w' vc' (c ++ [12]) ∧ Below w.heap.size w w' := by
  refine (refNegate_own va vc ats c w hA hC hf h20).mono ?_
  rintro e w' ⟨vc', K, rfl, _, hF, hb⟩
  exact ⟨vc', rfl, hF.reads, hb⟩
/-- vennref1.Negate, of any formula. -/
theorem refNegate_any (va vc : Value) (ats : List At) (c : List Int) (w : World) (hA : ReadsA w va ats) (hC : Reads w vc c) :
    Calls Tryz.prog 10 #[.agg #[va, vc]] w fun e w' => ∃ va' vc', e = .returned (.tuple #[.agg #[va', vc'], .int .i64 (negFault ats c)]) ∧ (negFault ats c = 0 → ReadsA w' va' ats ∧ Reads w' vc' (c ++ [12])) ∧ (¬ negFault ats c = 0 → va' = .slice none 0 0 ∧ vc' = .slice none 0 0) ∧ Below w.heap.size w w' := by
  by_cases hf : formFault ats c = 0
  · by_cases h19 : 19 < c.length
    · have e0 : negFault ats c = 4 := by unfold negFault; rw [if_pos hf, if_pos h19]
      have h20 : c.length = 20 := by have := (formFault_zero.1 hf).2.1; omega
      rw [e0]
      refine (refNegate_full va vc ats c w hA hC hf h20).mono ?_
      rintro e w' ⟨rfl, hb⟩
      exact ⟨_, _, rfl, fun h => (by cases h), fun _ => ⟨rfl, rfl⟩, hb⟩
    · have e0 : negFault ats c = 0 := by unfold negFault; rw [if_pos hf, if_neg h19]
      rw [e0]
      refine (refNegate_good va vc ats c w hA hC hf (by omega)).mono ?_
      rintro e w' ⟨vc', rfl, hr, hb⟩
      exact ⟨_, _, rfl, fun _ => ⟨hA.below hb, hr⟩, fun h => absurd rfl h, hb⟩
  · have e0 : negFault ats c = formFault ats c := by unfold negFault; rw [if_neg hf]
    rw [e0]
    refine (refNegate_bad va vc ats c w hA hC hf).mono ?_
    rintro e w' ⟨rfl, hb⟩
    exact ⟨_, _, rfl, fun h => absurd h hf, fun _ => ⟨rfl, rfl⟩, hb⟩
end Go.Proofs.YtedgbohobgnedaeGreatDoor
