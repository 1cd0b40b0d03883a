/-
  Proved: what model.Of returns, of any formula and any number of things, where cubes.Of answers as chapter 5 says; what was in memory is as it was (the walks that the contracts of package model lean on).
  Proved: what model.Against and model.Sure return, where form.Negate and model.Of answer as chapters 4 and 9 say; what was in memory is as it was (the walks that the contracts of package model lean on).
  Proved: what model.Of, model.Against and model.Sure return, of any formula and any number of things; what was in memory is as it was (contracts that the statements lean on).
-/
import Derived.Test.YtgkgbpbohgklhafGreatDoorLibMB1
import Derived.Test.YtgkgbpbohgklhafGreatDoorLibPB4
import Derived.Test.YtgkgbpbohgklhafGreatDoorLibPB10
import Derived.Test.YtgkgbpbohgklhafGreatDoorLibPB21
namespace Go.Proofs.YtgkgbpbohgklhafGreatDoor
open Go.ChangeShapes Go.WideShapes Go.ChangeAt Go.RowKit
set_option maxRecDepth 100000

theorem modelL_at {ats : List At} {u : Nat} {N : Nat → Int} {d : List Int} : ∀ {L : List (List Int)} {i : Nat}, L[i]? = some d → (∀ j, j < i → ∀ e, L[j]? = some e → (everyC u).find? (fitB (cubeR ats e)) = none) → (everyC u).find? (fitB (cubeR ats d)) = some N → modelL ats u L = some N := by
  intro L
  induction L with
  | nil => intro i h; simp at h
  | cons e L ih =>
    intro i h h1 h2
    unfold modelL
    cases i with
    | zero =>
      obtain rfl : e = d := by simpa using h
      rw [h2]
    | succ i =>
      rw [h1 0 (by omega) e rfl]
      exact ih (i := i) (by simpa using h) (fun j hj e' he' => h1 (j + 1) (by omega) e' (by simpa using he')) h2
theorem modelL_end {ats : List At} {u : Nat} : ∀ {L : List (List Int)}, (∀ j, j < L.length → ∀ e, L[j]? = some e → (everyC u).find? (fitB (cubeR ats e)) = none) → modelL ats u L = none := by
  intro L
  induction L with
  | nil => intro _; rfl
  | cons e L ih =>
    intro h
    unfold modelL
    rw [h 0 (by simp) e rfl]
    exact ih fun j hj e' he' => h (j + 1) (by simp; omega) e' (by simpa using he')
theorem okB_zero {u : Int} (h : 0 ≤ u ∧ u ≤ 6) : okB u 0 = true := by
  obtain ⟨n, rfl⟩ := Int.eq_ofNat_of_zero_le h.1
  have : ∀ n : Nat, n < 7 → okB (n : Int) 0 = true := by decide
  exact this n (by omega)
theorem okB_out {u : Int} (h : ¬ (0 ≤ u ∧ u ≤ 6)) : okB u 0 = false := by
  unfold okB
  exact decide_eq_false fun g => h ⟨g.1, g.2.1⟩

-- a formula whose cubes are told as an error
set_option maxHeartbeats 4000000 in
theorem modelOf_err (ao : Option Addr) (al acap : Nat) (co : Option Addr) (cl ccap : Nat) (u n : Int) (w : World)
    (hCu : ∀ W, Below w.heap.size w W → Calls Tryz.prog 36 #[.agg #[.slice ao al acap, .slice co cl ccap]] W fun e w' => e = .returned (.tuple #[.slice none 0 0, .iface 61 (.int .i64 n)]) ∧ Below W.heap.size W w') :
    Calls Tryz.prog 14 #[.agg #[.slice ao al acap, .slice co cl ccap], .int .i64 u] w fun e w' => e = .returned (.tuple #[.agg (arrW ⟨0, 0, 0, 0⟩), .iface 61 (.int .i64 n)]) ∧ Below w.heap.size w w' := by
  have HCu : Hid (∀ W, Below w.heap.size w W → Calls Tryz.prog 36 #[.agg #[.slice ao al acap, .slice co cl ccap]] W fun e w' => e = .returned (.tuple #[.slice none 0 0, .iface 61 (.int .i64 n)]) ∧ Below W.heap.size W w') := hCu
  clear hCu
  obtain ⟨w1, hw1⟩ : ∃ w1, w1 = (w.alloc (.cells #[.slice ao al acap, .slice co cl ccap] 29)).alloc (.cells #[.int .i64 0, .int .i64 0, .int .i64 0, .int .i64 0] 37) := ⟨_, rfl⟩
  have HB1 : Hid (Below w.heap.size w w1) := by unfold Hid; rw [hw1]; exact (below_alloc1 _ _).alloc (by simp) _
  have HP0 : Hid (Blk w1 w.heap.size 29 #[.slice ao al acap, .slice co cl ccap]) := by unfold Hid; rw [hw1]; exact (Blk.new _ _ _).old _
  have HP1 : Hid (Blk w1 (w.heap.size + 1) 37 (arrW ⟨0, 0, 0, 0⟩)) := by
    unfold Hid; rw [hw1]
    have := Blk.new (w.alloc (.cells #[.slice ao al acap, .slice co cl ccap] 29)) 37 (arrW ⟨0, 0, 0, 0⟩)
    simp only [World.size_alloc] at this
    exact this
  have x0 : w1.cell? ⟨w.heap.size, 0, none⟩ = some (.slice ao al acap) := HP0.out.cell 0
  have x1 : w1.cell? ⟨w.heap.size, 1, none⟩ = some (.slice co cl ccap) := HP0.out.cell 1
  go_enter Tryz.func14, Tryz.ntmps14
  go_wp2_with fail
  rw [← hw1]
  clear hw1
  go_wp2_with fail
  go_at_call 36
  refine (HCu.out _ HB1.out).mono ?_
  rintro e w2 ⟨rfl, hb⟩
  have HB2 : Hid (Below w.heap.size w w2) := HB1.out.trans (hb.mono HB1.out.size)
  have HP2 : Hid (Blk w2 (w.heap.size + 1) 37 (arrW ⟨0, 0, 0, 0⟩)) := HP1.out.below hb
  clear hb x0 x1
  have p0 : w2.cell? ⟨w.heap.size + 1, 0, none⟩ = some (.int .i64 0) := HP2.out.cell 0
  have p1 : w2.cell? ⟨w.heap.size + 1, 1, none⟩ = some (.int .i64 0) := HP2.out.cell 1
  have p2 : w2.cell? ⟨w.heap.size + 1, 2, none⟩ = some (.int .i64 0) := HP2.out.cell 2
  have p3 : w2.cell? ⟨w.heap.size + 1, 3, none⟩ = some (.int .i64 0) := HP2.out.cell 3
  obtain ⟨q0, q1, q2, q3⟩ := HP2.out.frozen4
  go_wp2
  have hld := loadW (putW_blk HP2.out ⟨0, 0, 0, 0⟩)
  refine bodyPost_ret (v := .tuple #[.agg (arrW ⟨0, 0, 0, 0⟩), .iface 61 (.int .i64 n)]) ?_ rfl ⟨rfl, ?_⟩
  · rw [results_cell_tmp rfl]
    unfold putW arrW at hld
    simp only at hld
    simp [asAddr, Result.andThen, hld, arrW]
  · exact putW_below HB2.out (by omega) ⟨0, 0, 0, 0⟩

-- a formula with cubes, and no number of things
set_option maxHeartbeats 4000000 in
theorem modelOf_out (ao : Option Addr) (al acap : Nat) (co : Option Addr) (cl ccap : Nat) (u : Int) (hu : ¬ (0 ≤ u ∧ u ≤ 6)) (w : World)
    (hCu : ∀ W, Below w.heap.size w W → Calls Tryz.prog 36 #[.agg #[.slice ao al acap, .slice co cl ccap]] W fun e w' => ∃ lo ll lcap, e = .returned (.tuple #[.slice lo ll lcap, .nilIface]) ∧ Below W.heap.size W w') :
    Calls Tryz.prog 14 #[.agg #[.slice ao al acap, .slice co cl ccap], .int .i64 u] w fun e w' => e = .returned (.tuple #[.agg (arrW ⟨0, 0, 0, 0⟩), .iface 61 (.int .i64 1)]) ∧ Below w.heap.size w w' := by
  have HCu : Hid (∀ W, Below w.heap.size w W → Calls Tryz.prog 36 #[.agg #[.slice ao al acap, .slice co cl ccap]] W fun e w' => ∃ lo ll lcap, e = .returned (.tuple #[.slice lo ll lcap, .nilIface]) ∧ Below W.heap.size W w') := hCu
  have HCk : Hid (∀ W, Calls Tryz.prog 37 #[.int .i64 u, .int .i64 0] W fun e w' => e = .returned (.iface 61 (.int .i64 1)) ∧ W = w') := fun W => check_no u 0 (okB_out hu) W
  clear hCu hu
  obtain ⟨w1, hw1⟩ : ∃ w1, w1 = (w.alloc (.cells #[.slice ao al acap, .slice co cl ccap] 29)).alloc (.cells #[.int .i64 0, .int .i64 0, .int .i64 0, .int .i64 0] 37) := ⟨_, rfl⟩
  have HB1 : Hid (Below w.heap.size w w1) := by unfold Hid; rw [hw1]; exact (below_alloc1 _ _).alloc (by simp) _
  have HP0 : Hid (Blk w1 w.heap.size 29 #[.slice ao al acap, .slice co cl ccap]) := by unfold Hid; rw [hw1]; exact (Blk.new _ _ _).old _
  have HP1 : Hid (Blk w1 (w.heap.size + 1) 37 (arrW ⟨0, 0, 0, 0⟩)) := by
    unfold Hid; rw [hw1]
    have := Blk.new (w.alloc (.cells #[.slice ao al acap, .slice co cl ccap] 29)) 37 (arrW ⟨0, 0, 0, 0⟩)
    simp only [World.size_alloc] at this
    exact this
  have x0 : w1.cell? ⟨w.heap.size, 0, none⟩ = some (.slice ao al acap) := HP0.out.cell 0
  have x1 : w1.cell? ⟨w.heap.size, 1, none⟩ = some (.slice co cl ccap) := HP0.out.cell 1
  go_enter Tryz.func14, Tryz.ntmps14
  go_wp2_with fail
  rw [← hw1]
  clear hw1
  go_wp2_with fail
  go_at_call 36
  refine (HCu.out _ HB1.out).mono ?_
  rintro e w2 ⟨lo, ll, lcap, rfl, hb⟩
  have HB2 : Hid (Below w.heap.size w w2) := HB1.out.trans (hb.mono HB1.out.size)
  have HP2 : Hid (Blk w2 (w.heap.size + 1) 37 (arrW ⟨0, 0, 0, 0⟩)) := HP1.out.below hb
  clear hb x0 x1
  go_wp2_with fail
  go_at_call 37
  refine (HCk.out _).mono ?_
  rintro e w3 ⟨rfl, rfl⟩
  have p0 : w2.cell? ⟨w.heap.size + 1, 0, none⟩ = some (.int .i64 0) := HP2.out.cell 0
  have p1 : w2.cell? ⟨w.heap.size + 1, 1, none⟩ = some (.int .i64 0) := HP2.out.cell 1
  have p2 : w2.cell? ⟨w.heap.size + 1, 2, none⟩ = some (.int .i64 0) := HP2.out.cell 2
  have p3 : w2.cell? ⟨w.heap.size + 1, 3, none⟩ = some (.int .i64 0) := HP2.out.cell 3
  obtain ⟨q0, q1, q2, q3⟩ := HP2.out.frozen4
  go_wp2
  have hld := loadW (putW_blk HP2.out ⟨0, 0, 0, 0⟩)
  refine bodyPost_ret (v := .tuple #[.agg (arrW ⟨0, 0, 0, 0⟩), .iface 61 (.int .i64 1)]) ?_ rfl ⟨rfl, ?_⟩
  · rw [results_cell_tmp rfl]
    unfold putW arrW at hld
    simp only at hld
    simp [asAddr, Result.andThen, hld, arrW]
  · exact putW_below HB2.out (by omega) ⟨0, 0, 0, 0⟩

-- a formula with cubes, and a number of things
set_option maxHeartbeats 8000000 in
theorem modelOf_in (n : Nat) (hn : n ≤ 6) (ats : List At) (c : List Int) (L : List (List Int)) (ao : Option Addr) (acap : Nat) (co : Option Addr) (ccap : Nat) (w : World)
    (hA : ReadsA w (.slice ao ats.length acap) ats) (hK : KindsLaid w) (hT : TimesLaid w) (hg : Laid w) (hf : formFault ats c = 0) (hL : cubesC c = some L)
    (hCu : ∀ W, Below w.heap.size w W → Calls Tryz.prog 36 #[.agg #[.slice ao ats.length acap, .slice co c.length ccap]] W fun e w' => ∃ lo lcap, e = .returned (.tuple #[.slice lo L.length lcap, .nilIface]) ∧ RS2 (fun _ => True) w' (.slice lo L.length lcap) L ∧ Below W.heap.size W w') :
    Calls Tryz.prog 14 #[.agg #[.slice ao ats.length acap, .slice co c.length ccap], .int .i64 n] w fun e w' =>
      ((∃ N, modelL ats n L = some N ∧ e = .returned (.tuple #[.agg (arrW (madeN N 8)), .nilIface])) ∨ (modelL ats n L = none ∧ e = .returned (.tuple #[.agg (arrW ⟨0, 0, 0, 0⟩), .iface 61 (.int .i64 5)]))) ∧ Below w.heap.size w w' := by
  obtain ⟨⟨hM1, hM6⟩, _, hflt, _, _⟩ := formFault_zero.1 hf
  obtain ⟨hok, hL40, _⟩ := cubes_say [] hf hL
  obtain ⟨q, hq⟩ : ∃ q : List Int → Option (Nat → Int), q = fun d => (everyC n).find? (fitB (cubeR ats d)) := ⟨_, rfl⟩
  have HFound : Hid (∀ (i : Nat) (d : List Int) (N : Nat → Int), L[i]? = some d → (∀ j, j < i → ∀ e, L[j]? = some e → q e = none) → q d = some N → modelL ats n L = some N) := fun i d N h1 h2 h3 => by
    rw [hq] at h2 h3
    exact modelL_at h1 h2 h3
  have HNone : Hid ((∀ j, j < L.length → ∀ e, L[j]? = some e → q e = none) → modelL ats n L = none) := fun h => by
    rw [hq] at h
    exact modelL_end h
  have HCu : Hid (∀ W, Below w.heap.size w W → Calls Tryz.prog 36 #[.agg #[.slice ao ats.length acap, .slice co c.length ccap]] W fun e w' => ∃ lo lcap, e = .returned (.tuple #[.slice lo L.length lcap, .nilIface]) ∧ RS2 (fun _ => True) w' (.slice lo L.length lcap) L ∧ Below W.heap.size W w') := hCu
  have HCk : Hid (∀ W, Calls Tryz.prog 37 #[.int .i64 n, .int .i64 0] W fun e w' => e = .returned .nilIface ∧ W = w') := fun W => check_ok n 0 (okB_zero ⟨by omega, by omega⟩) W
  have HFi : Hid (∀ (k : Nat) d dao dcap W, L[k]? = some d → Below w.heap.size w W → Reads W (.slice dao d.length dcap) d → Calls Tryz.prog 38 #[.slice ao ats.length acap, .slice dao d.length dcap, .int .i64 n] W fun e w' => ((∃ N, q d = some N ∧ e = .returned (.tuple #[.agg (arrW (madeN N 8)), .nilIface])) ∨ (q d = none ∧ e = .returned (.tuple #[.agg (arrW ⟨0, 0, 0, 0⟩), .iface 61 (.int .i64 5)]))) ∧ Below W.heap.size W w') := fun k d dao dcap W hd hW hR => by
    rw [hq]
    exact mfirst_any n hn ats d ao acap dao dcap W (hA.below hW) hR (hK.below hW) (hT.below hW) hflt hM6 (hok.1 d (List.mem_of_getElem? hd))
  have HIs : Hid (∀ W, Below w.heap.size w W → Calls Tryz.prog 39 #[.iface 61 (.int .i64 5)] W fun e w' => e = .returned (.bool true) ∧ Below W.heap.size W w') := fun W hW => isNone_err 5 W (hg.below hW)
  obtain ⟨w1, hw1⟩ : ∃ w1, w1 = (w.alloc (.cells #[.slice ao ats.length acap, .slice co c.length ccap] 29)).alloc (.cells #[.int .i64 0, .int .i64 0, .int .i64 0, .int .i64 0] 37) := ⟨_, rfl⟩
  have HB1 : Hid (Below w.heap.size w w1) := by unfold Hid; rw [hw1]; exact (below_alloc1 _ _).alloc (by simp) _
  have HP0 : Hid (Blk w1 w.heap.size 29 #[.slice ao ats.length acap, .slice co c.length ccap]) := by unfold Hid; rw [hw1]; exact (Blk.new _ _ _).old _
  have HP1 : Hid (Blk w1 (w.heap.size + 1) 37 (arrW ⟨0, 0, 0, 0⟩)) := by
    unfold Hid; rw [hw1]
    have := Blk.new (w.alloc (.cells #[.slice ao ats.length acap, .slice co c.length ccap] 29)) 37 (arrW ⟨0, 0, 0, 0⟩)
    simp only [World.size_alloc] at this
    exact this
  obtain ⟨M, hMe⟩ : ∃ M, M = ats.length := ⟨_, rfl⟩
  obtain ⟨nc, hnc⟩ : ∃ x, x = c.length := ⟨_, rfl⟩
  rw [← hMe, ← hnc] at HCu HP0 hw1 ⊢
  rw [← hMe] at HFi
  clear hCu hq hA hK hT hg hf hL hM1 hM6 hflt hok hMe hnc
  have x0 : w1.cell? ⟨w.heap.size, 0, none⟩ = some (.slice ao M acap) := HP0.out.cell 0
  have x1 : w1.cell? ⟨w.heap.size, 1, none⟩ = some (.slice co nc ccap) := HP0.out.cell 1
  go_enter Tryz.func14, Tryz.ntmps14
  go_wp2_with fail
  rw [← hw1]
  clear hw1
  go_wp2_with fail
  go_at_call 36
  refine (HCu.out _ HB1.out).mono ?_
  rintro e w3 ⟨lo, lcap, rfl, hR3, hb⟩
  have HB3 : Hid (Below w.heap.size w w3) := HB1.out.trans (hb.mono HB1.out.size)
  have HP03 : Hid (Blk w3 w.heap.size 29 #[.slice ao M acap, .slice co nc ccap]) := HP0.out.below hb
  have HP13 : Hid (Blk w3 (w.heap.size + 1) 37 (arrW ⟨0, 0, 0, 0⟩)) := HP1.out.below hb
  have HR3 : Hid (RS2 (fun _ => True) w3 (.slice lo L.length lcap) L) := hR3
  clear hb x0 x1 hR3
  go_wp2_with fail
  go_at_call 37
  refine (HCk.out _).mono ?_
  rintro e w4 ⟨rfl, rfl⟩
  go_wp2
  go_loopw [30] (fun i wr => ∃ k : Nat, k ≤ L.length ∧ i = .int .i64 k ∧ Below w3.heap.size w3 wr ∧ ∀ j, j < k → ∀ e, L[j]? = some e → q e = none) (fun i _ => L.length - (intOf i).toNat)
  case atStart => exact ⟨0, Nat.zero_le _, rfl, Below.refl _ _, fun j hj => by omega⟩
  case round =>
    obtain ⟨k, hk, rfl, hbr, hno⟩ := hrel
    have HBr : Hid (Below w3.heap.size w3 wr) := hbr
    have HNo : Hid (∀ j, j < k → ∀ e, L[j]? = some e → q e = none) := hno
    clear hbr hno
    have HP1r : Hid (Blk wr (w.heap.size + 1) 37 (arrW ⟨0, 0, 0, 0⟩)) := HP13.out.below HBr.out
    have HBw : Hid (Below w.heap.size w wr) := HB3.out.trans (HBr.out.mono HB3.out.size)
    by_cases hlt : k < L.length
    · obtain ⟨d, hd⟩ : ∃ d, L[k]? = some d := ⟨_, List.getElem?_eq_getElem hlt⟩
      have HD : Hid (L[k]? = some d) := hd
      clear hd
      obtain ⟨bL, oL, hlo, hbL, vd, hvd, hrs⟩ : ∃ bL oL, lo = some ⟨bL, oL, none⟩ ∧ bL < w3.heap.size ∧ ∃ vd, w3.cell? ⟨bL, oL + k, none⟩ = some vd ∧ RS (fun _ => True) w3 vd d := by
        rcases HR3.out with ⟨ao', cap, hv, h0⟩ | ⟨b, off, cap, hv, ⟨_, hb⟩, _, _, hcell⟩
        · rw [h0] at hlt; simp at hlt
        · obtain ⟨h1, _, _⟩ := Value.slice.inj hv
          obtain ⟨vd, h2, h3⟩ := hcell k d HD.out
          exact ⟨b, off, h1, hb, vd, h2, h3⟩
      subst hlo
      obtain ⟨dao, dcap, rfl, _⟩ := hrs.slice
      have y : wr.cell? ⟨bL, oL + k, none⟩ = some (.slice dao d.length dcap) := (HBr.out.cell hbL).trans hvd
      have HF : Hid (Calls Tryz.prog 38 #[.slice ao M acap, .slice dao d.length dcap, .int .i64 n] wr fun e w' => ((∃ N, q d = some N ∧ e = .returned (.tuple #[.agg (arrW (madeN N 8)), .nilIface])) ∨ (q d = none ∧ e = .returned (.tuple #[.agg (arrW ⟨0, 0, 0, 0⟩), .iface 61 (.int .i64 5)]))) ∧ Below wr.heap.size wr w') := HFi.out k d dao dcap wr HD.out HBw.out (hrs.reads.below HBr.out)
      clear hvd hrs hbL
      obtain ⟨nd, hnd⟩ : ∃ x, x = d.length := ⟨_, rfl⟩
      rw [← hnd] at y HF
      clear hnd
      have x0 : wr.cell? ⟨w.heap.size, 0, none⟩ = some (.slice ao M acap) := (HP03.out.below HBr.out).cell 0
      go_wp2_with fail
      go_at_call 38
      refine HF.out.mono ?_
      rintro e w5 ⟨hor, hb⟩
      have HB5 : Hid (Below w3.heap.size w3 w5) := HBr.out.trans (hb.mono HBr.out.size)
      have HBw5 : Hid (Below w.heap.size w w5) := HBw.out.trans (hb.mono HBw.out.size)
      have HP15 : Hid (Blk w5 (w.heap.size + 1) 37 (arrW ⟨0, 0, 0, 0⟩)) := HP1r.out.below hb
      clear hb x0 y
      rcases hor with ⟨N, hN, rfl⟩ | ⟨hN, rfl⟩
      · have HFo : Hid (modelL ats n L = some N) := HFound.out k d N HD.out HNo.out hN
        clear hN
        obtain ⟨D, hDe⟩ : ∃ D, D = madeN N 8 := ⟨_, rfl⟩
        rw [← hDe]
        have HDe : Hid (D = madeN N 8) := hDe
        clear hDe
        obtain ⟨w6, hw6⟩ : ∃ w6, w6 = w5.alloc (.cells (arrW D) 37) := ⟨_, rfl⟩
        have HB6 : Hid (Below w.heap.size w w6) := by unfold Hid; rw [hw6]; exact HBw5.out.alloc HBw5.out.size _
        have HP6 : Hid (Blk w6 (w.heap.size + 1) 37 (arrW ⟨0, 0, 0, 0⟩)) := by unfold Hid; rw [hw6]; exact HP15.out.old _
        have HQ6 : Hid (Blk w6 w5.heap.size 37 (arrW D)) := by unfold Hid; rw [hw6]; exact Blk.new _ _ _
        unfold arrW at hw6
        simp only [arrW]
        go_upto_region 11 with fail
        rw [← hw6]
        clear hw6
        go_wp2_with fail
        go_at_call 39
        refine (isNone_nil _).mono ?_
        rintro e w7 ⟨rfl, hb⟩
        have HB7 : Hid (Below w.heap.size w w7) := HB6.out.trans (hb.mono HB6.out.size)
        have HP7 : Hid (Blk w7 (w.heap.size + 1) 37 (arrW ⟨0, 0, 0, 0⟩)) := HP6.out.below hb
        have HQ7 : Hid (Blk w7 w5.heap.size 37 (arrW D)) := HQ6.out.below hb
        clear hb
        have p0 : w7.cell? ⟨w.heap.size + 1, 0, none⟩ = some (.int .i64 0) := HP7.out.cell 0
        have p1 : w7.cell? ⟨w.heap.size + 1, 1, none⟩ = some (.int .i64 0) := HP7.out.cell 1
        have p2 : w7.cell? ⟨w.heap.size + 1, 2, none⟩ = some (.int .i64 0) := HP7.out.cell 2
        have p3 : w7.cell? ⟨w.heap.size + 1, 3, none⟩ = some (.int .i64 0) := HP7.out.cell 3
        obtain ⟨q0, q1, q2, q3⟩ := HP7.out.frozen4
        obtain ⟨d0, d1, d2, d3⟩ := HQ7.out.cells4
        go_wp2
        have hld := loadW (putW_blk HP7.out D)
        refine bodyPost_ret (v := .tuple #[.agg (arrW D), .nilIface]) ?_ rfl ⟨Or.inl ⟨N, HFo.out, by rw [← HDe.out]⟩, ?_⟩
        · rw [results_cell_tmp rfl]
          unfold putW at hld
          simp [asAddr, Result.andThen, hld]
        · exact putW_below HB7.out (by omega) D
      · have HN1 : Hid (∀ j, j < k + 1 → ∀ e, L[j]? = some e → q e = none) := fun j hj e he => by
          rcases Nat.lt_or_ge j k with h | h
          · exact HNo.out j h e he
          · obtain rfl : j = k := by omega
            have e2 := HD.out.symm.trans he
            rw [← Option.some.inj e2]
            exact hN
        clear hN
        obtain ⟨w6, hw6⟩ : ∃ w6, w6 = w5.alloc (.cells (arrW ⟨0, 0, 0, 0⟩) 37) := ⟨_, rfl⟩
        have HB6 : Hid (Below w3.heap.size w3 w6) := by unfold Hid; rw [hw6]; exact HB5.out.alloc HB5.out.size _
        have HBw6 : Hid (Below w.heap.size w w6) := HB3.out.trans (HB6.out.mono HB3.out.size)
        simp only [arrW] at hw6 ⊢
        go_upto_region 11 with fail
        rw [← hw6]
        clear hw6
        go_wp2_with fail
        go_at_call 39
        refine (HIs.out _ HBw6.out).mono ?_
        rintro e w7 ⟨rfl, hb⟩
        have HB7 : Hid (Below w3.heap.size w3 w7) := HB6.out.trans (hb.mono HB6.out.size)
        clear hb
        go_wp2
        go_roundw
        case rel => exact ⟨k + 1, by omega, by go_num, HB7.out, HN1.out⟩
        case measure => simp [intOf]; omega
    · obtain rfl : k = L.length := by omega
      have HE : Hid (modelL ats n L = none) := HNone.out HNo.out
      have p0 : wr.cell? ⟨w.heap.size + 1, 0, none⟩ = some (.int .i64 0) := HP1r.out.cell 0
      have p1 : wr.cell? ⟨w.heap.size + 1, 1, none⟩ = some (.int .i64 0) := HP1r.out.cell 1
      have p2 : wr.cell? ⟨w.heap.size + 1, 2, none⟩ = some (.int .i64 0) := HP1r.out.cell 2
      have p3 : wr.cell? ⟨w.heap.size + 1, 3, none⟩ = some (.int .i64 0) := HP1r.out.cell 3
      obtain ⟨q0, q1, q2, q3⟩ := HP1r.out.frozen4
      go_wp2
      have hld := loadW (putW_blk HP1r.out ⟨0, 0, 0, 0⟩)
      refine bodyPost_ret (v := .tuple #[.agg (arrW ⟨0, 0, 0, 0⟩), .iface 61 (.int .i64 5)]) ?_ rfl ⟨Or.inr ⟨HE.out, rfl⟩, ?_⟩
      · rw [results_cell_tmp rfl]
        unfold putW arrW at hld
        simp only at hld
        simp [asAddr, Result.andThen, hld, arrW]
      · exact putW_below HBw.out (by omega) ⟨0, 0, 0, 0⟩
end Go.Proofs.YtgkgbpbohgklhafGreatDoor

namespace Go.Proofs.YtgkgbpbohgklhafGreatDoor
open Go.ChangeShapes Go.WideShapes Go.ChangeAt Go.RowKit
set_option maxRecDepth 100000

set_option maxHeartbeats 4000000 in
theorem sure_bad (ao : Option Addr) (al acap : Nat) (co : Option Addr) (cl ccap : Nat) (u : Int) (n : Int) (w : World) (hN : ∀ W, Below w.heap.size w W → Calls Tryz.prog 13 #[.agg #[.slice ao al acap, .slice co cl ccap]] W fun e w' => e = .returned (.tuple #[.agg #[.slice none 0 0, .slice none 0 0], .iface 61 (.int .i64 n)]) ∧ Below W.heap.size W w') :
    Calls Tryz.prog 21 #[.agg #[.slice ao al acap, .slice co cl ccap], .int .i64 u] w fun e w' => e = .returned (.tuple #[.bool false, .iface 61 (.int .i64 n)]) ∧ Below w.heap.size w w' := by
  have HN : Hid (∀ W, Below w.heap.size w W → Calls Tryz.prog 13 #[.agg #[.slice ao al acap, .slice co cl ccap]] W fun e w' => e = .returned (.tuple #[.agg #[.slice none 0 0, .slice none 0 0], .iface 61 (.int .i64 n)]) ∧ Below W.heap.size W w') := hN
  clear hN
  obtain ⟨w1, hw1⟩ : ∃ w1, w1 = w.alloc (.cells #[.slice ao al acap, .slice co cl ccap] 29) := ⟨_, rfl⟩
  have HB1 : Hid (Below w.heap.size w w1) := by unfold Hid; rw [hw1]; exact below_alloc1 _ _
  have HP0 : Hid (Blk w1 w.heap.size 29 #[.slice ao al acap, .slice co cl ccap]) := by unfold Hid; rw [hw1]; exact Blk.new _ _ _
  have x0 : w1.cell? ⟨w.heap.size, 0, none⟩ = some (.slice ao al acap) := HP0.out.cell 0
  have x1 : w1.cell? ⟨w.heap.size, 1, none⟩ = some (.slice co cl ccap) := HP0.out.cell 1
  go_enter Tryz.func21, Tryz.ntmps21
  go_wp2_with fail
  rw [← hw1]
  clear hw1
  go_wp2_with fail
  go_at_call 13
  refine (HN.out _ HB1.out).mono ?_
  rintro e w2 ⟨rfl, hb⟩
  have HB2 : Hid (Below w.heap.size w w2) := HB1.out.trans (hb.mono HB1.out.size)
  clear hb x0 x1
  obtain ⟨w3, hw3⟩ : ∃ w3, w3 = w2.alloc (.cells #[.slice none 0 0, .slice none 0 0] 29) := ⟨_, rfl⟩
  have HB3 : Hid (Below w.heap.size w w3) := by unfold Hid; rw [hw3]; exact HB2.out.alloc HB2.out.size _
  go_upto_region 2 with fail
  rw [← hw3]
  clear hw3
  go_wp2
  go_ret2
  exact ⟨rfl, HB3.out⟩

set_option maxHeartbeats 4000000 in
theorem sure_good (ao : Option Addr) (al acap : Nat) (co : Option Addr) (cl ccap : Nat) (u : Int) (D : Wd) (E : Value) (b : Bool) (w : World) (hN : ∀ W, Below w.heap.size w W → Calls Tryz.prog 13 #[.agg #[.slice ao al acap, .slice co cl ccap]] W fun e w' => ∃ o1 l1 q1 o2 l2 q2, e = .returned (.tuple #[.agg #[.slice o1 l1 q1, .slice o2 l2 q2], .nilIface]) ∧ (∀ W', Below w'.heap.size w' W' → Calls Tryz.prog 14 #[.agg #[.slice o1 l1 q1, .slice o2 l2 q2], .int .i64 u] W' fun e' w'' => e' = .returned (.tuple #[.agg #[.int .i64 D.u, .int .i64 D.a, .int .i64 D.b, .int .i64 D.c], E]) ∧ Below W'.heap.size W' w'') ∧ Below W.heap.size W w')
    (hI : ∀ W, Below w.heap.size w W → Calls Tryz.prog 39 #[E] W fun e w' => e = .returned (.bool b) ∧ Below W.heap.size W w') :
    Calls Tryz.prog 21 #[.agg #[.slice ao al acap, .slice co cl ccap], .int .i64 u] w fun e w' => e = .returned (.tuple #[.bool b, if b = true then .nilIface else E]) ∧ Below w.heap.size w w' := by
  have HN : Hid (∀ W, Below w.heap.size w W → Calls Tryz.prog 13 #[.agg #[.slice ao al acap, .slice co cl ccap]] W fun e w' => ∃ o1 l1 q1 o2 l2 q2, e = .returned (.tuple #[.agg #[.slice o1 l1 q1, .slice o2 l2 q2], .nilIface]) ∧ (∀ W', Below w'.heap.size w' W' → Calls Tryz.prog 14 #[.agg #[.slice o1 l1 q1, .slice o2 l2 q2], .int .i64 u] W' fun e' w'' => e' = .returned (.tuple #[.agg #[.int .i64 D.u, .int .i64 D.a, .int .i64 D.b, .int .i64 D.c], E]) ∧ Below W'.heap.size W' w'') ∧ Below W.heap.size W w') := hN
  have HI : Hid (∀ W, Below w.heap.size w W → Calls Tryz.prog 39 #[E] W fun e w' => e = .returned (.bool b) ∧ Below W.heap.size W w') := hI
  clear hN hI
  obtain ⟨w1, hw1⟩ : ∃ w1, w1 = w.alloc (.cells #[.slice ao al acap, .slice co cl ccap] 29) := ⟨_, rfl⟩
  have HB1 : Hid (Below w.heap.size w w1) := by unfold Hid; rw [hw1]; exact below_alloc1 _ _
  have HP0 : Hid (Blk w1 w.heap.size 29 #[.slice ao al acap, .slice co cl ccap]) := by unfold Hid; rw [hw1]; exact Blk.new _ _ _
  have x0 : w1.cell? ⟨w.heap.size, 0, none⟩ = some (.slice ao al acap) := HP0.out.cell 0
  have x1 : w1.cell? ⟨w.heap.size, 1, none⟩ = some (.slice co cl ccap) := HP0.out.cell 1
  go_enter Tryz.func21, Tryz.ntmps21
  go_wp2_with fail
  rw [← hw1]
  clear hw1
  go_wp2_with fail
  go_at_call 13
  refine (HN.out _ HB1.out).mono ?_
  rintro e w2 ⟨o1, l1, c1, o2, l2, c2, rfl, hO, hb⟩
  have HO : Hid (∀ W', Below w2.heap.size w2 W' → Calls Tryz.prog 14 #[.agg #[.slice o1 l1 c1, .slice o2 l2 c2], .int .i64 u] W' fun e' w'' => e' = .returned (.tuple #[.agg #[.int .i64 D.u, .int .i64 D.a, .int .i64 D.b, .int .i64 D.c], E]) ∧ Below W'.heap.size W' w'') := hO
  have HB2 : Hid (Below w.heap.size w w2) := HB1.out.trans (hb.mono HB1.out.size)
  clear hb hO x0 x1
  obtain ⟨w3, hw3⟩ : ∃ w3, w3 = w2.alloc (.cells #[.slice o1 l1 c1, .slice o2 l2 c2] 29) := ⟨_, rfl⟩
  have HB3 : Hid (Below w.heap.size w w3) := by unfold Hid; rw [hw3]; exact HB2.out.alloc HB2.out.size _
  have HB23 : Hid (Below w2.heap.size w2 w3) := by unfold Hid; rw [hw3]; exact below_alloc1 _ _
  have HF3 : Hid (Blk w3 w2.heap.size 29 #[.slice o1 l1 c1, .slice o2 l2 c2]) := by unfold Hid; rw [hw3]; exact Blk.new _ _ _
  go_upto_region 2 with fail
  rw [← hw3]
  clear hw3
  have y0 : w3.cell? ⟨w2.heap.size, 0, none⟩ = some (.slice o1 l1 c1) := HF3.out.cell 0
  have y1 : w3.cell? ⟨w2.heap.size, 1, none⟩ = some (.slice o2 l2 c2) := HF3.out.cell 1
  go_wp2_with fail
  go_at_call 14
  refine (HO.out _ HB23.out).mono ?_
  rintro e w4 ⟨rfl, hb⟩
  have HB4 : Hid (Below w.heap.size w w4) := HB3.out.trans (hb.mono HB3.out.size)
  clear hb y0 y1
  go_wp2_with fail
  go_at_call 39
  refine (HI.out _ HB4.out).mono ?_
  rintro e w5 ⟨rfl, hb⟩
  have HB5 : Hid (Below w.heap.size w w5) := HB4.out.trans (hb.mono HB4.out.size)
  clear hb
  cases b with
  | true =>
    go_wp2
    go_ret2
    exact ⟨rfl, HB5.out⟩
  | false =>
    go_wp2
    go_ret2
    exact ⟨rfl, HB5.out⟩
end Go.Proofs.YtgkgbpbohgklhafGreatDoor

namespace Go.Proofs.YtgkgbpbohgklhafGreatDoor
open Go.ChangeShapes Go.WideShapes Go.ChangeAt Go.RowKit
set_option maxRecDepth 100000

theorem modelOf_any (va vc : Value) (ats : List At) (c : List Int) (u : Int) (w : World) (hA : ReadsA w va ats) (hC : Reads w vc c) (hK : KindsLaid w) (hT : TimesLaid w) (hg : Laid w) :
    Calls Tryz.prog 14 #[.agg #[va, vc], .int .i64 u] w fun e w' => e = .returned (.tuple #[.agg (arrW (modelW ats c u)), errV (modelFault ats c u)]) ∧ Below w.heap.size w w' := by
  obtain ⟨ao, acap, rfl, _⟩ := hA.slice
  obtain ⟨co, ccap, rfl, _⟩ := hC.slice
  by_cases hf : formFault ats c = 0
  · cases hL : cubesC c with
    | none =>
      have ef : modelFault ats c u = 4 := by unfold modelFault; rw [if_pos hf, hL]
      have ew : modelW ats c u = ⟨0, 0, 0, 0⟩ := by unfold modelW; rw [if_neg (by rw [ef]; decide)]
      rw [ef, ew, errV_no (by decide)]
      refine modelOf_err ao _ acap co _ ccap u 4 w fun W hW => ?_
      have h := of_good _ _ ats c W (hA.below hW) (hC.below hW) (hK.below hW) hf
      rw [hL] at h
      exact h
    | some L =>
      have hCu : ∀ W, Below w.heap.size w W → Calls Tryz.prog 36 #[.agg #[.slice ao ats.length acap, .slice co c.length ccap]] W fun e w' => ∃ lo lcap, e = .returned (.tuple #[.slice lo L.length lcap, .nilIface]) ∧ RS2 (fun _ => True) w' (.slice lo L.length lcap) L ∧ Below W.heap.size W w' := fun W hW => by
        refine (of_good _ _ ats c W (hA.below hW) (hC.below hW) (hK.below hW) hf).mono ?_
        rintro e w' ⟨ho, hb⟩
        rw [hL] at ho
        obtain ⟨v, rfl, hr⟩ := ho
        obtain ⟨lo, lcap, rfl, _⟩ := hr.slice
        exact ⟨lo, lcap, rfl, hr.mono fun _ _ _ => trivial, hb⟩
      by_cases hu : 0 ≤ u ∧ u ≤ 6
      · obtain ⟨n, rfl⟩ := Int.eq_ofNat_of_zero_le hu.1
        refine (modelOf_in n (by omega) ats c L ao acap co ccap w hA hK hT hg hf hL hCu).mono ?_
        rintro e w' ⟨hor, hb⟩
        refine ⟨?_, hb⟩
        rcases hor with ⟨N, hN, rfl⟩ | ⟨hN, rfl⟩
        · have ef : modelFault ats c n = 0 := by unfold modelFault; rw [if_pos hf, hL]; simp only; rw [if_pos hu, Int.toNat_natCast, hN]; rfl
          have ew : modelW ats c n = madeN N 8 := by unfold modelW modelN; rw [if_pos ef, hL, Int.toNat_natCast]; simp only [Option.getD_some]; rw [hN]; rfl
          rw [ef, ew]; rfl
        · have ef : modelFault ats c n = 5 := by unfold modelFault; rw [if_pos hf, hL]; simp only; rw [if_pos hu, Int.toNat_natCast, hN]; rfl
          have ew : modelW ats c n = ⟨0, 0, 0, 0⟩ := by unfold modelW; rw [if_neg (by rw [ef]; decide)]
          rw [ef, ew, errV_no (by decide)]
      · have ef : modelFault ats c u = 1 := by unfold modelFault; rw [if_pos hf, hL]; simp only; rw [if_neg hu]
        have ew : modelW ats c u = ⟨0, 0, 0, 0⟩ := by unfold modelW; rw [if_neg (by rw [ef]; decide)]
        rw [ef, ew, errV_no (by decide)]
        refine modelOf_out ao _ acap co _ ccap u hu w fun W hW => ?_
        refine (hCu W hW).mono ?_
        rintro e w' ⟨lo, lcap, rfl, _, hb⟩
        exact ⟨lo, _, lcap, rfl, hb⟩
  · have ef : modelFault ats c u = formFault ats c := by unfold modelFault; rw [if_neg hf]
    have ew : modelW ats c u = ⟨0, 0, 0, 0⟩ := by unfold modelW; rw [if_neg (by rw [ef]; exact hf)]
    rw [ef, ew, errV_no hf]
    exact modelOf_err ao _ acap co _ ccap u _ w fun W hW => of_bad _ _ ats c W (hA.below hW) (hC.below hW) (hK.below hW) hf
theorem modelNeg_good {ats : List At} {c : List Int} {ao co : Option Addr} {acap ccap : Nat} (u : Int) {w : World} (hA : ReadsA w (.slice ao ats.length acap) ats) (hC : Reads w (.slice co c.length ccap) c) (hK : KindsLaid w) (hT : TimesLaid w) (hg : Laid w) (hn : negFault ats c = 0) :
    ∀ W, Below w.heap.size w W → Calls Tryz.prog 13 #[.agg #[.slice ao ats.length acap, .slice co c.length ccap]] W fun e w' => ∃ o1 l1 q1 o2 l2 q2, e = .returned (.tuple #[.agg #[.slice o1 l1 q1, .slice o2 l2 q2], .nilIface]) ∧ (∀ W', Below w'.heap.size w' W' → Calls Tryz.prog 14 #[.agg #[.slice o1 l1 q1, .slice o2 l2 q2], .int .i64 u] W' fun e' w'' => e' = .returned (.tuple #[.agg (arrW (modelW ats (c ++ [12]) u)), errV (modelFault ats (c ++ [12]) u)]) ∧ Below W'.heap.size W' w'') ∧ Below W.heap.size W w' := fun W hW => by
  refine (negate_any _ _ ats c W (hA.below hW) (hC.below hW) (hK.below hW)).mono ?_
  rintro e w' ⟨va', vc', rfl, hr, _, hb⟩
  obtain ⟨r1, r2⟩ := hr hn
  obtain ⟨o1, q1, rfl, _⟩ := r1.slice
  obtain ⟨o2, q2, rfl, _⟩ := r2.slice
  rw [hn]
  have hb' := hW.trans (hb.mono hW.size)
  refine ⟨o1, _, q1, o2, _, q2, rfl, fun W' hW' => ?_, hb⟩
  exact modelOf_any _ _ ats (c ++ [12]) u W' (r1.below hW') (r2.below hW') ((hK.below hb').below hW') ((hT.below hb').below hW') ((hg.below hb').below hW')
theorem modelNeg_bad {ats : List At} {c : List Int} {ao co : Option Addr} {acap ccap : Nat} {w : World} (hA : ReadsA w (.slice ao ats.length acap) ats) (hC : Reads w (.slice co c.length ccap) c) (hK : KindsLaid w) (hn : ¬ negFault ats c = 0) :
    ∀ W, Below w.heap.size w W → Calls Tryz.prog 13 #[.agg #[.slice ao ats.length acap, .slice co c.length ccap]] W fun e w' => e = .returned (.tuple #[.agg #[.slice none 0 0, .slice none 0 0], .iface 61 (.int .i64 (negFault ats c))]) ∧ Below W.heap.size W w' := fun W hW => by
  refine (negate_any _ _ ats c W (hA.below hW) (hC.below hW) (hK.below hW)).mono ?_
  rintro e w' ⟨va', vc', rfl, _, hr, hb⟩
  obtain ⟨rfl, rfl⟩ := hr hn
  rw [errV_no hn]
  exact ⟨rfl, hb⟩
theorem sure_any (va vc : Value) (ats : List At) (c : List Int) (u : Int) (w : World) (hA : ReadsA w va ats) (hC : Reads w vc c) (hK : KindsLaid w) (hT : TimesLaid w) (hg : Laid w) :
    Calls Tryz.prog 21 #[.agg #[va, vc], .int .i64 u] w fun e w' => e = .returned (.tuple #[.bool (sureB ats c u), errV (sureFault ats c u)]) ∧ Below w.heap.size w w' := by
  obtain ⟨ao, acap, rfl, _⟩ := hA.slice
  obtain ⟨co, ccap, rfl, _⟩ := hC.slice
  by_cases hn : negFault ats c = 0
  · have ea : againstFault ats c u = modelFault ats (c ++ [12]) u := by unfold againstFault; rw [if_pos hn]
    have hf := (neg_good hn).1
    by_cases h5 : modelFault ats (c ++ [12]) u = 5
    · have es : sureB ats c u = true := by unfold sureB; exact decide_eq_true ⟨by rw [ea]; exact h5, hf⟩
      have ef : sureFault ats c u = 0 := by unfold sureFault; rw [if_pos es]
      rw [es, ef]
      have hG := modelNeg_good u hA hC hK hT hg hn
      rw [h5, errV_no (by decide)] at hG
      exact sure_good ao _ acap co _ ccap u _ _ true w hG fun W hW => isNone_err 5 W (hg.below hW)
    · have es : sureB ats c u = false := by unfold sureB; exact decide_eq_false fun h => h5 (by rw [← ea]; exact h.1)
      have ef : sureFault ats c u = modelFault ats (c ++ [12]) u := by unfold sureFault; rw [if_neg (by rw [es]; decide), ea]
      rw [es, ef]
      refine sure_good ao _ acap co _ ccap u (modelW ats (c ++ [12]) u) (errV (modelFault ats (c ++ [12]) u)) false w (modelNeg_good u hA hC hK hT hg hn) fun W hW => ?_
      by_cases h0 : modelFault ats (c ++ [12]) u = 0
      · rw [h0]; exact isNone_nil W
      · rw [errV_no h0]
        have := isNone_err (modelFault ats (c ++ [12]) u) W (hg.below hW)
        rw [show (modelFault ats (c ++ [12]) u == 5) = false by simp [h5]] at this
        exact this
  · have ea : againstFault ats c u = negFault ats c := by unfold againstFault; rw [if_neg hn]
    have hff : ¬ formFault ats c = 0 ∨ ¬ againstFault ats c u = 5 := by
      rw [ea]
      by_cases h5 : negFault ats c = 5
      · left; rw [neg_five h5]; decide
      · exact Or.inr h5
    have es : sureB ats c u = false := by unfold sureB; exact decide_eq_false fun h => hff.elim (fun g => g h.2) (fun g => g h.1)
    have ef : sureFault ats c u = negFault ats c := by unfold sureFault; rw [if_neg (by rw [es]; decide), ea]
    rw [es, ef, errV_no hn]
    exact sure_bad ao _ acap co _ ccap u _ w (modelNeg_bad hA hC hK hn)
end Go.Proofs.YtgkgbpbohgklhafGreatDoor
