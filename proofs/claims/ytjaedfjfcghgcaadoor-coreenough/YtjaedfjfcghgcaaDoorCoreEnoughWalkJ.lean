/-
  Proved: vennlaw2.CoreEnough returns true where what it calls answers as chapter 13 says; what was in memory is as it was (the walk that the statement leans on).
-/
import Derived.Test.YtjaedfjfcghgcaaDoorLibA22
import Derived.Test.YtjaedfjfcghgcaaDoorLibA6
import Derived.Test.YtjaedfjfcghgcaaDoorLibA9
import Derived.Deep.RegionWith
import Derived.Deep.CutRange
import Derived.Deep.QuietTactic
import Derived.BigQuiet
namespace Go.Proofs.YtjaedfjfcghgcaaDoor
open Go.ChangeShapes Go.WideShapes Go.ChangeAt Go.RowKit
set_option maxRecDepth 100000

theorem below_drewN {B n : Nat} {a w : World} (h : Below B a w) : Below B a (w.drewN n) := ⟨h.os, h.tape, h.output, h.size, h.block⟩

set_option maxHeartbeats 16000000 in
theorem coreEnough_in (lo : Option Addr) (lcap : Nat) (fs gs : List Fm) (cs : List Int) (u : Int) (D : Wd) (E : Int) (O : Bool) (w : World)
    (hF : ReadsF w (.slice lo fs.length lcap) fs)
    (HG : Hid (E = 0 → 1 ≤ fs.length ∧ fs.length ≤ 6))
    (HFa : Hid (∀ W v, Below w.heap.size w W → ReadsF W v [enoughA, enoughA, enoughB] → Calls Tryd.prog 14 #[v, .int .i64 2] W fun e w' => (∃ b off cap, e = .returned (.tuple #[.slice (some ⟨b, off, none⟩) 2 cap, .nilIface]) ∧ w'.cell? ⟨b, off, none⟩ = some (.int .i64 1) ∧ w'.cell? ⟨b, off + 1, none⟩ = some (.int .i64 2)) ∧ Below W.heap.size W w'))
    (HOp : Hid (∀ W, Below w.heap.size w W → Calls Tryd.prog 11 #[.slice lo fs.length lcap, .int .i64 u] W fun e w' => e = .returned (.tuple #[.bool O, errV E]) ∧ Below W.heap.size W w'))
    (HHo : Hid (∀ (j : Nat) f va vc, fs[j]? = some f → ∀ W, Below w.heap.size w W → ReadsA W va f.ats → Reads W vc f.c → Calls Tryd.prog 16 #[.agg #[va, vc], .agg #[.int .i64 D.u, .int .i64 D.a, .int .i64 D.b, .int .i64 D.c]] W fun e w' => e = .returned (.tuple #[.bool (D.formIs f.ats f.c), errV (D.formFault f.ats f.c)]) ∧ Below W.heap.size W w'))
    (HAll : Hid (E = 0 → D.u = u → (∀ j, j < fs.length → ∀ f, fs[j]? = some f → D.formIs f.ats f.c = true) → O = true))
    (HOf : Hid (E = 0 → ∀ W, Below w.heap.size w W → Calls Tryd.prog 14 #[.slice lo fs.length lcap, .int .i64 u] W fun e w' => (∃ xo xl xc, e = .returned (.tuple #[.slice xo xl xc, errV (if O = true then 8 else 0)]) ∧ (O = false → Reads w' (.slice xo xl xc) cs)) ∧ Below W.heap.size W w'))
    (HEr : Hid (∀ (n : Int) W, Below w.heap.size w W → Calls Tryd.prog 12 #[errV n, .int .i64 8] W fun e w' => e = .returned (.bool (decide (n = 8))) ∧ Below W.heap.size W w'))
    (HOn : Hid (O = true → ∀ W v, Below w.heap.size w W → ReadsF W v (fs.take 1) → Calls Tryd.prog 11 #[v, .int .i64 u] W fun e w' => e = .returned (.tuple #[.bool true, .nilIface]) ∧ Below W.heap.size W w'))
    (HCs : Hid (E = 0 → O = false → gs.length = cs.length ∧ 1 ≤ cs.length ∧ cs.length ≤ 6 ∧ ∀ (k : Nat) x, cs[k]? = some x → (∃ (j : Nat) (f : Fm), x = j ∧ j < fs.length ∧ fs[j]? = some f ∧ gs[k]? = some f) ∧ (∀ y, 0 < k → cs[k - 1]? = some y → y < x)))
    (HLe : Hid (E = 0 → O = false → ∀ W v, Below w.heap.size w W → ReadsF W v gs → Calls Tryd.prog 11 #[v, .int .i64 u] W fun e w' => e = .returned (.tuple #[.bool false, .nilIface]) ∧ Below W.heap.size W w'))
    (HWo : Hid (E = 0 → O = false → ∀ W v (k : Nat), k < gs.length → 0 < (gs.take k ++ gs.drop (k + 1)).length → Below w.heap.size w W → ReadsF W v (gs.take k ++ gs.drop (k + 1)) → Calls Tryd.prog 11 #[v, .int .i64 u] W fun e w' => e = .returned (.tuple #[.bool true, .nilIface]) ∧ Below W.heap.size W w')) :
    Calls Tryd.prog 4 #[.slice lo fs.length lcap, .int .i64 u, .agg #[.int .i64 D.u, .int .i64 D.a, .int .i64 D.b, .int .i64 D.c]] w fun e w' => e = .returned (.bool true) ∧ Below w.heap.size w w' := by
  have HF : Hid (ReadsF w (.slice lo fs.length lcap) fs) := hF
  obtain ⟨n, hn⟩ : ∃ n, n = fs.length := ⟨_, rfl⟩
  have HN : Hid (n = fs.length) := hn
  rw [← hn] at HF HG HOp HAll HOf HCs ⊢
  clear hF hn
  obtain ⟨w0, hw0⟩ : ∃ x, x = w.alloc (.cells #[.int .i64 D.u, .int .i64 D.a, .int .i64 D.b, .int .i64 D.c] 37) := ⟨_, rfl⟩
  have HB0 : Hid (Below w.heap.size w w0) := by unfold Hid; rw [hw0]; exact below_alloc1 _ _
  have HD0 : Hid (Blk w0 w.heap.size 37 (arrW D)) := by unfold Hid; rw [hw0]; exact Blk.new _ _ _
  have es : w0.heap.size = w.heap.size + 1 := by rw [hw0]; exact World.size_alloc _ _
  obtain ⟨a0, a1, a2, a3, ab⟩ := four_at w0 (.cells #[.int .i64 0] 3) (.cells #[.int .i64 3, .slice (some ⟨w0.heap.size, 0, none⟩) 1 1, .slice none 0 0, .int .i64 1] 39) (.cells #[.int .i64 0] 3) (.cells #[.slice (some ⟨w0.heap.size + 1, 0, none⟩) 1 1, .slice (some ⟨w0.heap.size + 1 + 1, 0, none⟩) 1 1] 42)
  obtain ⟨w1, hw1⟩ : ∃ x, x = (((w0.alloc (.cells #[.int .i64 0] 3)).alloc (.cells #[.int .i64 3, .slice (some ⟨w0.heap.size, 0, none⟩) 1 1, .slice none 0 0, .int .i64 1] 39)).alloc (.cells #[.int .i64 0] 3)).alloc (.cells #[.slice (some ⟨w0.heap.size + 1, 0, none⟩) 1 1, .slice (some ⟨w0.heap.size + 1 + 1, 0, none⟩) 1 1] 42) := ⟨_, rfl⟩
  rw [← hw1] at a0 a1 a2 a3 ab
  obtain ⟨b0, b1, b2, b3, bb⟩ := four_at w1 (.cells #[.int .i64 0] 3) (.cells #[.int .i64 4, .slice (some ⟨w1.heap.size, 0, none⟩) 1 1, .slice none 0 0, .int .i64 0] 39) (.cells #[.int .i64 0] 3) (.cells #[.slice (some ⟨w1.heap.size + 1, 0, none⟩) 1 1, .slice (some ⟨w1.heap.size + 1 + 1, 0, none⟩) 1 1] 42)
  obtain ⟨w2, hw2⟩ : ∃ x, x = (((w1.alloc (.cells #[.int .i64 0] 3)).alloc (.cells #[.int .i64 4, .slice (some ⟨w1.heap.size, 0, none⟩) 1 1, .slice none 0 0, .int .i64 0] 39)).alloc (.cells #[.int .i64 0] 3)).alloc (.cells #[.slice (some ⟨w1.heap.size + 1, 0, none⟩) 1 1, .slice (some ⟨w1.heap.size + 1 + 1, 0, none⟩) 1 1] 42) := ⟨_, rfl⟩
  rw [← hw2] at b0 b1 b2 b3 bb
  have HB01 : Hid (Below w0.heap.size w0 w1) := ab
  have HB12 : Hid (Below w1.heap.size w1 w2) := bb
  have HB02 : Hid (Below w0.heap.size w0 w2) := ab.trans (bb.mono ab.size)
  have kA : Blk w1 (w0.heap.size + 1 + 1 + 1) 42 #[.slice (some ⟨w0.heap.size + 1, 0, none⟩) 1 1, .slice (some ⟨w0.heap.size + 1 + 1, 0, none⟩) 1 1] := a3
  have kB : Blk w2 (w1.heap.size + 1 + 1 + 1) 42 #[.slice (some ⟨w1.heap.size + 1, 0, none⟩) 1 1, .slice (some ⟨w1.heap.size + 1 + 1, 0, none⟩) 1 1] := b3
  obtain ⟨w3, hw3⟩ : ∃ x, x = w2.alloc (.cells #[.slice (some ⟨w0.heap.size + 1, 0, none⟩) 1 1, .slice (some ⟨w0.heap.size + 1 + 1, 0, none⟩) 1 1, .slice (some ⟨w0.heap.size + 1, 0, none⟩) 1 1, .slice (some ⟨w0.heap.size + 1 + 1, 0, none⟩) 1 1, .slice (some ⟨w1.heap.size + 1, 0, none⟩) 1 1, .slice (some ⟨w1.heap.size + 1 + 1, 0, none⟩) 1 1] 42) := ⟨_, rfl⟩
  have HB23 : Hid (Below w2.heap.size w2 w3) := by unfold Hid; rw [hw3]; exact below_alloc1 _ _
  have HB03 : Hid (Below w0.heap.size w0 w3) := HB02.out.trans (HB23.out.mono HB02.out.size)
  have HL3 : Hid (ReadsF w3 (.slice (some ⟨w2.heap.size, 0, none⟩) 3 3) [enoughA, enoughA, enoughB]) := by
    have k : Blk w3 w2.heap.size 42 #[.slice (some ⟨w0.heap.size + 1, 0, none⟩) 1 1, .slice (some ⟨w0.heap.size + 1 + 1, 0, none⟩) 1 1, .slice (some ⟨w0.heap.size + 1, 0, none⟩) 1 1, .slice (some ⟨w0.heap.size + 1 + 1, 0, none⟩) 1 1, .slice (some ⟨w1.heap.size + 1, 0, none⟩) 1 1, .slice (some ⟨w1.heap.size + 1 + 1, 0, none⟩) 1 1] := by rw [hw3]; exact Blk.new _ _ _
    obtain ⟨f1, f2⟩ := enough_form (W := w1) (G := w0.heap.size) (k := 3) (n := 1) a0 a1 a2
    obtain ⟨g1, g2⟩ := enough_form (W := w2) (G := w1.heap.size) (k := 4) (n := 0) b0 b1 b2
    have r1 := (f1.below bb).below HB23.out
    have r2 := (f2.below bb).below HB23.out
    have r3 := g1.below HB23.out
    have r4 := g2.below HB23.out
    refine Or.inr ⟨w2.heap.size, 0, 3, rfl, k.lt, by simp, ⟨by simp, by simp⟩, fun i f hf => ?_⟩
    have hi : i < 3 := by have := (List.getElem?_eq_some_iff.1 hf).1; simpa using this
    rcases (by omega : i = 0 ∨ i = 1 ∨ i = 2) with rfl | rfl | rfl
    · obtain rfl : enoughA = f := by simpa using hf
      exact ⟨_, _, k.cell 0, k.cell 1, r1, r2⟩
    · obtain rfl : enoughA = f := by simpa using hf
      exact ⟨_, _, k.cell 2, k.cell 3, r1, r2⟩
    · obtain rfl : enoughB = f := by simpa using hf
      exact ⟨_, _, k.cell 4, k.cell 5, r3, r4⟩
  have y0 : w2.cell? ⟨w0.heap.size + 1 + 1 + 1, 0, none⟩ = some (.slice (some ⟨w0.heap.size + 1, 0, none⟩) 1 1) := (kA.below bb).cell 0
  have y1 : w2.cell? ⟨w0.heap.size + 1 + 1 + 1, 1, none⟩ = some (.slice (some ⟨w0.heap.size + 1 + 1, 0, none⟩) 1 1) := (kA.below bb).cell 1
  have z0 : w2.cell? ⟨w1.heap.size + 1 + 1 + 1, 0, none⟩ = some (.slice (some ⟨w1.heap.size + 1, 0, none⟩) 1 1) := kB.cell 0
  have z1 : w2.cell? ⟨w1.heap.size + 1 + 1 + 1, 1, none⟩ = some (.slice (some ⟨w1.heap.size + 1 + 1, 0, none⟩) 1 1) := kB.cell 1
  clear a0 a1 a2 a3 ab b0 b1 b2 b3 bb kA kB es
  go_enter Tryd.func4, Tryd.ntmps4
  go_upto_region 1 with fail
  rw [← hw0]
  clear hw0
  go_upto_region 2 with fail
  rw [← hw1]
  clear hw1
  go_upto_region 3 with fail
  rw [← hw2]
  clear hw2
  go_wp2_with fail
  rw [← hw3]
  clear hw3
  go_at_call 14
  refine (HFa.out _ _ (HB0.out.trans (HB03.out.mono HB0.out.size)) HL3.out).mono ?_
  rintro e w4 ⟨⟨b, off, cap, rfl, x0, x1⟩, hb⟩
  have HB04 : Hid (Below w0.heap.size w0 w4) := HB03.out.trans (hb.mono HB03.out.size)
  clear hb y0 y1 z0 z1
  go_wp2_with fail
  go_at_call 11
  refine (HOp.out _ (HB0.out.trans (HB04.out.mono HB0.out.size))).mono ?_
  rintro e w5 ⟨rfl, hb⟩
  have HB05 : Hid (Below w0.heap.size w0 w5) := HB04.out.trans (hb.mono HB04.out.size)
  have HB5 : Hid (Below w.heap.size w w5) := HB0.out.trans (HB05.out.mono HB0.out.size)
  clear hb x0 x1
  by_cases hE : E = 0
  · have HE : Hid (E = 0) := hE
    obtain ⟨hn1, hn6⟩ := HG.out hE
    have eE : errV E = .nilIface := by rw [hE]; rfl
    rw [eE]
    obtain ⟨bL, oL, cL, hv⟩ := HF.out.place (by rw [← HN.out]; omega)
    obtain ⟨hlo, hx1, hx2⟩ := Value.slice.inj hv
    clear hx1 hx2 hE eE
    subst hlo
    clear hv
    obtain ⟨d0, d1, d2, d3⟩ := (HD0.out.below HB05.out).cells4
    go_wp2
    clear d0 d1 d2 d3
    obtain ⟨q0, hq0⟩ : ∃ q0, q0 = decide (D.u = u) := ⟨_, rfl⟩
    have HQ0 : Hid (q0 = decide (D.u = u)) := hq0
    try rw [← hq0]
    clear hq0
    go_loopw [13, 14, 15, 16] (fun r i _ _ wr => ∃ (b : Bool) (k : Nat), k ≤ n ∧ r = .bool b ∧ i = .int .i64 k ∧ (b = true → D.u = u ∧ ∀ j, j < k → ∀ f, fs[j]? = some f → D.formIs f.ats f.c = true) ∧ Below w5.heap.size w5 wr) (fun _ i _ _ _ => n - (intOf i).toNat)
    case atStart => exact ⟨_, 0, Nat.zero_le _, rfl, rfl, fun h => ⟨by simpa using h, fun j hj => by omega⟩, Below.refl _ _⟩
    case round =>
      obtain ⟨b, k, hk, rfl, rfl, hso, hbr⟩ := hrel
      have HBr : Hid (Below w5.heap.size w5 wr) := hbr
      have HBw : Hid (Below w.heap.size w wr) := HB5.out.trans (hbr.mono HB5.out.size)
      have HSo : Hid (b = true → D.u = u ∧ ∀ j, j < k → ∀ f, fs[j]? = some f → D.formIs f.ats f.c = true) := hso
      clear hbr hso
      by_cases hlt : k < n
      · obtain ⟨f, hf⟩ : ∃ f, fs[k]? = some f := ⟨_, List.getElem?_eq_getElem (by rw [← HN.out]; exact hlt)⟩
        have HFk : Hid (fs[k]? = some f) := hf
        obtain ⟨hbL, va, vc, c0, c1, hA, hC⟩ := HF.out.at hf
        obtain ⟨ao, acap, rfl, _⟩ := hA.slice
        obtain ⟨co, ccap, rfl, _⟩ := hC.slice
        have x0 : wr.cell? ⟨bL, oL + k * 2, none⟩ = some (.slice ao f.ats.length acap) := (HBw.out.cell hbL).trans c0
        have x1 : wr.cell? ⟨bL, oL + k * 2 + 1, none⟩ = some (.slice co f.c.length ccap) := (HBw.out.cell hbL).trans c1
        have HT1 : Hid (∀ W, Below wr.heap.size wr W → Calls Tryd.prog 16 #[.agg #[.slice ao f.ats.length acap, .slice co f.c.length ccap], .agg #[.int .i64 D.u, .int .i64 D.a, .int .i64 D.b, .int .i64 D.c]] W fun e w' => e = .returned (.tuple #[.bool (D.formIs f.ats f.c), errV (D.formFault f.ats f.c)]) ∧ Below wr.heap.size wr w') := fun W hW => by
          have hb' := HBw.out.trans (hW.mono HBw.out.size)
          exact (HHo.out k f _ _ hf W hb' (hA.below hb') (hC.below hb')).mono fun e w' ⟨he, hb⟩ => ⟨he, hW.trans (hb.mono hW.size)⟩
        obtain ⟨q, hq⟩ : ∃ q, q = D.formIs f.ats f.c := ⟨_, rfl⟩
        have HQ : Hid (q = D.formIs f.ats f.c) := hq
        obtain ⟨ev, hev⟩ : ∃ ev, ev = errV (D.formFault f.ats f.c) := ⟨_, rfl⟩
        have HEv : Hid (ev = .nilIface ∨ ∃ m, ev = .iface 64 (.int .i64 m)) := by
          unfold Hid
          rw [hev]
          by_cases h : D.formFault f.ats f.c = 0
          · left; rw [h]; rfl
          · right; exact ⟨_, errV_no h⟩
        rw [← hq, ← hev] at HT1
        obtain ⟨al, hal⟩ : ∃ x, x = f.ats.length := ⟨_, rfl⟩
        obtain ⟨cl, hcl⟩ : ∃ x, x = f.c.length := ⟨_, rfl⟩
        rw [← hal] at x0 HT1
        rw [← hcl] at x1 HT1
        obtain ⟨d0, d1, d2, d3⟩ := (HD0.out.below (HB05.out.trans (HBr.out.mono HB05.out.size))).cells4
        clear hf hbL c0 c1 hA hC hq hal hcl hev
        have hkn : (k : Int) < (n : Int) := by omega
        go_upto_region 13 with fail
        go_cut [15, 16] from 77 to 99 (fun x y wx => x = .bool q ∧ y = ev ∧ Below wr.heap.size wr wx)
        case first =>
          go_region_with (go_at_call 16; refine (HT1.out _ (by first | exact Below.drew (Below.refl _ _) | exact Below.refl _ _)).mono ?_; rintro e w8 ⟨rfl, hb8⟩)
          all_goals (try go_wp2)
          all_goals go_meet
          all_goals exact ⟨rfl, rfl, hb8⟩
        case rest =>
          obtain ⟨rfl, rfl, hbc⟩ := hcut
          obtain ⟨wf, hwf⟩ : ∃ x, x = wc := ⟨_, rfl⟩
          subst hwf
          have HBf : Hid (Below w5.heap.size w5 wf) := HBr.out.trans (hbc.mono HBr.out.size)
          clear hbc x0 x1 d0 d1 d2 d3
          cases b with
          | true =>
            rcases HEv.out with rfl | ⟨m, rfl⟩
            · have HS1 : Hid (q = true → D.u = u ∧ ∀ j, j < k + 1 → ∀ f, fs[j]? = some f → D.formIs f.ats f.c = true) := fun hqt => ⟨(HSo.out rfl).1, fun j hj g hg => by
                rcases Nat.lt_or_ge j k with h | h
                · exact (HSo.out rfl).2 j h g hg
                · obtain rfl : j = k := by omega
                  rw [← Option.some.inj (HFk.out.symm.trans hg), ← HQ.out]
                  exact hqt⟩
              clear HQ HEv
              go_wp2
              go_roundw
              case rel => exact ⟨q, k + 1, by omega, rfl, by go_num, HS1.out, HBf.out⟩
              case measure => simp [intOf]; omega
            · clear HQ HEv
              go_wp2
              go_roundw
              case rel => exact ⟨false, k + 1, by omega, rfl, by go_num, fun h => absurd h (by decide), HBf.out⟩
              case measure => simp [intOf]; omega
          | false =>
            clear HQ HEv
            go_wp2
            go_roundw
            case rel => exact ⟨false, k + 1, by omega, rfl, by go_num, fun h => absurd h (by decide), HBf.out⟩
            case measure => simp [intOf]; omega
      · obtain rfl : k = n := by omega
        have HbO : Hid (b = true → O = true) := fun h => HAll.out HE.out (HSo.out h).1 (HSo.out h).2
        clear hlt
        cases O with
        | true =>
          have HOn' : Hid (∀ W v, Below w.heap.size w W → ReadsF W v (fs.take 1) → Calls Tryd.prog 11 #[v, .int .i64 u] W fun e w' => e = .returned (.tuple #[.bool true, .nilIface]) ∧ Below W.heap.size W w') := HOn.out rfl
          have HOf' : Hid (∀ W, Below w.heap.size w W → Calls Tryd.prog 14 #[.slice (some ⟨bL, oL, none⟩) k lcap, .int .i64 u] W fun e w' => (∃ xo xl xc, e = .returned (.tuple #[.slice xo xl xc, .iface 64 (.int .i64 8)])) ∧ Below W.heap.size W w') := fun W hW => by
            refine (HOf.out HE.out W hW).mono ?_
            rintro e w' ⟨⟨xo, xl, xc, rfl, _⟩, hb⟩
            exact ⟨⟨xo, xl, xc, by rw [if_pos rfl, errV_no (by decide)]⟩, hb⟩
          have HEr' : Hid (∀ W, Below w.heap.size w W → Calls Tryd.prog 12 #[.iface 64 (.int .i64 8), .int .i64 8] W fun e w' => e = .returned (.bool true) ∧ Below W.heap.size W w') := fun W hW => by
            have h := HEr.out 8 W hW
            rw [errV_no (by decide)] at h
            exact h
          have hlc : 1 ≤ lcap := by
            rcases HF.out with ⟨_, _, hv, h0⟩ | ⟨_, _, _, hv, _, _, ⟨_, hc⟩, _⟩
            · have := HN.out; rw [h0] at this; simp at this; omega
            · obtain ⟨_, _, rfl⟩ := Value.slice.inj hv
              rw [← HN.out] at hc; omega
          have HT7 : Hid (∀ W, Below w.heap.size w W → ReadsF W (.slice (some ⟨bL, oL, none⟩) 1 lcap) (fs.take 1)) := fun W hW => by
            have hk0 : 0 < fs.length := by rw [← HN.out]; omega
            refine Or.inr ⟨bL, oL, lcap, by rw [List.length_take]; congr 1; omega, Nat.lt_of_lt_of_le (HF.out.at (List.getElem?_eq_getElem hk0)).1 hW.size, by rw [List.length_take]; omega, by rw [List.length_take]; omega, fun i f hf => ?_⟩
            have hi : i < 1 := by have := (List.getElem?_eq_some_iff.1 hf).1; rw [List.length_take] at this; omega
            rw [List.getElem?_take_of_lt hi] at hf
            obtain ⟨h1, h2⟩ := HF.out.at hf
            exact h2.below h1 hW
          have hl1 : ¬ (k : Int) < 1 := by omega
          clear HOn HOf HEr HCs HLe HWo
          cases b with
          | true =>
            go_wp2_with fail
            go_at_call 14
            refine (HOf'.out _ HBw.out).mono ?_
            rintro e w6 ⟨⟨xo, xl, xc, rfl⟩, hb⟩
            have HB6 : Hid (Below w.heap.size w w6) := HBw.out.trans (hb.mono HBw.out.size)
            clear hb
            go_wp2_with fail
            go_at_call 12
            refine (HEr'.out _ HB6.out).mono ?_
            rintro e w7 ⟨rfl, hb⟩
            have HB7 : Hid (Below w.heap.size w w7) := HB6.out.trans (hb.mono HB6.out.size)
            clear hb
            go_wp2_with fail
            go_at_call 11
            refine (HOn'.out _ _ HB7.out (HT7.out _ HB7.out)).mono ?_
            rintro e w8 ⟨rfl, hb⟩
            have HB8 : Hid (Below w.heap.size w w8) := HB7.out.trans (hb.mono HB7.out.size)
            clear hb
            go_wp2
            go_ret
            exact ⟨rfl, HB8.out⟩
          | false =>
            go_wp2_with fail
            go_at_call 14
            refine (HOf'.out _ HBw.out).mono ?_
            rintro e w6 ⟨⟨xo, xl, xc, rfl⟩, hb⟩
            have HB6 : Hid (Below w.heap.size w w6) := HBw.out.trans (hb.mono HBw.out.size)
            clear hb
            go_wp2_with fail
            go_at_call 12
            refine (HEr'.out _ HB6.out).mono ?_
            rintro e w7 ⟨rfl, hb⟩
            have HB7 : Hid (Below w.heap.size w w7) := HB6.out.trans (hb.mono HB6.out.size)
            clear hb
            go_wp2_with fail
            go_at_call 11
            refine (HOn'.out _ _ HB7.out (HT7.out _ HB7.out)).mono ?_
            rintro e w8 ⟨rfl, hb⟩
            have HB8 : Hid (Below w.heap.size w w8) := HB7.out.trans (hb.mono HB7.out.size)
            clear hb
            go_wp2
            go_ret
            exact ⟨rfl, HB8.out⟩
        | false =>
          have hbf : b = false := by cases b with | false => rfl | true => exact absurd (HbO.out rfl) (by decide)
          subst hbf
          obtain ⟨hgl, hc1, hc6, hcs⟩ := HCs.out HE.out rfl
          obtain ⟨m, hm⟩ : ∃ m, m = cs.length := ⟨_, rfl⟩
          have HM : Hid (m = cs.length ∧ gs.length = m) := ⟨hm, by rw [hm]; exact hgl⟩
          have HCc : Hid (∀ (k' : Nat) x, cs[k']? = some x → (∃ (j : Nat) (f : Fm), x = j ∧ j < k ∧ fs[j]? = some f ∧ gs[k']? = some f) ∧ (∀ y, 0 < k' → cs[k' - 1]? = some y → y < x)) := hcs
          have HOf' : Hid (∀ W, Below w.heap.size w W → Calls Tryd.prog 14 #[.slice (some ⟨bL, oL, none⟩) k lcap, .int .i64 u] W fun e w' => (∃ bx ox xc, e = .returned (.tuple #[.slice (some ⟨bx, ox, none⟩) m xc, .nilIface]) ∧ bx < w'.heap.size ∧ ∀ (j : Nat) x, cs[j]? = some x → w'.cell? ⟨bx, ox + j, none⟩ = some (.int .i64 x)) ∧ Below W.heap.size W w') := fun W hW => by
            refine (HOf.out HE.out W hW).mono ?_
            rintro e w' ⟨⟨xo, xl, xc, rfl, hr⟩, hb⟩
            refine ⟨?_, hb⟩
            rcases hr rfl with ⟨_, _, _, h0⟩ | ⟨bx, ox, cx, hv, h2, _, _, h5⟩
            · rw [h0] at hc1; simp at hc1
            · rw [hv]
              refine ⟨bx, ox, cx, by rw [if_neg (by decide), hm]; rfl, h2, fun j x hx => ?_⟩
              have hj := (List.getElem?_eq_some_iff.1 hx).1
              rw [h5 j hj, List.getD_eq_getElem?_getD, hx]; rfl
          have HEr' : Hid (∀ W, Below w.heap.size w W → Calls Tryd.prog 12 #[.nilIface, .int .i64 8] W fun e w' => e = .returned (.bool false) ∧ Below W.heap.size W w') := fun W hW => HEr.out 0 W hW
          have HLe' : Hid (∀ W v, Below w.heap.size w W → ReadsF W v gs → Calls Tryd.prog 11 #[v, .int .i64 u] W fun e w' => e = .returned (.tuple #[.bool false, .nilIface]) ∧ Below W.heap.size W w') := HLe.out HE.out rfl
          have HWo' : Hid (∀ W v (k : Nat), k < gs.length → 0 < (gs.take k ++ gs.drop (k + 1)).length → Below w.heap.size w W → ReadsF W v (gs.take k ++ gs.drop (k + 1)) → Calls Tryd.prog 11 #[v, .int .i64 u] W fun e w' => e = .returned (.tuple #[.bool true, .nilIface]) ∧ Below W.heap.size W w') := HWo.out HE.out rfl
          rw [← hm] at hc1 hc6
          have hl1 : ¬ (k : Int) < 1 := by omega
          clear HOn HOf HEr HCs HLe HWo hgl hm hcs
          go_wp2_with fail
          go_at_call 14
          refine (HOf'.out _ HBw.out).mono ?_
          rintro e w6 ⟨⟨bx, ox, xc, rfl, hbx, hxc⟩, hb⟩
          have HB6 : Hid (Below w.heap.size w w6) := HBw.out.trans (hb.mono HBw.out.size)
          have HX6 : Hid (bx < w6.heap.size ∧ ∀ (j : Nat) x, cs[j]? = some x → w6.cell? ⟨bx, ox + j, none⟩ = some (.int .i64 x)) := ⟨hbx, hxc⟩
          clear hb hbx hxc
          go_wp2_with fail
          go_at_call 12
          refine (HEr'.out _ HB6.out).mono ?_
          rintro e w7 ⟨rfl, hb⟩
          have HB7 : Hid (Below w.heap.size w w7) := HB6.out.trans (hb.mono HB6.out.size)
          have HX7 : Hid (bx < w7.heap.size ∧ ∀ (j : Nat) x, cs[j]? = some x → w7.cell? ⟨bx, ox + j, none⟩ = some (.int .i64 x)) := ⟨Nat.lt_of_lt_of_le HX6.out.1 hb.size, fun j x hx => (hb.cell HX6.out.1).trans (HX6.out.2 j x hx)⟩
          clear hb HX6
          go_wp2
          go_loopw [20, 21] (fun r i wr => ∃ (j : Nat) (xs : List Value), j ≤ m ∧ i = .int .i64 j ∧ CellsF w xs (gs.take j) ∧ wr.ownsRow w7.heap.size 42 2 r j xs ∧ Below w7.heap.size w7 wr) (fun _ i _ => m - (intOf i).toNat)
          case atStart => exact ⟨0, [], Nat.zero_le _, rfl, CellsF.nil _, World.ownsRow_nil _ _ _ _, Below.refl _ _⟩
          case round =>
            obtain ⟨j, xs, hj, rfl, hcf, hown, hbx⟩ := hrel
            have HCf : Hid (CellsF w xs (gs.take j)) := hcf
            have HOx : Hid (wr.ownsRow w7.heap.size 42 2 u20 j xs) := hown
            have HBx : Hid (Below w7.heap.size w7 wr) := hbx
            have HBwx : Hid (Below w.heap.size w wr) := HB7.out.trans (hbx.mono HB7.out.size)
            clear hcf hown hbx
            by_cases hlt : j < m
            · have hjm : (j : Int) < (m : Int) := by omega
              obtain ⟨x, hx⟩ : ∃ x, cs[j]? = some x := ⟨_, List.getElem?_eq_getElem (by rw [← HM.out.1]; exact hlt)⟩
              obtain ⟨⟨jj, f, rfl, hjl, hf, hgf⟩, hrise⟩ := HCc.out j x hx
              obtain ⟨hbL, va, vc, c0, c1, hA, hC⟩ := HF.out.at hf
              obtain ⟨ao, acap, rfl, _⟩ := hA.slice
              obtain ⟨co, ccap, rfl, _⟩ := hC.slice
              have HC1 : Hid (CellsF w [.slice ao f.ats.length acap, .slice co f.c.length ccap] [f]) := CellsF.one rfl rfl hA hC
              have HTk : Hid (gs.take (j + 1) = gs.take j ++ [f]) := by unfold Hid; rw [List.take_add_one, hgf]; rfl
              have HP : Hid (∀ W, Below w7.heap.size w7 W → W.cell? ⟨bL, oL + jj * 2, none⟩ = some (.slice ao f.ats.length acap) ∧ W.cell? ⟨bL, oL + jj * 2 + 1, none⟩ = some (.slice co f.c.length ccap) ∧ W.cell? ⟨bx, ox + j, none⟩ = some (.int .i64 jj)) := fun W hW => by
                have hb' := HB7.out.trans (hW.mono HB7.out.size)
                exact ⟨(hb'.cell hbL).trans c0, (hb'.cell hbL).trans c1, (hW.cell HX7.out.1).trans (HX7.out.2 j _ hx)⟩
              obtain ⟨al, hal⟩ : ∃ x, x = f.ats.length := ⟨_, rfl⟩
              obtain ⟨cl, hcl⟩ : ∃ x, x = f.c.length := ⟨_, rfl⟩
              rw [← hal, ← hcl] at HC1 HP
              clear hal hcl hbL c0 c1 hA hC hf hgf
              obtain ⟨_, _, x0⟩ := HP.out wr HBx.out
              have g1 : decide ((jj : Int) < 0) = false := decide_eq_false (by omega)
              have g2 : decide ((k : Int) ≤ (jj : Int)) = false := decide_eq_false (by omega)
              have g2' : decide (k ≤ jj) = false := decide_eq_false (by omega)
              go_upto_region 27 with fail
              go_cut [168] from 133 to 178 (fun x wx => x = .bool false ∧ wx.ownsRow w7.heap.size 42 2 u20 j xs ∧ Below w7.heap.size w7 wx)
              case first =>
                rcases Nat.eq_zero_or_pos j with h0 | h0
                · have g3 : decide ((0 : Int) < (j : Int)) = false := decide_eq_false (by omega)
                  have g3' : decide (0 < j) = false := decide_eq_false (by omega)
                  clear hrise hx h0
                  go_quiet (fail)
                  go_wp2
                  go_meet
                  case rel => exact ⟨rfl, HOx.out, below_drewN HBx.out⟩
                · obtain ⟨i, hi⟩ : ∃ i : Nat, (j : Int) - 1 = (i : Int) := ⟨j - 1, by omega⟩
                  obtain ⟨y, hy⟩ : ∃ y, cs[i]? = some y := ⟨_, List.getElem?_eq_getElem (by rw [← HM.out.1]; omega)⟩
                  have hyx := hrise y h0 (by rw [show j - 1 = i by omega]; exact hy)
                  have g4 : decide ((jj : Int) ≤ y) = false := decide_eq_false (by omega)
                  have g6 : (i : Int) < (m : Int) := by omega
                  have hwr : IntKind.i64.wrap (i : Int) = (i : Int) := by rw [IntKind.wrap_i64]; omega
                  have g3 : decide ((0 : Int) < (j : Int)) = true := decide_eq_true (by omega)
                  have x1 : wr.cell? ⟨bx, ox + i, none⟩ = some (.int .i64 y) := (HBx.out.cell HX7.out.1).trans (HX7.out.2 _ _ hy)
                  clear hrise hx hy hyx
                  go_quiet (fail)
                  go_wp2
                  go_meet
                  case rel => exact ⟨rfl, HOx.out, below_drewN HBx.out⟩
              case rest =>
                obtain ⟨rfl, hown, hbc⟩ := hcut
                obtain ⟨wf, hwf⟩ : ∃ x, x = wc := ⟨_, rfl⟩
                subst hwf
                have HOf : Hid (wf.ownsRow w7.heap.size 42 2 u20 j xs) := hown
                have HBf : Hid (Below w7.heap.size w7 wf) := hbc
                obtain ⟨z0, z1, z2⟩ := HP.out wf hbc
                have HBk : Hid (∀ (a : Nat) x, [Value.slice ao al acap, .slice co cl ccap][a]? = some x → (wf.alloc (.cells #[.slice ao al acap, .slice co cl ccap] 42)).cell? ⟨wf.heap.size, 0 + a, none⟩ = some x) := fun a x ha => by
                  have kk : Blk (wf.alloc (.cells #[.slice ao al acap, .slice co cl ccap] 42)) wf.heap.size 42 #[.slice ao al acap, .slice co cl ccap] := Blk.new _ _ _
                  have hl : a < 2 := by have := (List.getElem?_eq_some_iff.1 ha).1; simpa using this
                  rcases (by omega : a = 0 ∨ a = 1) with rfl | rfl
                  · obtain rfl : Value.slice ao al acap = x := by simpa using ha
                    exact kk.cell 0
                  · obtain rfl : Value.slice co cl ccap = x := by simpa using ha
                    exact kk.cell 1
                clear hown hbc x0 hrise hx g1 g2 g2'
                have hjk : (jj : Int) < (k : Int) := by omega
                go_wp2_with (at_builtin; refine append_forms rfl _ _ rfl w7.heap.size u20 rfl j xs [.slice ao al acap, .slice co cl ccap] 1 1 wf.heap.size 0 rfl (HOf.out.alloc _) rfl HC1.out.2.1 HBk.out (by have := HBf.out.size; simp; omega) (by omega) ?_)
                intro v9 w9 hown hgrow
                have HBa : Hid (Below w7.heap.size w7 (wf.alloc (.cells #[.slice ao al acap, .slice co cl ccap] 42))) := HBf.out.alloc HBf.out.size _
                have HB9 : Hid (Below w7.heap.size w7 w9) := HBa.out.grown hgrow HBa.out.size (fun x hx => (HOf.out.lt x hx).1)
                have HO9 : Hid (w9.ownsRow w7.heap.size 42 2 v9 (j + 1) (xs ++ [.slice ao al acap, .slice co cl ccap])) := hown
                have HC9 : Hid (CellsF w (xs ++ [.slice ao al acap, .slice co cl ccap]) (gs.take (j + 1))) := by unfold Hid; rw [HTk.out]; exact HCf.out.append HC1.out
                clear hown hgrow z0 z1 z2
                go_wp2
                go_roundw
                case rel => exact ⟨j + 1, _, by omega, by go_num, HC9.out, HO9.out, HB9.out⟩
                case measure => simp [intOf]; omega
            · obtain rfl : j = m := by omega
              have HCg : Hid (CellsF w xs gs) := by
                have h := HCf.out
                rw [List.take_of_length_le (by rw [HM.out.2]; exact Nat.le_refl _)] at h
                exact h
              have HRf : Hid (ReadsF wr u20 gs) := own_readsF HM.out.2.symm HOx.out (HCg.out.below HBwx.out) (by rw [HM.out.2]; omega)
              obtain ⟨g, cap2, hv, hgK, hgl, hcp, hcell⟩ := own_place HOx.out (by omega)
              have HGc : Hid (g < wr.heap.size ∧ ∀ (a : Nat) x, xs[a]? = some x → wr.cell? ⟨g, a, none⟩ = some x) := ⟨hgl, hcell⟩
              rw [hv] at HRf ⊢
              clear HOx HCf hv hgK hgl hcell
              go_wp2_with fail
              go_at_call 11
              refine (HLe'.out _ _ HBwx.out HRf.out).mono ?_
              rintro e w8 ⟨rfl, hb⟩
              have HB8 : Hid (Below w.heap.size w w8) := HBwx.out.trans (hb.mono HBwx.out.size)
              have HG8 : Hid (g < w8.heap.size ∧ ∀ (a : Nat) x, xs[a]? = some x → w8.cell? ⟨g, a, none⟩ = some x) := ⟨Nat.lt_of_lt_of_le HGc.out.1 hb.size, fun a x hx => (hb.cell HGc.out.1).trans (HGc.out.2 a x hx)⟩
              clear hb HGc
              go_wp2
              go_loopw [24, 25, 26, 27] (fun i _ _ _ wx => ∃ a : Nat, a ≤ j ∧ i = .int .i64 a ∧ Below w8.heap.size w8 wx) (fun i _ _ _ _ => j - (intOf i).toNat)
              case atStart => exact ⟨0, Nat.zero_le _, rfl, Below.refl _ _⟩
              case round =>
                obtain ⟨a, ha, rfl, hb9⟩ := hrel
                have HB9 : Hid (Below w8.heap.size w8 wr) := hb9
                have HBw9 : Hid (Below w.heap.size w wr) := HB8.out.trans (hb9.mono HB8.out.size)
                have HG9 : Hid (∀ W, Below w8.heap.size w8 W → ∀ (q : Nat) x, xs[q]? = some x → W.cell? ⟨g, q, none⟩ = some x) := fun W hW q x hx => (hW.cell HG8.out.1).trans (HG8.out.2 q x hx)
                clear hb9
                by_cases hlt : a < j
                · have haj : (a : Int) < (j : Int) := by omega
                  have hac : (a : Int) ≤ (cap2 : Int) := by omega
                  have ha1 : (a : Int) + 1 ≤ (j : Int) := by omega
                  have ha1c : (a : Int) + 1 ≤ (cap2 : Int) := by omega
                  have HT1 : Hid ((xs.take (a * 2)).length = a * 2 ∧ CellsF w (xs.take (a * 2)) (gs.take a)) := ⟨by have := HCg.out.1; rw [List.length_take, this, HM.out.2]; omega, HCg.out.take a⟩
                  have HT2 : Hid ((xs.drop ((a + 1) * 2)).length = (j - (a + 1)) * 2 ∧ CellsF w (xs.drop ((a + 1) * 2)) (gs.drop (a + 1))) := ⟨by have := HCg.out.1; rw [List.length_drop, this, HM.out.2]; omega, HCg.out.drop (a + 1)⟩
                  have HP1 : Hid (∀ W, Below w8.heap.size w8 W → ∀ (q : Nat) x, (xs.take (a * 2))[q]? = some x → W.cell? ⟨g, 0 + q, none⟩ = some x) := fun W hW q x hx => by
                    have hq := (List.getElem?_eq_some_iff.1 hx).1
                    rw [HT1.out.1] at hq
                    rw [List.getElem?_take_of_lt hq] at hx
                    rw [Nat.zero_add]
                    exact HG9.out W hW q x hx
                  have HP2 : Hid (∀ W, Below w8.heap.size w8 W → ∀ (q : Nat) x, (xs.drop ((a + 1) * 2))[q]? = some x → W.cell? ⟨g, (a + 1) * 2 + q, none⟩ = some x) := fun W hW q x hx => by
                    rw [List.getElem?_drop] at hx
                    exact HG9.out W hW _ x hx
                  by_cases hcc : cap2 = a + 1
                  · have HP3 : Hid (∀ W, Below w8.heap.size w8 W → ∀ (q : Nat) x, (xs.drop ((a + 1) * 2))[q]? = some x → W.cell? ⟨g, 0 + q, none⟩ = some x) := fun W hW q x hx => by
                      have hq := (List.getElem?_eq_some_iff.1 hx).1
                      rw [HT2.out.1] at hq
                      omega
                    subst hcc
                    have hja : j - (a + 1) = 0 := by omega
                    go_wp2_with (at_builtin; refine append_forms rfl _ _ rfl wr.heap.size (.slice none 0 0) rfl 0 [] (xs.take (a * 2)) a (a + 1) g 0 rfl (World.ownsRow_nil _ _ _ _) HT1.out.1 HT1.out.2.2.1 (HP1.out _ HB9.out) (Nat.le_refl _) (by omega) ?_)
                    intro v1 wa hown1 hgrow1
                    have HB1a : Hid (Below wr.heap.size wr wa) := (Below.refl _ _).grown hgrow1 (Nat.le_refl _) (fun x hx => by cases hx)
                    have HBa : Hid (Below w8.heap.size w8 wa) := HB9.out.trans (HB1a.out.mono HB9.out.size)
                    have HO1 : Hid (wa.ownsRow wr.heap.size 42 2 v1 a (xs.take (a * 2))) := by first | exact hown1 | simpa using hown1
                    clear hown1 hgrow1
                    go_wp2_with (at_builtin; refine append_forms rfl _ _ rfl wr.heap.size v1 rfl a (xs.take (a * 2)) (xs.drop ((a + 1) * 2)) 0 0 g 0 ?hx HO1.out (by rw [HT2.out.1]; omega) HT2.out.2.2.1 (HP3.out _ HBa.out) HB1a.out.size (by omega) ?_)
                    case hx => first | rfl | (rw [show j = a + 1 by omega]; simp [Act.eval]; done) | (simp [Act.eval]; done)
                    intro v2 wb hown2 hgrow2
                    have HBb : Hid (Below wr.heap.size wr wb) := HB1a.out.grown hgrow2 HB1a.out.size (fun x hx => (HO1.out.lt x hx).1)
                    have HO2 : Hid (wb.ownsRow wr.heap.size 42 2 v2 (a + (j - (a + 1))) (xs.take (a * 2) ++ xs.drop ((a + 1) * 2))) := by
                      first | exact hown2 | (unfold Hid; rw [show a + (j - (a + 1)) = a by omega]; exact hown2)
                    have HB2 : Hid (Below w8.heap.size w8 wb) := HB9.out.trans (HBb.out.mono HB9.out.size)
                    have HBw2 : Hid (Below w.heap.size w wb) := HB8.out.trans (HB2.out.mono HB8.out.size)
                    obtain ⟨o2, c2, hv2⟩ := own_slice HO2.out
                    have HR2 : Hid (ReadsF wb v2 (gs.take a ++ gs.drop (a + 1))) := own_readsF (by rw [List.length_append, List.length_take, List.length_drop, HM.out.2]; omega) HO2.out ((HT1.out.2.append HT2.out.2).below HBw2.out) (by rw [List.length_append, List.length_take, List.length_drop, HM.out.2]; omega)
                    rw [hv2] at HR2 ⊢
                    clear hown2 hgrow2 hv2 HO2 HO1
                    by_cases hj1 : a + (j - (a + 1)) = 0
                    · rw [hj1]
                      go_wp2
                      go_roundw
                      case rel => exact ⟨a + 1, by omega, by go_num, HB2.out⟩
                      case measure => simp [intOf]; omega
                    · obtain ⟨p, hp⟩ : ∃ p, p = a + (j - (a + 1)) := ⟨_, rfl⟩
                      have HPp : Hid (p = a + (j - (a + 1))) := hp
                      rw [← hp] at hj1 HR2 ⊢
                      have hp1 : ((p : Int) == 0) = false := by simp; omega
                      clear hp
                      go_wp2_with fail
                      go_at_call 11
                      refine (HWo'.out _ _ a (by rw [HM.out.2]; exact hlt) (by have := HPp.out; rw [List.length_append, List.length_take, List.length_drop, HM.out.2]; omega) HBw2.out HR2.out).mono ?_
                      rintro e w10 ⟨rfl, hb⟩
                      have HB10 : Hid (Below w8.heap.size w8 w10) := HB2.out.trans (hb.mono HB2.out.size)
                      clear hb
                      go_wp2
                      go_roundw
                      case rel => exact ⟨a + 1, by omega, by go_num, HB10.out⟩
                      case measure => simp [intOf]; omega
                  · go_wp2_with (at_builtin; refine append_forms rfl _ _ rfl wr.heap.size (.slice none 0 0) rfl 0 [] (xs.take (a * 2)) a cap2 g 0 rfl (World.ownsRow_nil _ _ _ _) HT1.out.1 HT1.out.2.2.1 (HP1.out _ HB9.out) (Nat.le_refl _) (by omega) ?_)
                    intro v1 wa hown1 hgrow1
                    have HB1a : Hid (Below wr.heap.size wr wa) := (Below.refl _ _).grown hgrow1 (Nat.le_refl _) (fun x hx => by cases hx)
                    have HBa : Hid (Below w8.heap.size w8 wa) := HB9.out.trans (HB1a.out.mono HB9.out.size)
                    have HO1 : Hid (wa.ownsRow wr.heap.size 42 2 v1 a (xs.take (a * 2))) := by first | exact hown1 | simpa using hown1
                    clear hown1 hgrow1
                    go_wp2_with (at_builtin; refine append_forms rfl _ _ rfl wr.heap.size v1 rfl a (xs.take (a * 2)) (xs.drop ((a + 1) * 2)) (j - (a + 1)) (cap2 - (a + 1)) g ((a + 1) * 2) ?hx HO1.out HT2.out.1 HT2.out.2.2.1 (HP2.out _ HBa.out) HB1a.out.size (by omega) ?_)
                    case hx => first | rfl | (simp [Act.eval, hcc]; done)
                    intro v2 wb hown2 hgrow2
                    have HBb : Hid (Below wr.heap.size wr wb) := HB1a.out.grown hgrow2 HB1a.out.size (fun x hx => (HO1.out.lt x hx).1)
                    have HO2 : Hid (wb.ownsRow wr.heap.size 42 2 v2 (a + (j - (a + 1))) (xs.take (a * 2) ++ xs.drop ((a + 1) * 2))) := by
                      first | exact hown2 | (unfold Hid; rw [show a + (j - (a + 1)) = a by omega]; exact hown2)
                    have HB2 : Hid (Below w8.heap.size w8 wb) := HB9.out.trans (HBb.out.mono HB9.out.size)
                    have HBw2 : Hid (Below w.heap.size w wb) := HB8.out.trans (HB2.out.mono HB8.out.size)
                    obtain ⟨o2, c2, hv2⟩ := own_slice HO2.out
                    have HR2 : Hid (ReadsF wb v2 (gs.take a ++ gs.drop (a + 1))) := own_readsF (by rw [List.length_append, List.length_take, List.length_drop, HM.out.2]; omega) HO2.out ((HT1.out.2.append HT2.out.2).below HBw2.out) (by rw [List.length_append, List.length_take, List.length_drop, HM.out.2]; omega)
                    rw [hv2] at HR2 ⊢
                    clear hown2 hgrow2 hv2 HO2 HO1
                    by_cases hj1 : a + (j - (a + 1)) = 0
                    · rw [hj1]
                      go_wp2
                      go_roundw
                      case rel => exact ⟨a + 1, by omega, by go_num, HB2.out⟩
                      case measure => simp [intOf]; omega
                    · obtain ⟨p, hp⟩ : ∃ p, p = a + (j - (a + 1)) := ⟨_, rfl⟩
                      have HPp : Hid (p = a + (j - (a + 1))) := hp
                      rw [← hp] at hj1 HR2 ⊢
                      have hp1 : ((p : Int) == 0) = false := by simp; omega
                      clear hp
                      go_wp2_with fail
                      go_at_call 11
                      refine (HWo'.out _ _ a (by rw [HM.out.2]; exact hlt) (by have := HPp.out; rw [List.length_append, List.length_take, List.length_drop, HM.out.2]; omega) HBw2.out HR2.out).mono ?_
                      rintro e w10 ⟨rfl, hb⟩
                      have HB10 : Hid (Below w8.heap.size w8 w10) := HB2.out.trans (hb.mono HB2.out.size)
                      clear hb
                      go_wp2
                      go_roundw
                      case rel => exact ⟨a + 1, by omega, by go_num, HB10.out⟩
                      case measure => simp [intOf]; omega
                · obtain rfl : a = j := by omega
                  go_wp2
                  go_ret
                  exact ⟨rfl, HBw9.out⟩
  · rw [errV_no hE]
    clear hE
    go_wp2
    go_ret
    exact ⟨rfl, HB5.out⟩
end Go.Proofs.YtjaedfjfcghgcaaDoor
