/-
  Proved: what turn.Names returns, of any formula and any numbers: it with other names, in new rows; what was in memory is as it was (a contract that the statements of chapter 16 lean on).
  Proved: where the variable atom.kinds reads as the row lists it, its eighteen cells are those of the table of kinds. (What the tied statements' frames lean on.)
  Proved: where the variable errors.errorType reads as the row lists it, its one cell holds the handle of the type error; and the heap that the program's own initialisers leave meets the row's condition. (What the tied statements' frames lean on; after the guide's worked examples Toyas and Mapy.)
  Proved: the row's condition on errors.errorType and atom.kinds gives the walk the error's handle and the table of kinds, and the heap that the program's own initialisers leave meets the condition. (What the tied statements' frames lean on.)
  Proved: what an argument of a statement is: a slice of numbers reads as a list, a world is four numbers, a string has a size; and that an argument reads behind a call that turns nothing that was there as it read before. (What the statements' frames lean on.)
-/
import Derived.Test.YteknlcachfhfkahDoorLibTU14
import Derived.Test.YteknlcachfhfkahDoorLibTU11
import Derived.Laws.World
import Derived.Deep.RegionHeld3
import Derived.Test.YteknlcachfhfkahDoorRows
import Derived.Test.YteknlcachfhfkahDoorLibTU10
import Derived.ProofKit
import Derived.OpenShut
import Derived.LaidLaws
import Derived.Stop.LaidErr
import Derived.Deep.Strs
import Derived.Test.YteknlcachfhfkahDoorLibTU9
import Derived.LaidMore
import Derived.LaidHandle
import Derived.Stop.Joined
import Derived.Test.YteknlcachfhfkahDoorLibTU6
import Derived.Carry
import Derived.Lib.SmallJoins
namespace Go.Proofs.YteknlcachfhfkahDoor
open Go.ChangeShapes Go.WideShapes Go.ChangeAt Go.RowKit
set_option maxRecDepth 100000

theorem load_formT {W : World} {R : Nat} {c0 c1 : Value} (h0 : W.cell? ⟨R, 0, none⟩ = some c0) (h1 : W.cell? ⟨R, 1, none⟩ = some c1) : (loadVar 25 ⟨R, 0, none⟩).run Tryd.prog W = .ok (.agg #[c0, c1]) W := by
  have hl := run_loadCells_list (P := Tryd.prog) W ⟨R, 0, none⟩ [c0, c1] (fun j v hj => by
    match j, hj with
    | 0, hj => simp at hj; subst hj; simpa [Addr.add] using h0
    | 1, hj => simp at hj; subst hj; simpa [Addr.add] using h1)
  simp [loadVar, Tryd.isAgg25, Tryd.sizeOf25, Result.andThen] at hl ⊢
  simp [hl]
theorem FillT.far {G R j : Nat} {w : World} {ats : List At} {m k : Nat} (h : FillT G w ats m k) (hR : R < G) (u : Value) : FillT G (w.setCell ⟨R, j, none⟩ u) ats m k := by
  obtain ⟨xs, ⟨h1, h2⟩, h3⟩ := h
  refine ⟨xs, ⟨h1, ?_⟩, fun i a hi ha => (h3 i a hi ha).set (by omega) u⟩
  rcases h2 with h2 | ⟨g, cap, cur, hv, hg, hh, r⟩
  · exact .inl h2
  · refine .inr ⟨g, cap, cur, hv, hg, ?_, r⟩
    rw [RowKit.Below.heap_setCell _ _ _ _ (by simp; omega)]; exact hh
theorem renT_length (p : Nat → Int) (t : List Int) : (renT p t).length = t.length := by unfold renT; rw [List.length_map]

set_option maxHeartbeats 4000000 in
theorem names_bad (ao : Option Addr) (m acap : Nat) (co : Option Addr) (n ccap : Nat) (p : Nat → Int) (F : Int) (w : World)
    (HF : Hid (∀ W, Below w.heap.size w W → Calls Tryd.prog 40 #[.agg #[.slice ao m acap, .slice co n ccap]] W fun e w' => e = .returned (.iface 67 (.int .i64 F)) ∧ Below W.heap.size W w')) :
    Calls Tryd.prog 24 #[.agg #[.slice ao m acap, .slice co n ccap], .agg #[.int .i64 (p 0), .int .i64 (p 1), .int .i64 (p 2)]] w fun e w' => e = .returned (.tuple #[.agg #[.slice none 0 0, .slice none 0 0], .iface 67 (.int .i64 F)]) ∧ Below w.heap.size w w' := by
  obtain ⟨w1, hw1⟩ : ∃ w1, w1 = ((w.alloc (.cells #[.slice ao m acap, .slice co n ccap] 25)).alloc (.cells #[.int .i64 (p 0), .int .i64 (p 1), .int .i64 (p 2)] 36)).alloc (.cells #[.slice none 0 0, .slice none 0 0] 25) := ⟨_, rfl⟩
  obtain ⟨k0, k1, k2, b1⟩ := three_blocks w (.cells #[.slice ao m acap, .slice co n ccap] 25) (.cells #[.int .i64 (p 0), .int .i64 (p 1), .int .i64 (p 2)] 36) (.cells #[.slice none 0 0, .slice none 0 0] 25)
  rw [← hw1] at k0 k1 k2 b1
  have HB1 : Hid (Below w.heap.size w w1) := b1
  have HK0 : Hid (Blk w1 w.heap.size 25 #[.slice ao m acap, .slice co n ccap]) := k0
  have HK1 : Hid (Blk w1 (w.heap.size + 1) 36 (arr3 p)) := k1
  have HK2 : Hid (Blk w1 (w.heap.size + 1 + 1) 25 #[.slice none 0 0, .slice none 0 0]) := k2
  clear k0 k1 k2 b1
  go_enter Tryd.func24, Tryd.ntmps24
  go_upto_region 1 with fail
  rw [← hw1]
  clear hw1
  have x0 : w1.cell? ⟨w.heap.size, 0, none⟩ = some (.slice ao m acap) := HK0.out.cell 0
  have x1 : w1.cell? ⟨w.heap.size, 1, none⟩ = some (.slice co n ccap) := HK0.out.cell 1
  go_wp2_with fail
  go_at_call 40
  refine (HF.out _ HB1.out).mono ?_
  rintro e w2 ⟨rfl, hb⟩
  have HB2 : Hid (Below w.heap.size w w2) := HB1.out.trans (hb.mono HB1.out.size)
  have HF2 : Hid (Blk w2 w.heap.size 25 #[.slice ao m acap, .slice co n ccap]) := HK0.out.below hb
  have HP2 : Hid (Blk w2 (w.heap.size + 1) 36 (arr3 p)) := HK1.out.below hb
  have HR2 : Hid (Blk w2 (w.heap.size + 1 + 1) 25 #[.slice none 0 0, .slice none 0 0]) := HK2.out.below hb
  clear hb x0 x1
  have y0 := HR2.out.cell 0
  have y1 := HR2.out.cell 1
  have f0 := HR2.out.frozen 0
  have f1 := HR2.out.frozen 1
  simp only [List.getElem?_toArray, List.getElem?_cons_zero, List.getElem?_cons_succ] at y0 y1
  go_wp2
  have hld := load_formT ((((HR2.out.set 0 (.slice none 0 0)).set 1 (.slice none 0 0)).cell 0)) ((((HR2.out.set 0 (.slice none 0 0)).set 1 (.slice none 0 0)).cell 1))
  refine bodyPost_ret (v := .tuple #[.agg #[.slice none 0 0, .slice none 0 0], .iface 67 (.int .i64 F)]) ?_ rfl ⟨rfl, ?_⟩
  · rw [results_cell_tmp rfl]
    simp [asAddr, Result.andThen, hld]
  · exact (HB2.out.setCell (by show _ ≤ w.heap.size + 1 + 1; omega) _).setCell (by show _ ≤ w.heap.size + 1 + 1; omega) _

set_option maxHeartbeats 4000000 in
theorem names_no (ao : Option Addr) (m acap : Nat) (co : Option Addr) (n ccap : Nat) (p : Nat → Int) (w : World) (hno : onceB (listP p) = false)
    (HF : Hid (∀ W, Below w.heap.size w W → Calls Tryd.prog 40 #[.agg #[.slice ao m acap, .slice co n ccap]] W fun e w' => e = .returned .nilIface ∧ Below W.heap.size W w')) :
    Calls Tryd.prog 24 #[.agg #[.slice ao m acap, .slice co n ccap], .agg #[.int .i64 (p 0), .int .i64 (p 1), .int .i64 (p 2)]] w fun e w' => e = .returned (.tuple #[.agg #[.slice none 0 0, .slice none 0 0], .iface 67 (.int .i64 1)]) ∧ Below w.heap.size w w' := by
  obtain ⟨w1, hw1⟩ : ∃ w1, w1 = ((w.alloc (.cells #[.slice ao m acap, .slice co n ccap] 25)).alloc (.cells #[.int .i64 (p 0), .int .i64 (p 1), .int .i64 (p 2)] 36)).alloc (.cells #[.slice none 0 0, .slice none 0 0] 25) := ⟨_, rfl⟩
  obtain ⟨k0, k1, k2, b1⟩ := three_blocks w (.cells #[.slice ao m acap, .slice co n ccap] 25) (.cells #[.int .i64 (p 0), .int .i64 (p 1), .int .i64 (p 2)] 36) (.cells #[.slice none 0 0, .slice none 0 0] 25)
  rw [← hw1] at k0 k1 k2 b1
  have HB1 : Hid (Below w.heap.size w w1) := b1
  have HK0 : Hid (Blk w1 w.heap.size 25 #[.slice ao m acap, .slice co n ccap]) := k0
  have HK1 : Hid (Blk w1 (w.heap.size + 1) 36 (arr3 p)) := k1
  have HK2 : Hid (Blk w1 (w.heap.size + 1 + 1) 25 #[.slice none 0 0, .slice none 0 0]) := k2
  clear k0 k1 k2 b1
  go_enter Tryd.func24, Tryd.ntmps24
  go_upto_region 1 with fail
  rw [← hw1]
  clear hw1
  have x0 : w1.cell? ⟨w.heap.size, 0, none⟩ = some (.slice ao m acap) := HK0.out.cell 0
  have x1 : w1.cell? ⟨w.heap.size, 1, none⟩ = some (.slice co n ccap) := HK0.out.cell 1
  go_wp2_with fail
  go_at_call 40
  refine (HF.out _ HB1.out).mono ?_
  rintro e w2 ⟨rfl, hb⟩
  have HB2 : Hid (Below w.heap.size w w2) := HB1.out.trans (hb.mono HB1.out.size)
  have HF2 : Hid (Blk w2 w.heap.size 25 #[.slice ao m acap, .slice co n ccap]) := HK0.out.below hb
  have HP2 : Hid (Blk w2 (w.heap.size + 1) 36 (arr3 p)) := HK1.out.below hb
  have HR2 : Hid (Blk w2 (w.heap.size + 1 + 1) 25 #[.slice none 0 0, .slice none 0 0]) := HK2.out.below hb
  clear hb x0 x1
  have HE : Hid (Calls Tryd.prog 46 #[.slice (some ⟨w.heap.size + 1, 0, none⟩) 3 3] w2 fun e w' => e = .returned (.bool false) ∧ Below w2.heap.size w2 w') := by
    have := eachOnce_any (listP p) (by show 3 ≤ 6; omega) _ w2 (listP_reads HP2.out)
    rw [hno] at this
    exact this
  clear hno
  go_wp2_with fail
  go_at_call 46
  refine HE.out.mono ?_
  rintro e w3 ⟨rfl, hb⟩
  have HB3 : Hid (Below w.heap.size w w3) := HB2.out.trans (hb.mono HB2.out.size)
  have HR3 : Hid (Blk w3 (w.heap.size + 1 + 1) 25 #[.slice none 0 0, .slice none 0 0]) := HR2.out.below hb
  clear hb
  have y0 := HR3.out.cell 0
  have y1 := HR3.out.cell 1
  have f0 := HR3.out.frozen 0
  have f1 := HR3.out.frozen 1
  simp only [List.getElem?_toArray, List.getElem?_cons_zero, List.getElem?_cons_succ] at y0 y1
  go_wp2
  have hld := load_formT ((((HR3.out.set 0 (.slice none 0 0)).set 1 (.slice none 0 0)).cell 0)) ((((HR3.out.set 0 (.slice none 0 0)).set 1 (.slice none 0 0)).cell 1))
  refine bodyPost_ret (v := .tuple #[.agg #[.slice none 0 0, .slice none 0 0], .iface 67 (.int .i64 1)]) ?_ rfl ⟨rfl, ?_⟩
  · rw [results_cell_tmp rfl]
    simp [asAddr, Result.andThen, hld]
  · exact (HB3.out.setCell (by show _ ≤ w.heap.size + 1 + 1; omega) _).setCell (by show _ ≤ w.heap.size + 1 + 1; omega) _

set_option maxHeartbeats 8000000 in
theorem names_good (B off m acap : Nat) (co : Option Addr) (n ccap : Nat) (ats : List At) (c : List Int) (p : Nat → Int) (w : World) (hon : onceB (listP p) = true) (hm : m = ats.length) (h1 : 0 < m) (h6 : m ≤ 6) (hcap : m ≤ acap) (hn : n = c.length) (hn1 : 0 < n) (hn2 : n ≤ 20)
    (hB : B < w.heap.size) (hatm : ∀ i a, ats[i]? = some a → AtomAt w B (off + i * 4) a) (hC : Reads w (.slice co n ccap) c)
    (hall : ∀ a ∈ ats, (a.s.all signB = true ∧ a.s.length ≤ 12) ∧ (a.t.all signB = true ∧ a.t.length ≤ 12))
    (HF : Hid (∀ W, Below w.heap.size w W → Calls Tryd.prog 40 #[.agg #[.slice (some ⟨B, off, none⟩) m acap, .slice co n ccap]] W fun e w' => e = .returned .nilIface ∧ Below W.heap.size W w')) :
    Calls Tryd.prog 24 #[.agg #[.slice (some ⟨B, off, none⟩) m acap, .slice co n ccap], .agg #[.int .i64 (p 0), .int .i64 (p 1), .int .i64 (p 2)]] w fun e w' => ∃ va' vc', e = .returned (.tuple #[.agg #[va', vc'], .nilIface]) ∧ ReadsA w' va' (renL p ats) ∧ Reads w' vc' c ∧ Below w.heap.size w w' := by
  obtain ⟨i0, hi, hz0, hz1, hz2⟩ := info_parts infoAT
  have HA : Hid (∀ W, Below w.heap.size w W → ∀ k a, ats[k]? = some a → AtomAt W B (off + k * 4) a) := fun W hW k a h => (hatm k a h).below hB hW
  have HAl : Hid (∀ a ∈ ats, (a.s.all signB = true ∧ a.s.length ≤ 12) ∧ (a.t.all signB = true ∧ a.t.length ≤ 12)) := hall
  have HCl : Hid (∀ W, Below w.heap.size w W → Calls Tryd.prog 48 #[.slice co n ccap] W fun e w' => ∃ o q, e = .returned (.slice o n q) ∧ FreshT W.heap.size w' (.slice o n q) c ∧ Below W.heap.size W w') := fun W hW => by
    refine (clone_any c _ W (hC.below hW) (by omega) (by omega)).mono ?_
    rintro e w' ⟨v', rfl, hf, hb⟩
    obtain ⟨o, q, rfl⟩ := freshT_slice hf
    rw [← hn] at hf ⊢
    exact ⟨o, q, rfl, hf, hb⟩
  have HM : Hid (m = ats.length) := hm
  have HML : Hid ((renL p ats).length = m) := by unfold Hid; rw [hm]; unfold renL; rw [List.length_map]
  clear hall hatm hB hC hm hn
  obtain ⟨w1, hw1⟩ : ∃ w1, w1 = ((w.alloc (.cells #[.slice (some ⟨B, off, none⟩) m acap, .slice co n ccap] 25)).alloc (.cells #[.int .i64 (p 0), .int .i64 (p 1), .int .i64 (p 2)] 36)).alloc (.cells #[.slice none 0 0, .slice none 0 0] 25) := ⟨_, rfl⟩
  obtain ⟨k0, k1, k2, b1⟩ := three_blocks w (.cells #[.slice (some ⟨B, off, none⟩) m acap, .slice co n ccap] 25) (.cells #[.int .i64 (p 0), .int .i64 (p 1), .int .i64 (p 2)] 36) (.cells #[.slice none 0 0, .slice none 0 0] 25)
  rw [← hw1] at k0 k1 k2 b1
  have HB1 : Hid (Below w.heap.size w w1) := b1
  have HK0 : Hid (Blk w1 w.heap.size 25 #[.slice (some ⟨B, off, none⟩) m acap, .slice co n ccap]) := k0
  have HK1 : Hid (Blk w1 (w.heap.size + 1) 36 (arr3 p)) := k1
  have HK2 : Hid (Blk w1 (w.heap.size + 1 + 1) 25 #[.slice none 0 0, .slice none 0 0]) := k2
  clear k0 k1 k2 b1
  have HEn : Hid (∀ W, Blk W (w.heap.size + 1) 36 (arr3 p) → Calls Tryd.prog 46 #[.slice (some ⟨w.heap.size + 1, 0, none⟩) 3 3] W fun e w' => e = .returned (.bool true) ∧ Below W.heap.size W w') := fun W hW => by
    have := eachOnce_any (listP p) (by show 3 ≤ 6; omega) _ W (listP_reads hW)
    rw [hon] at this
    exact this
  clear hon
  go_enter Tryd.func24, Tryd.ntmps24
  go_upto_region 1 with fail
  rw [← hw1]
  clear hw1
  have x0 : w1.cell? ⟨w.heap.size, 0, none⟩ = some (.slice (some ⟨B, off, none⟩) m acap) := HK0.out.cell 0
  have x1 : w1.cell? ⟨w.heap.size, 1, none⟩ = some (.slice co n ccap) := HK0.out.cell 1
  go_wp2_with fail
  go_at_call 40
  refine (HF.out _ HB1.out).mono ?_
  rintro e w2 ⟨rfl, hb⟩
  have HB2 : Hid (Below w.heap.size w w2) := HB1.out.trans (hb.mono HB1.out.size)
  have HF2 : Hid (Blk w2 w.heap.size 25 #[.slice (some ⟨B, off, none⟩) m acap, .slice co n ccap]) := HK0.out.below hb
  have HP2 : Hid (Blk w2 (w.heap.size + 1) 36 (arr3 p)) := HK1.out.below hb
  have HR2 : Hid (Blk w2 (w.heap.size + 1 + 1) 25 #[.slice none 0 0, .slice none 0 0]) := HK2.out.below hb
  clear hb x0 x1
  go_wp2_with fail
  go_at_call 46
  refine (HEn.out _ HP2.out).mono ?_
  rintro e w3 ⟨rfl, hb⟩
  have HB3 : Hid (Below w.heap.size w w3) := HB2.out.trans (hb.mono HB2.out.size)
  have HF3 : Hid (Blk w3 w.heap.size 25 #[.slice (some ⟨B, off, none⟩) m acap, .slice co n ccap]) := HF2.out.below hb
  have HP3 : Hid (Blk w3 (w.heap.size + 1) 36 (arr3 p)) := HP2.out.below hb
  have HR3 : Hid (Blk w3 (w.heap.size + 1 + 1) 25 #[.slice none 0 0, .slice none 0 0]) := HR2.out.below hb
  clear hb
  have x0 : w3.cell? ⟨w.heap.size, 0, none⟩ = some (.slice (some ⟨B, off, none⟩) m acap) := HF3.out.cell 0
  obtain ⟨G, hG⟩ : ∃ G, G = w3.heap.size := ⟨_, rfl⟩
  have HG : Hid (w3.heap.size = G) := hG.symm
  have HGs : Hid (w.heap.size + 1 + 1 < G) := by unfold Hid; rw [hG]; exact HR3.out.lt
  go_wp2_with (first | (at_make; refine wpList_make_full _ rfl _ _ 22 rfl G 49 i0 (.agg #[.int .i64 0, .slice none 0 0, .slice none 0 0, .int .i64 0]) 4 Tryd.underlying22 hi hz0 hz1 .i64 .i64 _ _ m rfl rfl ?m0 ?m1 ?m2 ?m3 ?m4 ?_))
  case m0 => rfl
  case m1 => rfl
  case m2 => rw [hz2]; omega
  case m3 => unfold maxLen; omega
  case m4 => omega
  intro w4 hown1 hgrow1
  have HO : Hid (FillT G w4 (renL p ats) m 0 ∧ Below G w3 w4) := by
    have h3 : ∃ xs, w4.ownsRow G 49 4 (.slice (some ⟨G, 0, none⟩) m m) m xs := by
      have h4 := hown1
      rw [hG]
      exact ⟨_, h4⟩
    obtain ⟨xs, h3⟩ := h3
    exact ⟨⟨xs, h3, fun i a h => by omega⟩, (Below.refl _ _).grown hgrow1 (by omega) (fun k hk => by cases hk)⟩
  rw [← hG]
  clear hown1 hgrow1 hG x0
  have x0 : w4.cell? ⟨w.heap.size, 0, none⟩ = some (.slice (some ⟨B, off, none⟩) m acap) := (HO.out.2.cell (show w.heap.size < G by have := HGs.out; omega)).trans (HF3.out.cell 0)
  go_wp2
  clear x0
  go_loopw [8, 9, 28] (fun _ _ i wr => ∃ k : Nat, k ≤ m ∧ i = .int .i64 k ∧ FillT G wr (renL p ats) m k ∧ Below G w3 wr) (fun _ _ i _ => m - (intOf i).toNat)
  case atStart => exact ⟨0, Nat.zero_le _, rfl, HO.out.1, HO.out.2⟩
  case round =>
    obtain ⟨k, hk, rfl, hfill, hbel⟩ := hrel
    have HFl : Hid (FillT G wr (renL p ats) m k) := hfill
    have HB : Hid (Below G w3 wr) := hbel
    have HBw : Hid (Below w.heap.size w wr) := HB3.out.trans (hbel.mono (by have := HGs.out; omega))
    clear hfill hbel
    by_cases hlt : k < m
    · obtain ⟨a, ha⟩ : ∃ a, ats[k]? = some a := ⟨_, List.getElem?_eq_getElem (by have := HM.out; omega)⟩
      have HGr : Hid (G < wr.heap.size) := by
        obtain ⟨xs, h1, _⟩ := HFl.out
        exact (ownsRow_block h1).2.1
      obtain ⟨vs, vt, c0, c1, c2, c3, r1, r2⟩ := HA.out wr HBw.out k a ha
      obtain ⟨sao, scap, rfl, _⟩ := r1.slice
      obtain ⟨tao, tcap, rfl, _⟩ := r2.slice
      have HAll := HAl.out a (List.mem_of_getElem? ha)
      have Ha : Hid ((renL p ats)[k]? = some (renA p a)) := by unfold Hid renL; rw [List.getElem?_map, ha]; rfl
      obtain ⟨ak, as', at', an⟩ := a
      simp only at c0 c1 c2 c3 r1 r2 HAll ⊢
      clear ha
      obtain ⟨w5, hw5⟩ : ∃ w5, w5 = wr.alloc (.cells #[.int .i64 ak, .slice sao as'.length scap, .slice tao at'.length tcap, .int .i64 an] 49) := ⟨_, rfl⟩
      have HB5 : Hid (Below wr.heap.size wr w5) := by unfold Hid; rw [hw5]; exact below_alloc1 wr _
      have HS5 : Hid (w5.heap.size = wr.heap.size + 1) := by unfold Hid; rw [hw5]; simp
      have HX5 : Hid (w5.cell? ⟨wr.heap.size, 0, none⟩ = some (.int .i64 ak) ∧ w5.cell? ⟨wr.heap.size, 1, none⟩ = some (.slice sao as'.length scap) ∧ w5.cell? ⟨wr.heap.size, 2, none⟩ = some (.slice tao at'.length tcap) ∧ w5.cell? ⟨wr.heap.size, 3, none⟩ = some (.int .i64 an)) := by
        unfold Hid; rw [hw5]; simp
      have HF5 : Hid (FillT G w5 (renL p ats) m k) := HFl.out.below HB5.out
      have HP5 : Hid (w5.cell? ⟨w.heap.size + 1, 0, none⟩ = some (.int .i64 (p 0)) ∧ w5.cell? ⟨w.heap.size + 1, 1, none⟩ = some (.int .i64 (p 1)) ∧ w5.cell? ⟨w.heap.size + 1, 2, none⟩ = some (.int .i64 (p 2))) := by
        have e : ∀ j, w5.cell? ⟨w.heap.size + 1, j, none⟩ = w3.cell? ⟨w.heap.size + 1, j, none⟩ := fun j => by
          have hg := HGs.out
          have hg2 := HGr.out
          exact (HB5.out.cell (show w.heap.size + 1 < wr.heap.size by omega)).trans (HB.out.cell (show w.heap.size + 1 < G by omega))
        unfold Hid
        rw [e, e, e]
        exact HP3.out.cells3
      have HX : Hid (∀ W, Below w5.heap.size w5 W → (W.cell? ⟨wr.heap.size, 0, none⟩ = some (.int .i64 ak) ∧ W.cell? ⟨wr.heap.size, 1, none⟩ = some (.slice sao as'.length scap) ∧ W.cell? ⟨wr.heap.size, 2, none⟩ = some (.slice tao at'.length tcap) ∧ W.cell? ⟨wr.heap.size, 3, none⟩ = some (.int .i64 an)) ∧ (W.cell? ⟨w.heap.size + 1, 0, none⟩ = some (.int .i64 (p 0)) ∧ W.cell? ⟨w.heap.size + 1, 1, none⟩ = some (.int .i64 (p 1)) ∧ W.cell? ⟨w.heap.size + 1, 2, none⟩ = some (.int .i64 (p 2)))) := fun W hW => by
        have e : ∀ j, W.cell? ⟨wr.heap.size, j, none⟩ = w5.cell? ⟨wr.heap.size, j, none⟩ := fun j => hW.cell (show (⟨wr.heap.size, j, none⟩ : Addr).block < _ by have := HS5.out; simp; omega)
        have e2 : ∀ j, W.cell? ⟨w.heap.size + 1, j, none⟩ = w5.cell? ⟨w.heap.size + 1, j, none⟩ := fun j => hW.cell (show w.heap.size + 1 < w5.heap.size by have := HS5.out; have := HGs.out; have := HGr.out; omega)
        simp only [e, e2]; exact ⟨HX5.out, HP5.out⟩
      obtain ⟨z0, z1, z2, z3, ⟨t0, t1, t2, t3⟩, ⟨f0, f1, f2, f3⟩⟩ := HF5.out.there hlt
      have HT : Hid (∀ W, Below w5.heap.size w5 W → (W.cell? ⟨G, k * 4, none⟩ = some z0 ∧ W.cell? ⟨G, k * 4 + 1, none⟩ = some z1 ∧ W.cell? ⟨G, k * 4 + 2, none⟩ = some z2 ∧ W.cell? ⟨G, k * 4 + 3, none⟩ = some z3) ∧ (W.frozen? ⟨G, k * 4, none⟩ = false ∧ W.frozen? ⟨G, k * 4 + 1, none⟩ = false ∧ W.frozen? ⟨G, k * 4 + 2, none⟩ = false ∧ W.frozen? ⟨G, k * 4 + 3, none⟩ = false)) := fun W hW => by
        have hb : G < w5.heap.size := by have := HS5.out; have := HGr.out; omega
        refine ⟨⟨?_, ?_, ?_, ?_⟩, ?_, ?_, ?_, ?_⟩
        · rw [hW.cell hb]; exact t0
        · rw [hW.cell hb]; exact t1
        · rw [hW.cell hb]; exact t2
        · rw [hW.cell hb]; exact t3
        · rw [hW.frozen hb]; exact f0
        · rw [hW.frozen hb]; exact f1
        · rw [hW.frozen hb]; exact f2
        · rw [hW.frozen hb]; exact f3
      clear t0 t1 t2 t3 f0 f1 f2 f3
      have HCs : Hid (∀ (v : Value) (x : List Int), Reads w5 v x → x.all signB = true → x.length ≤ 12 → ∀ W, Below w5.heap.size w5 W → Calls Tryd.prog 47 #[v, .agg #[.int .i64 (p 0), .int .i64 (p 1), .int .i64 (p 2)]] W fun e w' => ∃ o c, e = .returned (.slice o x.length c) ∧ FreshT W.heap.size w' (.slice o x.length c) (renT p x) ∧ Below W.heap.size W w' ∧ Below w5.heap.size w5 w' ∧ ((w'.cell? ⟨wr.heap.size, 0, none⟩ = some (.int .i64 ak) ∧ w'.cell? ⟨wr.heap.size, 1, none⟩ = some (.slice sao as'.length scap) ∧ w'.cell? ⟨wr.heap.size, 2, none⟩ = some (.slice tao at'.length tcap) ∧ w'.cell? ⟨wr.heap.size, 3, none⟩ = some (.int .i64 an)) ∧ (w'.cell? ⟨w.heap.size + 1, 0, none⟩ = some (.int .i64 (p 0)) ∧ w'.cell? ⟨w.heap.size + 1, 1, none⟩ = some (.int .i64 (p 1)) ∧ w'.cell? ⟨w.heap.size + 1, 2, none⟩ = some (.int .i64 (p 2)))) ∧ ((w'.cell? ⟨G, k * 4, none⟩ = some z0 ∧ w'.cell? ⟨G, k * 4 + 1, none⟩ = some z1 ∧ w'.cell? ⟨G, k * 4 + 2, none⟩ = some z2 ∧ w'.cell? ⟨G, k * 4 + 3, none⟩ = some z3) ∧ (w'.frozen? ⟨G, k * 4, none⟩ = false ∧ w'.frozen? ⟨G, k * 4 + 1, none⟩ = false ∧ w'.frozen? ⟨G, k * 4 + 2, none⟩ = false ∧ w'.frozen? ⟨G, k * 4 + 3, none⟩ = false))) := fun v x hR hx hl W hW => by
        refine (renamed_any x p hx hl v W (hR.below hW)).mono ?_
        rintro e w' ⟨v', K, rfl, hKs, hown, hb⟩
        have hfr : FreshT W.heap.size w' v' (renT p x) := by
          unfold FreshT
          rw [renT_length]
          exact World.ownsRow.mono hown hKs
        obtain ⟨o, c, rfl⟩ := freshT_slice hfr
        rw [renT_length] at hfr ⊢
        have hb5 : Below w5.heap.size w5 w' := hW.trans (hb.mono hW.size)
        exact ⟨o, c, rfl, hfr, hb, hb5, HX.out w' hb5, HT.out w' hb5⟩
      have HCS : Hid (∀ W, Below w5.heap.size w5 W → _) := HCs.out (.slice sao as'.length scap) as' (r1.below HB5.out) HAll.1.1 HAll.1.2
      have HCT : Hid (∀ W, Below w5.heap.size w5 W → _) := HCs.out (.slice tao at'.length tcap) at' (r2.below HB5.out) HAll.2.1 HAll.2.2
      clear HCs r1 r2 HAll
      have hk0 : (0 : Int) ≤ (k : Int) := by omega
      have hk1 : (k : Int) < (m : Int) := by omega
      have hGne : G ≠ wr.heap.size := by have := HGr.out; omega
      have hGne2 : G ≠ w.heap.size + 1 := by have := HGs.out; omega
      obtain ⟨lS, hlS⟩ : ∃ lS, lS = as'.length := ⟨_, rfl⟩
      obtain ⟨lT, hlT⟩ : ∃ lT, lT = at'.length := ⟨_, rfl⟩
      rw [← hlS] at c1 hw5 HX5 HX HCS HCT
      rw [← hlT] at c2 hw5 HX5 HX HCS HCT
      clear hlS hlT
      go_wp2_with fail
      rw [← hw5]
      clear hw5 c0 c1 c2 c3
      obtain ⟨y0, y1, y2, y3⟩ := HX5.out
      obtain ⟨p0, p1, p2⟩ := HP5.out
      clear HX5 HP5
      go_region_held3 (fun w' => (w'.cell? ⟨wr.heap.size, 0, none⟩ = some (.int .i64 ak) ∧ w'.cell? ⟨wr.heap.size, 1, none⟩ = some (.slice sao lS scap) ∧ w'.cell? ⟨wr.heap.size, 2, none⟩ = some (.slice tao lT tcap) ∧ w'.cell? ⟨wr.heap.size, 3, none⟩ = some (.int .i64 an)) ∧ (w'.cell? ⟨w.heap.size + 1, 0, none⟩ = some (.int .i64 (p 0)) ∧ w'.cell? ⟨w.heap.size + 1, 1, none⟩ = some (.int .i64 (p 1)) ∧ w'.cell? ⟨w.heap.size + 1, 2, none⟩ = some (.int .i64 (p 2)))) (first | go_keep | (go_split_ands; refine ⟨⟨?_, ?_, ?_, ?_⟩, ?_, ?_, ?_⟩ <;> (first | (rw [set4_farT hGne]; assumption) | (rw [set4_farT hGne2]; assumption))))
        (first
          | (go_at_call_of 47 (Value.slice sao lS scap); refine (HCS.out _ ?_).mono ?_; (first | assumption | exact (Below.refl _ _).drew); rintro e w6 ⟨o1, q1, rfl, hfs, hbs, hb5s, ⟨⟨_, _, _, _⟩, _, _, _⟩, ⟨⟨t0, t1, t2, t3⟩, ⟨f0, f1, f2, f3⟩⟩⟩)
          | (go_at_call_of 47 (Value.slice tao lT tcap); refine (HCT.out _ ?_).mono ?_; (first | assumption | exact (Below.refl _ _).drew); rintro e w' ⟨o2, q2, rfl, hft, hbt, hb5t, ⟨⟨_, _, _, _⟩, _, _, _⟩, ⟨⟨t0, t1, t2, t3⟩, ⟨f0, f1, f2, f3⟩⟩⟩))
      have hGw : G + 1 ≤ w5.heap.size := by have := HS5.out; have := HGr.out; omega
      have hs6 : w5.heap.size ≤ w6.heap.size := hb5s.size
      have HR : Hid (FillT G ((((w'.setCell ⟨G, k * 4, none⟩ (.int .i64 ak)).setCell ⟨G, k * 4 + 1, none⟩ (.slice o1 lS q1)).setCell ⟨G, k * 4 + 2, none⟩ (.slice o2 lT q2)).setCell ⟨G, k * 4 + 3, none⟩ (.int .i64 an)) (renL p ats) m (k + 1) ∧ Below G w3 ((((w'.setCell ⟨G, k * 4, none⟩ (.int .i64 ak)).setCell ⟨G, k * 4 + 1, none⟩ (.slice o1 lS q1)).setCell ⟨G, k * 4 + 2, none⟩ (.slice o2 lT q2)).setCell ⟨G, k * 4 + 3, none⟩ (.int .i64 an))) := by
        refine ⟨FillT.set (a := renA p ⟨ak, as', at', an⟩) (HF5.out.below hb5t) Ha.out hlt (World.ownsRow.mono (hfs.below hbt) hGw) (World.ownsRow.mono hft (by omega)), ?_⟩
        have hb : Below G w3 w' := HB.out.trans ((HB5.out.trans (hb5t.mono HB5.out.size)).mono (by have := HGr.out; omega))
        exact (((hb.setCell (Nat.le_refl _) _).setCell (Nat.le_refl _) _).setCell (Nat.le_refl _) _).setCell (Nat.le_refl _) _
      clear hfs hbs hb5s hft hbt hb5t hs6 hGw
      go_wp2
      go_roundw
      case rel => exact ⟨k + 1, by omega, by go_num, HR.out.1, HR.out.2⟩
      case measure => simp [intOf]; omega
    · obtain rfl : k = m := by omega
      have x1 : wr.cell? ⟨w.heap.size, 1, none⟩ = some (.slice co n ccap) := (HB.out.cell (show w.heap.size < G by have := HGs.out; omega)).trans (HF3.out.cell 1)
      have HRr : Hid (Blk wr (w.heap.size + 1 + 1) 25 #[.slice none 0 0, .slice none 0 0]) := by
        unfold Hid Blk
        rw [HB.out.block (w.heap.size + 1 + 1) HGs.out]
        exact HR3.out
      have HGr : Hid (G < wr.heap.size) := by
        obtain ⟨xs, h1, _⟩ := HFl.out
        exact (ownsRow_block h1).2.1
      go_wp2_with fail
      go_at_call 48
      refine (HCl.out _ HBw.out).mono ?_
      rintro e w6 ⟨o, q, rfl, hfr, hb⟩
      have HR6 : Hid (Blk w6 (w.heap.size + 1 + 1) 25 #[.slice none 0 0, .slice none 0 0]) := HRr.out.below hb
      have HRA : Hid (ReadsA ((w6.setCell ⟨w.heap.size + 1 + 1, 0, none⟩ (.slice (some ⟨G, 0, none⟩) k k)).setCell ⟨w.heap.size + 1 + 1, 1, none⟩ (.slice o n q)) (.slice (some ⟨G, 0, none⟩) k k) (renL p ats)) := by
        have h1 := ((HFl.out.below hb).far (j := 0) HGs.out (.slice (some ⟨G, 0, none⟩) k k)).far (j := 1) HGs.out (.slice o n q)
        have h2 := HML.out
        unfold Hid
        rw [← h2] at h1 ⊢
        exact h1.reads (by omega) (by omega)
      have HRC : Hid (Reads ((w6.setCell ⟨w.heap.size + 1 + 1, 0, none⟩ (.slice (some ⟨G, 0, none⟩) k k)).setCell ⟨w.heap.size + 1 + 1, 1, none⟩ (.slice o n q)) (.slice o n q) c) := ((hfr.set (by have := HGs.out; have := HGr.out; omega)).set (by have := HGs.out; have := HGr.out; omega)).reads
      have HBE : Hid (Below w.heap.size w w6) := HBw.out.trans (hb.mono HBw.out.size)
      clear hfr hb x1
      have y0 := HR6.out.cell 0
      have y1 := HR6.out.cell 1
      have f0 := HR6.out.frozen 0
      have f1 := HR6.out.frozen 1
      simp only [List.getElem?_toArray, List.getElem?_cons_zero, List.getElem?_cons_succ] at y0 y1
      go_wp2
      have hld := load_formT (((HR6.out.set 0 (.slice (some ⟨G, 0, none⟩) k k)).set 1 (.slice o n q)).cell 0) (((HR6.out.set 0 (.slice (some ⟨G, 0, none⟩) k k)).set 1 (.slice o n q)).cell 1)
      refine bodyPost_ret (v := .tuple #[.agg #[.slice (some ⟨G, 0, none⟩) k k, .slice o n q], .nilIface]) ?_ rfl ⟨_, _, rfl, HRA.out, HRC.out, ?_⟩
      · rw [results_cell_tmp rfl]
        simp [asAddr, Result.andThen, hld]
      · exact (HBE.out.setCell (by show _ ≤ w.heap.size + 1 + 1; omega) _).setCell (by show _ ≤ w.heap.size + 1 + 1; omega) _

/-- Names, whatever the formula and the numbers. -/
theorem turnNames_any (va vc : Value) (ats : List At) (c : List Int) (p : Nat → Int) (w : World) (hA : ReadsA w va ats) (hC : Reads w vc c) (hK : KindsLaid w) :
    Calls Tryd.prog 24 #[.agg #[va, vc], .agg #[.int .i64 (p 0), .int .i64 (p 1), .int .i64 (p 2)]] w fun e w' => ∃ va' vc', e = .returned (.tuple #[.agg #[va', vc'], errV (namesFault ats c p)]) ∧ (namesFault ats c p = 0 → ReadsA w' va' (renL p ats) ∧ Reads w' vc' c) ∧ (¬ namesFault ats c p = 0 → va' = .slice none 0 0 ∧ vc' = .slice none 0 0) ∧ Below w.heap.size w w' := by
  have hF := fun W (hW : Below w.heap.size w W) => fcheck_any va vc ats c W (hA.below hW) (hC.below hW) (hK.below hW)
  obtain ⟨co, ccap, rfl, _⟩ := hC.slice
  by_cases hf : formFault ats c = 0
  · rw [hf] at hF
    by_cases h1 : onceB (listP p) = true
    · have hn : namesFault ats c p = 0 := names_zero.2 ⟨hf, h1⟩
      obtain ⟨⟨m1, m6⟩, ⟨n1, n2⟩, hall, _, _⟩ := formFault_zero.1 hf
      rcases hA with ⟨_, _, _, rfl⟩ | ⟨B, off, cap, rfl, hB, _, ⟨_, hcap⟩, hatm⟩
      · simp at m1
      refine (names_good B off _ cap co _ ccap ats c p w h1 rfl (by omega) m6 hcap rfl (by omega) n2 hB hatm hC (fun a ha => ?_) hF).mono ?_
      · obtain ⟨_, hs, ht, _⟩ := atomFault_zero.1 (hall a ha)
        obtain ⟨_, s2, s3, _⟩ := fault_zero.1 hs
        have ht2 : a.t.all signB = true ∧ a.t.length ≤ 12 := by
          unfold secondFault at ht
          by_cases hb : secondB a.k = true
          · rw [if_pos hb] at ht
            obtain ⟨_, t2, t3, _⟩ := fault_zero.1 ht
            exact ⟨t3, t2⟩
          · rw [if_neg hb] at ht
            have h0 : a.t = [] := by
              cases h : a.t with
              | nil => rfl
              | cons x l => rw [h] at ht; simp at ht
            rw [h0]; exact ⟨rfl, by decide⟩
        exact ⟨⟨s3, s2⟩, ht2⟩
      · rintro e w' ⟨va', vc', rfl, r1, r2, hb⟩
        rw [hn]
        exact ⟨va', vc', rfl, fun _ => ⟨r1, r2⟩, fun h => absurd rfl h, hb⟩
    · have hn : namesFault ats c p = 1 := by unfold namesFault; rw [if_pos hf, if_neg h1]
      obtain ⟨ao, acap, rfl, _⟩ := hA.slice
      refine (names_no ao _ acap co _ ccap p w (by simpa using h1) hF).mono ?_
      rintro e w' ⟨rfl, hb⟩
      rw [hn]
      exact ⟨_, _, rfl, fun h => absurd h (by decide), fun _ => ⟨rfl, rfl⟩, hb⟩
  · have hn : namesFault ats c p = formFault ats c := by unfold namesFault; rw [if_neg hf]
    rw [errV_no hf] at hF
    obtain ⟨ao, acap, rfl, _⟩ := hA.slice
    refine (names_bad ao _ acap co _ ccap p _ w hF).mono ?_
    rintro e w' ⟨rfl, hb⟩
    rw [hn, errV_no hf]
    exact ⟨_, _, rfl, fun h => absurd h hf, fun _ => ⟨rfl, rfl⟩, hb⟩
end Go.Proofs.YteknlcachfhfkahDoor

namespace Go.Proofs.YteknlcachfhfkahDoor
open Go.ChangeShapes Go.WideShapes Go.ChangeAt Go.RowKit Go.Deep
set_option maxRecDepth 100000

theorem kdG : Tryd.prog.globalNamed "vennhouse/atom.kinds" = some 0 := by kernel_rfl
theorem kdT : (Tryd.prog.globals[0]?).map (·.type) = some 116 := by kernel_rfl
theorem kdC : Tryd.prog.cellsOf 115 = 3 := by kernel_rfl
theorem kdA : Tryd.prog.cellsOf 116 = 18 := by kernel_rfl
theorem kdS : Tryd.prog.cellsOf 9 = 1 := by kernel_rfl
theorem kdB : Tryd.prog.cellsOf 4 = 1 := by kernel_rfl

theorem kind_of_trod {w : World} {cs : List Value} {fuel : Nat} {text : List UInt8} {b1 b2 : Bool} {y : DataW Unit × List MemPlace} (hy : y.1 = .agg [.lit (.string text), .lit (.bool b1), .lit (.bool b2)])
    (h : DataW.trod (fun _ => ()) Tryd.prog w 0 (fun _ => true) false fuel 115 cs = some y) : cs = [.string ⟨text.toArray⟩, .bool b1, .bool b2] := by
  obtain ⟨y0, y1, y2, n, e, hl, t0, t1, t2⟩ := trod_struct3 Tryd.underlying115 h
  rw [kdC] at hl
  obtain ⟨c0, c1, c2, rfl⟩ : ∃ c0 c1 c2, cs = [c0, c1, c2] := by
    match cs, hl with
    | [a, b, c], _ => exact ⟨a, b, c, rfl⟩
  · simp only [kdS, kdB] at t0 t1 t2
    obtain ⟨s, e0, f0, _⟩ := DataW.trod_string Tryd.underlying9 t0
    obtain ⟨x1, e1, f1⟩ := DataW.trod_bool Tryd.underlying4 t1
    obtain ⟨x2, e2, f2⟩ := DataW.trod_bool Tryd.underlying4 t2
    simp at e0 e1 e2
    subst e0 e1 e2
    subst f0 f1 f2
    subst e
    simp at hy
    obtain ⟨rfl, rfl, rfl⟩ := hy
    rfl

theorem kinds_of_head {r : List (String × DataW Unit)} {W : World} (h : laidMet Tryd.prog (("vennhouse/atom.kinds", Rows.laid_vennhouse_atom_kinds) :: r) W) : KindsLaid W := by
  obtain ⟨ps, ⟨g0, t0, cs0, f0, p0, q0, hg0, ht0, hv0, hd0, _, e0⟩, _, hrows⟩ := h
  obtain rfl := Option.some.inj (kdG.symm.trans hg0)
  obtain rfl := Option.some.inj (kdT.symm.trans ht0)
  obtain ⟨xs, m, _, hx, hlen, hxl, hi⟩ := DataW.trod_array Tryd.underlying116 hd0
  simp only [kdC] at hi
  rw [kdA] at hlen
  have hx1 : Rows.laid_vennhouse_atom_kinds = .agg (xs.map (·.1)) := congrArg Prod.fst hx
  obtain ⟨a0, a1, a2, a3, a4, a5, rfl⟩ : ∃ a0 a1 a2 a3 a4 a5, xs = [a0, a1, a2, a3, a4, a5] := by
    match xs, hxl with
    | [a, b, c, d, e, f], _ => exact ⟨a, b, c, d, e, f, rfl⟩
  · unfold Rows.laid_vennhouse_atom_kinds at hx1
    simp only [List.map, DataW.agg.injEq, List.cons.injEq, and_true] at hx1
    obtain ⟨g0, g1, g2, g3, g4, g5⟩ := hx1
    have k0 := kind_of_trod g0.symm (hi 0 (by decide))
    have k1 := kind_of_trod g1.symm (hi 1 (by decide))
    have k2 := kind_of_trod g2.symm (hi 2 (by decide))
    have k3 := kind_of_trod g3.symm (hi 3 (by decide))
    have k4 := kind_of_trod g4.symm (hi 4 (by decide))
    have k5 := kind_of_trod g5.symm (hi 5 (by decide))
    have hl : cs0.toList = kindCells := by
      have e : cs0.toList = (cs0.toList.drop (0 * 3)).take 3 ++ ((cs0.toList.drop (1 * 3)).take 3 ++ ((cs0.toList.drop (2 * 3)).take 3 ++ ((cs0.toList.drop (3 * 3)).take 3 ++ ((cs0.toList.drop (4 * 3)).take 3 ++ ((cs0.toList.drop (5 * 3)).take 3))))) := by
        match cs0.toList, hlen with
        | [_, _, _, _, _, _, _, _, _, _, _, _, _, _, _, _, _, _], _ => rfl
      rw [e, k0, k1, k2, k3, k4, k5]
      rfl
    intro j hj
    have hc := World.var?_cell kdG hv0 j
    rw [hc]
    have : cs0[j]? = cs0.toList[j]? := by simp
    rw [this, hl]
    have hj' : j < kindCells.length := hj
    simp [List.getElem?_eq_getElem hj']
end Go.Proofs.YteknlcachfhfkahDoor

namespace Go.Proofs.YteknlcachfhfkahDoor
open Go.ChangeShapes Go.WideShapes Go.ChangeAt Go.RowKit

theorem ownK : ownKnob Tryd.prog.godebug = none := by kernel_rfl
theorem etG : Tryd.prog.globalNamed "errors.errorType" = some 1 := by kernel_rfl
theorem rtT : (Tryd.prog.cutTypes.find? (·.1 == "internal/reflectlite.rtype")).map (·.2) = some 141 := by kernel_rfl
theorem oneRow : ((List.range 190).filter fun t => Tryd.prog.rowNamed t [101, 114, 114, 111, 114]) = [28] := by kernel_rfl
theorem sizeT : Tryd.prog.types.size = 190 := by kernel_rfl
theorem handleE : typeHandle Tryd.prog 28 = .pointer (some ⟨2, 28, none⟩) := by kernel_rfl

def laidE : List (String × DataW Unit) := [("errors.errorType", Rows.laid_errors_errorType)]

/-- what the condition gives a walk: the variable's one cell. -/
theorem laid_of_met {W : World} (h : laidMetH Tryd.prog laidE W) : Laid W := by
  have h' : laidMet Tryd.prog [] W ∧ handlesMet Tryd.prog laidE W := h
  obtain ⟨name, u, ty, e1, e2, e3, e4, e5⟩ := h'.2 _ (List.mem_singleton.2 rfl)
  have en : name = [101, 114, 114, 111, 114] := (Option.some.inj e1).symm
  subst en
  obtain rfl := Option.some.inj (rtT.symm.trans e2)
  have hm : ty ∈ (List.range 190).filter fun t => Tryd.prog.rowNamed t [101, 114, 114, 111, 114] := List.mem_filter.2 ⟨List.mem_range.2 (by rw [← sizeT]; exact e3), e4⟩
  rw [oneRow] at hm
  obtain rfl := List.mem_singleton.1 hm
  rw [handleE] at e5
  simpa [Laid] using World.var?_cell etG e5 0

/-- the heap that the door's own run leaves meets the condition. -/
theorem door_met (os : Os) (args : Array Value) : laidMetH Tryd.prog laidE ((World.doorLaid Tryd.prog 400 os).forCall (fun _ _ => 0) ⟨#[], args, []⟩).memory :=
  laidMetH_of_parts3 (fuel := 8) (laidMet_of_run' 8 (by kernel_rfl) (by kernel_rfl)) (by kernel_rfl) (by kernel_rfl)
end Go.Proofs.YteknlcachfhfkahDoor

namespace Go.Proofs.YteknlcachfhfkahDoor
open Go.ChangeShapes Go.WideShapes Go.ChangeAt Go.RowKit
set_option maxRecDepth 100000

def laidT : List (String × DataW Unit) := [("errors.errorType", Rows.laid_errors_errorType), ("vennhouse/atom.kinds", Rows.laid_vennhouse_atom_kinds)]
theorem form_of_met {W : World} (h : laidMetH Tryd.prog laidT W) : Laid W ∧ KindsLaid W := by
  have h' : laidMet Tryd.prog [("vennhouse/atom.kinds", Rows.laid_vennhouse_atom_kinds)] W ∧ handlesMet Tryd.prog laidE W := h
  refine ⟨?_, kinds_of_head h'.1⟩
  obtain ⟨name, u, ty, e1, e2, e3, e4, e5⟩ := h'.2 _ (List.mem_singleton.2 rfl)
  have en : name = [101, 114, 114, 111, 114] := (Option.some.inj e1).symm
  subst en
  obtain rfl := Option.some.inj (rtT.symm.trans e2)
  have hm : ty ∈ (List.range 190).filter fun t => Tryd.prog.rowNamed t [101, 114, 114, 111, 114] := List.mem_filter.2 ⟨List.mem_range.2 (by rw [← sizeT]; exact e3), e4⟩
  rw [oneRow] at hm
  obtain rfl := List.mem_singleton.1 hm
  rw [handleE] at e5
  simpa [Laid] using World.var?_cell etG e5 0
theorem doorT_met (os : Os) (args : Array Value) : laidMetH Tryd.prog laidT ((World.doorLaid Tryd.prog 400 os).forCall (fun _ _ => 0) ⟨#[], args, []⟩).memory :=
  laidMetH_of_parts3 (fuel := 8) (laidMet_of_run' 8 (by kernel_rfl) (by kernel_rfl)) (by kernel_rfl) (by kernel_rfl)
end Go.Proofs.YteknlcachfhfkahDoor

namespace Go.Proofs.YteknlcachfhfkahDoor
open Go.ChangeShapes Go.WideShapes Go.ChangeAt Go.RowKit Go.WideMaps Go.WideElems
open Go.ChangeMaps (open_string)

theorem laidOutA : laidOutB Tryd.prog = true := by kernel_rfl
theorem cellsInt : Tryd.prog.cellsOf 3 = 1 := by kernel_rfl
theorem cellsWorld : Tryd.prog.cellsOf 38 = 4 := by kernel_rfl
theorem cellsArr : Tryd.prog.cellsOf 36 = 3 := by kernel_rfl

set_option maxRecDepth 100000 in
theorem reads_arg {H : Type} {enc : TypeId × Value → H} {W : World} {v : Value} {d : DataW H} {p : List MemPlace} {r : Reach} {b0 : Nat} (hv : Value.okWide Tryd.prog W r b0 23 v) (h : DataW.Trod enc Tryd.prog W 0 (fun _ => true) true 23 v d p) :
    ∃ t, Reads W v t := by
  obtain ⟨a0, len, cap, rfl⟩ := okWide_slice Tryd.underlying23 hv
  obtain ⟨fuel, hf⟩ := h
  rcases open_ints Tryd.underlying23 Tryd.underlying3 cellsInt hf with ⟨hcs, hx⟩ | ⟨a, len', cap', zs, hcs, _, hl, hm, hz, hx, hcell, hwz⟩
  · simp [Value.cells] at hcs
    obtain ⟨rfl, rfl, rfl⟩ := hcs
    exact ⟨[], Or.inl ⟨none, 0, rfl, rfl⟩⟩
  · simp [Value.cells] at hcs
    obtain ⟨rfl, rfl, rfl⟩ := hcs
    rw [if_pos rfl] at hz
    rcases Nat.eq_zero_or_pos len with h0 | h0
    · subst h0; exact ⟨[], Or.inl ⟨_, _, rfl, rfl⟩⟩
    · obtain ⟨b, off, rfl, hc⟩ := ints_at hcell (by omega)
      have hlen : (zs.take len).length = len := by rw [List.length_take]; omega
      unfold maxLen at hm
      refine ⟨zs.take len, Or.inr ⟨b, off, cap, by rw [hlen], ?_, by omega, ⟨by omega, by omega⟩, fun k hk => ?_⟩⟩
      · exact World.block_lt_of_cell? W ⟨b, off, none⟩ (hc 0 (by omega))
      · rw [hc k (by omega)]
        rw [hlen] at hk
        simp [hk]
set_option maxRecDepth 100000 in
theorem world_arg {H : Type} {enc : TypeId × Value → H} {W : World} {v : Value} {d : DataW H} {p : List MemPlace} {r : Reach} {b0 : Nat} (hv : Value.okWide Tryd.prog W r b0 38 v) (h : DataW.Trod enc Tryd.prog W 0 (fun _ => true) true 38 v d p) :
    ∃ u a b c : Int, v = .agg #[.int .i64 u, .int .i64 a, .int .i64 b, .int .i64 c] := by
  obtain ⟨cs, rfl, hsz⟩ := okWide_struct Tryd.underlying38 hv
  obtain ⟨c0, c1, c2, c3, rfl⟩ := Go.Joins.array4 (hsz.trans cellsWorld)
  obtain ⟨fuel, hf⟩ := h
  obtain ⟨y0, y1, n, _, _, h0, h1⟩ := trod_struct2 Tryd.underlying38 hf
  simp only [Value.cells, cellsInt, cellsArr] at h0 h1
  obtain ⟨u, e0, _, _⟩ := DataW.trod_int Tryd.underlying3 h0
  obtain ⟨xs, m, _, _, _, hxl, hx⟩ := DataW.trod_array Tryd.underlying36 h1
  have g0 := hx 0 (by omega)
  have g1 := hx 1 (by omega)
  have g2 := hx 2 (by omega)
  simp only [cellsInt] at g0 g1 g2
  rw [List.getElem?_eq_getElem (show 0 < xs.length by omega)] at g0
  rw [List.getElem?_eq_getElem (show 1 < xs.length by omega)] at g1
  rw [List.getElem?_eq_getElem (show 2 < xs.length by omega)] at g2
  obtain ⟨a, ea, _, _⟩ := DataW.trod_int Tryd.underlying3 g0
  obtain ⟨b, eb, _, _⟩ := DataW.trod_int Tryd.underlying3 g1
  obtain ⟨c, ec, _, _⟩ := DataW.trod_int Tryd.underlying3 g2
  simp at e0 ea eb ec
  subst e0 ea eb ec
  exact ⟨u, a, b, c, rfl⟩

set_option maxRecDepth 100000 in
theorem string_arg {H : Type} {enc : TypeId × Value → H} {W : World} {v : Value} {d : DataW H} {p : List MemPlace} {r : Reach} {b0 : Nat} (hv : Value.okWide Tryd.prog W r b0 9 v) (h : DataW.Trod enc Tryd.prog W 0 (fun _ => true) true 9 v d p) :
    ∃ s : ByteArray, v = .string s ∧ s.size ≤ 9223372036854775807 := by
  obtain ⟨s, rfl, _, _, hs⟩ := open_string Tryd.underlying9 hv h
  exact ⟨s, rfl, hs⟩
set_option maxRecDepth 100000 in
theorem int_arg {H : Type} {enc : TypeId × Value → H} {W : World} {v : Value} {d : DataW H} {p : List MemPlace} {r : Reach} {b0 : Nat} (hv : Value.okWide Tryd.prog W r b0 3 v) (h : DataW.Trod enc Tryd.prog W 0 (fun _ => true) true 3 v d p) :
    ∃ n : Int, v = .int .i64 n := by
  obtain ⟨n, rfl, _⟩ := open_int Tryd.underlying3 hv h
  exact ⟨n, rfl⟩
set_option maxRecDepth 100000 in
/-- a slice of numbers is no longer than its capacity. -/
theorem cap_arg {H : Type} {enc : TypeId × Value → H} {W : World} {v : Value} {d : DataW H} {p : List MemPlace} {r : Reach} {b0 : Nat} (hv : Value.okWide Tryd.prog W r b0 23 v) (h : DataW.Trod enc Tryd.prog W 0 (fun _ => true) true 23 v d p) :
    ∃ ao len cap, v = .slice ao len cap ∧ len ≤ cap := by
  obtain ⟨a0, len, cap, rfl⟩ := okWide_slice Tryd.underlying23 hv
  obtain ⟨fuel, hf⟩ := h
  rcases open_ints Tryd.underlying23 Tryd.underlying3 cellsInt hf with ⟨hcs, hx⟩ | ⟨a, len', cap', zs, hcs, _, hl, _⟩
  · simp [Value.cells] at hcs
    obtain ⟨rfl, rfl, rfl⟩ := hcs
    exact ⟨_, _, _, rfl, Nat.le_refl _⟩
  · simp [Value.cells] at hcs
    obtain ⟨rfl, rfl, rfl⟩ := hcs
    exact ⟨_, _, _, rfl, hl⟩
end Go.Proofs.YteknlcachfhfkahDoor
