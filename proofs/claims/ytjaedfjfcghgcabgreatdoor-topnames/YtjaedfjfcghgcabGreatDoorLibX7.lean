/-
  Facts and contracts that the statement leans on.
-/
import Derived.Test.YtjaedfjfcghgcabGreatDoorLibX6
import Derived.Laws.World
import Derived.Deep.RegionHeld3
import Derived.Test.YtjaedfjfcghgcabGreatDoorLibX3
import Derived.Deep.RegionWith
import Derived.Deep.Cut
import Derived.Deep.CutRange
import Derived.Test.YtjaedfjfcghgcabGreatDoorLibX5
import Derived.Test.YtjaedfjfcghgcabGreatDoorLibX4
import Derived.Test.YtjaedfjfcghgcabGreatDoorLibX1
namespace Go.Proofs.YtjaedfjfcghgcabGreatDoor
open Go.ChangeShapes Go.WideShapes Go.ChangeAt Go.RowKit
set_option maxRecDepth 100000
theorem load_formN {W : World} {R : Nat} {c0 c1 : Value} (h0 : W.cell? ⟨R, 0, none⟩ = some c0) (h1 : W.cell? ⟨R, 1, none⟩ = some c1) : (loadVar 25 ⟨R, 0, none⟩).run Tryz.prog W = .ok (.agg #[c0, c1]) W := by
 have hl := run_loadCells_list (P := Tryz.prog) W ⟨R, 0, none⟩ [c0, c1] (fun j v hj => by
  match j, hj with
  | 0, hj => simp at hj; subst hj; simpa [Addr.add] using h0
  | 1, hj => simp at hj; subst hj; simpa [Addr.add] using h1)
 simp [loadVar, Tryz.isAgg25, Tryz.sizeOf25, Result.andThen] at hl ⊢
 simp [hl]
theorem FillT.far {G R j : Nat} {w : World} {ats : List At} {m k : Nat} (h : FillT G w ats m k) (hR : R < G) (u : Value) : FillT G (w.setCell ⟨R, j, none⟩ u) ats m k := by
 obtain ⟨xs, ⟨h1, h2⟩, h3⟩ := h
 refine ⟨xs, ⟨h1, ?_⟩, fun i a hi ha => (h3 i a hi ha).set (by omega) u⟩
 rcases h2 with h2 | ⟨g, cap, cur, hv, hg, hh, r⟩
 ·exact .inl h2
 ·refine .inr ⟨g, cap, cur, hv, hg, ?_, r⟩
  rw [RowKit.Below.heap_setCell _ _ _ _ (by simp; omega)]; exact hh
theorem renT_length (p : Nat → Int) (t : List Int) : (renT p t).length = t.length := by unfold renT; rw [List.length_map]
set_option maxHeartbeats 4000000 in
theorem names_bad (ao : Option Addr) (m acap : Nat) (co : Option Addr) (n ccap : Nat) (p : Nat → Int) (F : Int) (w : World)
    (HF : Hid (∀ W, Below w.heap.size w W → Calls Tryz.prog 14 #[.agg #[.slice ao m acap, .slice co n ccap]] W (Bk W (.iface 75 (.int .i64 F))))) :
    Calls Tryz.prog 13 #[.agg #[.slice ao m acap, .slice co n ccap], .agg #[.int .i64 (p 0), .int .i64 (p 1), .int .i64 (p 2)]] w (Bk w (.tuple #[.agg #[.slice none 0 0, .slice none 0 0], .iface 75 (.int .i64 F)])) := by
 obtain ⟨w1, hw1⟩ := nm (((w.alloc (.cells #[.slice ao m acap, .slice co n ccap] 25)).alloc (.cells #[.int .i64 (p 0), .int .i64 (p 1), .int .i64 (p 2)] 32)).alloc (.cells #[.slice none 0 0, .slice none 0 0] 25))
 obtain ⟨k0, k1, k2, b1⟩ := three_blocks w (.cells #[.slice ao m acap, .slice co n ccap] 25) (.cells #[.int .i64 (p 0), .int .i64 (p 1), .int .i64 (p 2)] 32) (.cells #[.slice none 0 0, .slice none 0 0] 25)
 rw [← hw1] at k0 k1 k2 b1
 have HB1 := hide b1
 have HK0 : Hid (Blk w1 w.heap.size 25 #[.slice ao m acap, .slice co n ccap]) := k0
 have HK1 : Hid (Blk w1 (w.heap.size + 1) 32 (arr3 p)) := k1
 have HK2 : Hid (Blk w1 (w.heap.size + 1 + 1) 25 #[.slice none 0 0, .slice none 0 0]) := k2
 clear k0 k1 k2 b1
 go_enter Tryz.func13, Tryz.ntmps13
 go_upto_region 1 with fail
 rw [← hw1]
 clear hw1
 have x0 : w1.cell? ⟨w.heap.size, 0, none⟩ = some (.slice ao m acap) := HK0.out.cell 0
 have x1 : w1.cell? ⟨w.heap.size, 1, none⟩ = some (.slice co n ccap) := HK0.out.cell 1
 go_wp2_with fail
 go_at_call 14
 refine (HF.out _ HB1.out).mono ?_
 rintro e w2 ⟨rfl, hb⟩
 have HB2 := hide (HB1.out.trans (hb.mono HB1.out.size))
 have HF2 := hide (HK0.out.below hb)
 have HP2 := hide (HK1.out.below hb)
 have HR2 := hide (HK2.out.below hb)
 clear hb x0 x1
 have y0 := HR2.out.cell 0
 have y1 := HR2.out.cell 1
 have f0 := HR2.out.frozen 0
 have f1 := HR2.out.frozen 1
 simp only [List.getElem?_toArray, List.getElem?_cons_zero, List.getElem?_cons_succ] at y0 y1
 go_wp2
 have hld := load_formN ((((HR2.out.set 0 (.slice none 0 0)).set 1 (.slice none 0 0)).cell 0)) ((((HR2.out.set 0 (.slice none 0 0)).set 1 (.slice none 0 0)).cell 1))
 refine bodyPost_ret (v := .tuple #[.agg #[.slice none 0 0, .slice none 0 0], .iface 75 (.int .i64 F)]) ?_ rfl ⟨rfl, ?_⟩
 ·rw [results_cell_tmp rfl]
  simp [asAddr, Result.andThen, hld]
 ·exact (HB2.out.setCell (by show _ ≤ w.heap.size + 1 + 1; omega) _).setCell (by show _ ≤ w.heap.size + 1 + 1; omega) _
set_option maxHeartbeats 4000000 in
theorem names_no (ao : Option Addr) (m acap : Nat) (co : Option Addr) (n ccap : Nat) (p : Nat → Int) (w : World) (hno : onceB (listP p) = false)
    (HF : Hid (∀ W, Below w.heap.size w W → Calls Tryz.prog 14 #[.agg #[.slice ao m acap, .slice co n ccap]] W (Bk W .nilIface))) :
    Calls Tryz.prog 13 #[.agg #[.slice ao m acap, .slice co n ccap], .agg #[.int .i64 (p 0), .int .i64 (p 1), .int .i64 (p 2)]] w (Bk w (.tuple #[.agg #[.slice none 0 0, .slice none 0 0], .iface 75 (.int .i64 1)])) := by
 obtain ⟨w1, hw1⟩ := nm (((w.alloc (.cells #[.slice ao m acap, .slice co n ccap] 25)).alloc (.cells #[.int .i64 (p 0), .int .i64 (p 1), .int .i64 (p 2)] 32)).alloc (.cells #[.slice none 0 0, .slice none 0 0] 25))
 obtain ⟨k0, k1, k2, b1⟩ := three_blocks w (.cells #[.slice ao m acap, .slice co n ccap] 25) (.cells #[.int .i64 (p 0), .int .i64 (p 1), .int .i64 (p 2)] 32) (.cells #[.slice none 0 0, .slice none 0 0] 25)
 rw [← hw1] at k0 k1 k2 b1
 have HB1 := hide b1
 have HK0 : Hid (Blk w1 w.heap.size 25 #[.slice ao m acap, .slice co n ccap]) := k0
 have HK1 : Hid (Blk w1 (w.heap.size + 1) 32 (arr3 p)) := k1
 have HK2 : Hid (Blk w1 (w.heap.size + 1 + 1) 25 #[.slice none 0 0, .slice none 0 0]) := k2
 clear k0 k1 k2 b1
 go_enter Tryz.func13, Tryz.ntmps13
 go_upto_region 1 with fail
 rw [← hw1]
 clear hw1
 have x0 : w1.cell? ⟨w.heap.size, 0, none⟩ = some (.slice ao m acap) := HK0.out.cell 0
 have x1 : w1.cell? ⟨w.heap.size, 1, none⟩ = some (.slice co n ccap) := HK0.out.cell 1
 go_wp2_with fail
 go_at_call 14
 refine (HF.out _ HB1.out).mono ?_
 rintro e w2 ⟨rfl, hb⟩
 have HB2 := hide (HB1.out.trans (hb.mono HB1.out.size))
 have HF2 := hide (HK0.out.below hb)
 have HP2 := hide (HK1.out.below hb)
 have HR2 := hide (HK2.out.below hb)
 clear hb x0 x1
 have HE : Hid (Calls Tryz.prog 40 #[.slice (some ⟨w.heap.size + 1, 0, none⟩) 3 3] w2 (Bk w2 (.bool false))) := by
  have := eachOnce_any (listP p) (by show 3 ≤ 6; omega) _ w2 (listP_reads HP2.out)
  rw [hno] at this
  exact this
 clear hno
 go_wp2_with fail
 go_at_call 40
 refine HE.out.mono ?_
 rintro e w3 ⟨rfl, hb⟩
 have HB3 := hide (HB2.out.trans (hb.mono HB2.out.size))
 have HR3 := hide (HR2.out.below hb)
 clear hb
 have y0 := HR3.out.cell 0
 have y1 := HR3.out.cell 1
 have f0 := HR3.out.frozen 0
 have f1 := HR3.out.frozen 1
 simp only [List.getElem?_toArray, List.getElem?_cons_zero, List.getElem?_cons_succ] at y0 y1
 go_wp2
 have hld := load_formN ((((HR3.out.set 0 (.slice none 0 0)).set 1 (.slice none 0 0)).cell 0)) ((((HR3.out.set 0 (.slice none 0 0)).set 1 (.slice none 0 0)).cell 1))
 refine bodyPost_ret (v := .tuple #[.agg #[.slice none 0 0, .slice none 0 0], .iface 75 (.int .i64 1)]) ?_ rfl ⟨rfl, ?_⟩
 ·rw [results_cell_tmp rfl]
  simp [asAddr, Result.andThen, hld]
 ·exact (HB3.out.setCell (by show _ ≤ w.heap.size + 1 + 1; omega) _).setCell (by show _ ≤ w.heap.size + 1 + 1; omega) _
set_option maxHeartbeats 8000000 in
theorem names_good (B off m acap : Nat) (co : Option Addr) (n ccap : Nat) (ats : List At) (c : List Int) (p : Nat → Int) (w : World) (hon : onceB (listP p) = true) (hm : m = ats.length) (h1 : 0 < m) (h6 : m ≤ 6) (hcap : m ≤ acap) (hn : n = c.length) (hn1 : 0 < n) (hn2 : n ≤ 20)
    (hB : B < w.heap.size) (hatm : ∀ i a, ats[i]? = some a → AtomAt w B (off + i * 4) a) (hC : Reads w (.slice co n ccap) c)
    (hall : ∀ a ∈ ats, (a.s.all signB = true ∧ a.s.length ≤ 12) ∧ (a.t.all signB = true ∧ a.t.length ≤ 12))
    (HF : Hid (∀ W, Below w.heap.size w W → Calls Tryz.prog 14 #[.agg #[.slice (some ⟨B, off, none⟩) m acap, .slice co n ccap]] W (Bk W .nilIface))) :
    Calls Tryz.prog 13 #[.agg #[.slice (some ⟨B, off, none⟩) m acap, .slice co n ccap], .agg #[.int .i64 (p 0), .int .i64 (p 1), .int .i64 (p 2)]] w fun e w' => ∃ va' vc', e = .returned (.tuple #[.agg #[va', vc'], .nilIface]) ∧ ReadsA w' va' (renL p ats) ∧ Reads w' vc' c ∧ Below w.heap.size w w' := by
 obtain ⟨i0, hi, hz0, hz1, hz2⟩ := info_parts infoAT
 have HA : Hid (∀ W, Below w.heap.size w W → ∀ k a, ats[k]? = some a → AtomAt W B (off + k * 4) a) := fun W hW k a h => (hatm k a h).below hB hW
 have HAl := hide hall
 have HCl : Hid (∀ W, Below w.heap.size w W → Calls Tryz.prog 42 #[.slice co n ccap] W fun e w' => ∃ o q, e = .returned (.slice o n q) ∧ FreshT W.heap.size w' (.slice o n q) c ∧ Below W.heap.size W w') := fun W hW => by
  refine (clone_any c _ W (hC.below hW) (by omega) (by omega)).mono ?_
  rintro e w' ⟨v', rfl, hf, hb⟩
  obtain ⟨o, q, rfl⟩ := freshT_slice hf
  rw [← hn] at hf ⊢
  exact ⟨o, q, rfl, hf, hb⟩
 have HM := hide hm
 have HML : Hid ((renL p ats).length = m) := by unfold Hid; rw [hm]; unfold renL; rw [List.length_map]
 clear hall hatm hB hC hm hn
 obtain ⟨w1, hw1⟩ := nm (((w.alloc (.cells #[.slice (some ⟨B, off, none⟩) m acap, .slice co n ccap] 25)).alloc (.cells #[.int .i64 (p 0), .int .i64 (p 1), .int .i64 (p 2)] 32)).alloc (.cells #[.slice none 0 0, .slice none 0 0] 25))
 obtain ⟨k0, k1, k2, b1⟩ := three_blocks w (.cells #[.slice (some ⟨B, off, none⟩) m acap, .slice co n ccap] 25) (.cells #[.int .i64 (p 0), .int .i64 (p 1), .int .i64 (p 2)] 32) (.cells #[.slice none 0 0, .slice none 0 0] 25)
 rw [← hw1] at k0 k1 k2 b1
 have HB1 := hide b1
 have HK0 : Hid (Blk w1 w.heap.size 25 #[.slice (some ⟨B, off, none⟩) m acap, .slice co n ccap]) := k0
 have HK1 : Hid (Blk w1 (w.heap.size + 1) 32 (arr3 p)) := k1
 have HK2 : Hid (Blk w1 (w.heap.size + 1 + 1) 25 #[.slice none 0 0, .slice none 0 0]) := k2
 clear k0 k1 k2 b1
 have HEn : Hid (∀ W, Blk W (w.heap.size + 1) 32 (arr3 p) → Calls Tryz.prog 40 #[.slice (some ⟨w.heap.size + 1, 0, none⟩) 3 3] W (Bk W (.bool true))) := fun W hW => by
  have := eachOnce_any (listP p) (by show 3 ≤ 6; omega) _ W (listP_reads hW)
  rw [hon] at this
  exact this
 clear hon
 go_enter Tryz.func13, Tryz.ntmps13
 go_upto_region 1 with fail
 rw [← hw1]
 clear hw1
 have x0 : w1.cell? ⟨w.heap.size, 0, none⟩ = some (.slice (some ⟨B, off, none⟩) m acap) := HK0.out.cell 0
 have x1 : w1.cell? ⟨w.heap.size, 1, none⟩ = some (.slice co n ccap) := HK0.out.cell 1
 go_wp2_with fail
 go_at_call 14
 refine (HF.out _ HB1.out).mono ?_
 rintro e w2 ⟨rfl, hb⟩
 have HB2 := hide (HB1.out.trans (hb.mono HB1.out.size))
 have HF2 := hide (HK0.out.below hb)
 have HP2 := hide (HK1.out.below hb)
 have HR2 := hide (HK2.out.below hb)
 clear hb x0 x1
 go_wp2_with fail
 go_at_call 40
 refine (HEn.out _ HP2.out).mono ?_
 rintro e w3 ⟨rfl, hb⟩
 have HB3 := hide (HB2.out.trans (hb.mono HB2.out.size))
 have HF3 := hide (HF2.out.below hb)
 have HP3 := hide (HP2.out.below hb)
 have HR3 := hide (HR2.out.below hb)
 clear hb
 have x0 : w3.cell? ⟨w.heap.size, 0, none⟩ = some (.slice (some ⟨B, off, none⟩) m acap) := HF3.out.cell 0
 obtain ⟨G, hG⟩ := nm w3.heap.size
 have HG := hide (hG.symm)
 have HGs : Hid (w.heap.size + 1 + 1 < G) := by unfold Hid; rw [hG]; exact HR3.out.lt
 go_wp2_with (first | (at_make; refine wpList_make_full _ rfl _ _ 22 rfl G 50 i0 (.agg #[.int .i64 0, .slice none 0 0, .slice none 0 0, .int .i64 0]) 4 Tryz.underlying22 hi hz0 hz1 .i64 .i64 _ _ m rfl rfl ?m0 ?m1 ?m2 ?m3 ?m4 ?_))
 case m0 => rfl
 case m1 => rfl
 case m2 => rw [hz2]; omega
 case m3 => unfold maxLen; omega
 case m4 => omega
 intro w4 hown1 hgrow1
 have HO : Hid (FillT G w4 (renL p ats) m 0 ∧ Below G w3 w4) := by
  have h3 : ∃ xs, w4.ownsRow G 50 4 (.slice (some ⟨G, 0, none⟩) m m) m xs := by
   have h4 := hown1
   rw [hG]
   exact ⟨_, h4⟩
  obtain ⟨xs, h3⟩ := h3
  exact ⟨⟨xs, h3, fun i a h => by omega⟩, (Below.refl _ _).grown hgrow1 (by omega) (fun k hk => by cases hk)⟩
 rw [← hG]
 clear hown1 hgrow1 hG x0
 have x0 : w4.cell? ⟨w.heap.size, 0, none⟩ = some (.slice (some ⟨B, off, none⟩) m acap) := (HO.out.2.cell (show w.heap.size < G by have := HGs.out; omega)).trans (HF3.out.cell 0)
 go_wp2
 clear x0
 go_loopw [8, 9, 28] (fun _ _ i wr => ∃ k : Nat, k ≤ m ∧ i = .int .i64 k ∧ FillT G wr (renL p ats) m k ∧ Below G w3 wr) (fun _ _ i _ => m - (intOf i).toNat)
 case atStart => exact ⟨0, Nat.zero_le _, rfl, HO.out.1, HO.out.2⟩
 case round =>
  obtain ⟨k, hk, rfl, hfill, hbel⟩ := hrel
  have HFl := hide hfill
  have HB := hide hbel
  have HBw : Hid (Below w.heap.size w wr) := HB3.out.trans (hbel.mono (by have := HGs.out; omega))
  clear hfill hbel
  by_cases hlt : k < m
  ·obtain ⟨a, ha⟩ : ∃ a, ats[k]? = some a := ⟨_, List.getElem?_eq_getElem (by have := HM.out; omega)⟩
   have HGr : Hid (G < wr.heap.size) := by
    obtain ⟨xs, h1, _⟩ := HFl.out
    exact (ownsRow_block h1).2.1
   obtain ⟨vs, vt, c0, c1, c2, c3, r1, r2⟩ := HA.out wr HBw.out k a ha
   obtain ⟨sao, scap, rfl, _⟩ := r1.slice
   obtain ⟨tao, tcap, rfl, _⟩ := r2.slice
   have HAll := HAl.out a (List.mem_of_getElem? ha)
   have Ha : Hid ((renL p ats)[k]? = some (renA p a)) := by unfold Hid renL; rw [List.getElem?_map, ha]; rfl
   obtain ⟨ak, as', at', an⟩ := a
   simp only at c0 c1 c2 c3 r1 r2 HAll ⊢
   clear ha
   obtain ⟨w5, hw5⟩ := nm (wr.alloc (.cells #[.int .i64 ak, .slice sao as'.length scap, .slice tao at'.length tcap, .int .i64 an] 50))
   have HB5 : Hid (Below wr.heap.size wr w5) := by unfold Hid; rw [hw5]; exact below_alloc1 wr _
   have HS5 : Hid (w5.heap.size = wr.heap.size + 1) := by unfold Hid; rw [hw5]; simp
   have HX5 : Hid (w5.cell? ⟨wr.heap.size, 0, none⟩ = some (.int .i64 ak) ∧ w5.cell? ⟨wr.heap.size, 1, none⟩ = some (.slice sao as'.length scap) ∧ w5.cell? ⟨wr.heap.size, 2, none⟩ = some (.slice tao at'.length tcap) ∧ w5.cell? ⟨wr.heap.size, 3, none⟩ = some (.int .i64 an)) := by
    unfold Hid; rw [hw5]; simp
   have HF5 := hide (HFl.out.below HB5.out)
   have HP5 : Hid (w5.cell? ⟨w.heap.size + 1, 0, none⟩ = some (.int .i64 (p 0)) ∧ w5.cell? ⟨w.heap.size + 1, 1, none⟩ = some (.int .i64 (p 1)) ∧ w5.cell? ⟨w.heap.size + 1, 2, none⟩ = some (.int .i64 (p 2))) := by
    have e : ∀ j, w5.cell? ⟨w.heap.size + 1, j, none⟩ = w3.cell? ⟨w.heap.size + 1, j, none⟩ := fun j => by
     have hg := HGs.out
     have hg2 := HGr.out
     exact (HB5.out.cell (show w.heap.size + 1 < wr.heap.size by omega)).trans (HB.out.cell (show w.heap.size + 1 < G by omega))
    unfold Hid
    rw [e, e, e]
    exact HP3.out.cells3
   have HX : Hid (∀ W, Below w5.heap.size w5 W → (W.cell? ⟨wr.heap.size, 0, none⟩ = some (.int .i64 ak) ∧ W.cell? ⟨wr.heap.size, 1, none⟩ = some (.slice sao as'.length scap) ∧ W.cell? ⟨wr.heap.size, 2, none⟩ = some (.slice tao at'.length tcap) ∧ W.cell? ⟨wr.heap.size, 3, none⟩ = some (.int .i64 an)) ∧ (W.cell? ⟨w.heap.size + 1, 0, none⟩ = some (.int .i64 (p 0)) ∧ W.cell? ⟨w.heap.size + 1, 1, none⟩ = some (.int .i64 (p 1)) ∧ W.cell? ⟨w.heap.size + 1, 2, none⟩ = some (.int .i64 (p 2)))) := fun W hW => by
    have e : ∀ j, W.cell? ⟨wr.heap.size, j, none⟩ = w5.cell? ⟨wr.heap.size, j, none⟩ := fun j => hW.cell (show (⟨wr.heap.size, j, none⟩ : Addr).block < _ by have := HS5.out; simp; omega)
    have e2 : ∀ j, W.cell? ⟨w.heap.size + 1, j, none⟩ = w5.cell? ⟨w.heap.size + 1, j, none⟩ := fun j => hW.cell (show w.heap.size + 1 < w5.heap.size by have := HS5.out; have := HGs.out; have := HGr.out; omega)
    simp only [e, e2]; exact ⟨HX5.out, HP5.out⟩
   obtain ⟨z0, z1, z2, z3, ⟨t0, t1, t2, t3⟩, ⟨f0, f1, f2, f3⟩⟩ := HF5.out.there hlt
   have HT : Hid (∀ W, Below w5.heap.size w5 W → (W.cell? ⟨G, k * 4, none⟩ = some z0 ∧ W.cell? ⟨G, k * 4 + 1, none⟩ = some z1 ∧ W.cell? ⟨G, k * 4 + 2, none⟩ = some z2 ∧ W.cell? ⟨G, k * 4 + 3, none⟩ = some z3) ∧ (W.frozen? ⟨G, k * 4, none⟩ = false ∧ W.frozen? ⟨G, k * 4 + 1, none⟩ = false ∧ W.frozen? ⟨G, k * 4 + 2, none⟩ = false ∧ W.frozen? ⟨G, k * 4 + 3, none⟩ = false)) := fun W hW => by
    have hb : G < w5.heap.size := by have := HS5.out; have := HGr.out; omega
    refine ⟨⟨?_, ?_, ?_, ?_⟩, ?_, ?_, ?_, ?_⟩
    ·rw [hW.cell hb]; exact t0
    ·rw [hW.cell hb]; exact t1
    ·rw [hW.cell hb]; exact t2
    ·rw [hW.cell hb]; exact t3
    ·rw [hW.frozen hb]; exact f0
    ·rw [hW.frozen hb]; exact f1
    ·rw [hW.frozen hb]; exact f2
    ·rw [hW.frozen hb]; exact f3
   clear t0 t1 t2 t3 f0 f1 f2 f3
   have HCs : Hid (∀ (v : Value) (x : List Int), Reads w5 v x → x.all signB = true → x.length ≤ 12 → ∀ W, Below w5.heap.size w5 W → Calls Tryz.prog 41 #[v, .agg #[.int .i64 (p 0), .int .i64 (p 1), .int .i64 (p 2)]] W fun e w' => ∃ o c, e = .returned (.slice o x.length c) ∧ FreshT W.heap.size w' (.slice o x.length c) (renT p x) ∧ Below W.heap.size W w' ∧ Below w5.heap.size w5 w' ∧ ((w'.cell? ⟨wr.heap.size, 0, none⟩ = some (.int .i64 ak) ∧ w'.cell? ⟨wr.heap.size, 1, none⟩ = some (.slice sao as'.length scap) ∧ w'.cell? ⟨wr.heap.size, 2, none⟩ = some (.slice tao at'.length tcap) ∧ w'.cell? ⟨wr.heap.size, 3, none⟩ = some (.int .i64 an)) ∧ (w'.cell? ⟨w.heap.size + 1, 0, none⟩ = some (.int .i64 (p 0)) ∧ w'.cell? ⟨w.heap.size + 1, 1, none⟩ = some (.int .i64 (p 1)) ∧ w'.cell? ⟨w.heap.size + 1, 2, none⟩ = some (.int .i64 (p 2)))) ∧ ((w'.cell? ⟨G, k * 4, none⟩ = some z0 ∧ w'.cell? ⟨G, k * 4 + 1, none⟩ = some z1 ∧ w'.cell? ⟨G, k * 4 + 2, none⟩ = some z2 ∧ w'.cell? ⟨G, k * 4 + 3, none⟩ = some z3) ∧ (w'.frozen? ⟨G, k * 4, none⟩ = false ∧ w'.frozen? ⟨G, k * 4 + 1, none⟩ = false ∧ w'.frozen? ⟨G, k * 4 + 2, none⟩ = false ∧ w'.frozen? ⟨G, k * 4 + 3, none⟩ = false))) := fun v x hR hx hl W hW => by
    refine (renamed_any x p hx hl v W (hR.below hW)).mono ?_
    rintro e w' ⟨v', K, rfl, hKs, hown, hb⟩
    have hfr : FreshT W.heap.size w' v' (renT p x) := by
     unfold FreshT
     rw [renT_length]
     exact World.ownsRow.mono hown hKs
    obtain ⟨o, c, rfl⟩ := freshT_slice hfr
    rw [renT_length] at hfr ⊢
    have hb5 : Below w5.heap.size w5 w' := hW.trans (hb.mono hW.size)
    exact ⟨o, c, rfl, hfr, hb, hb5, HX.out w' hb5, HT.out w' hb5⟩
   have HCS := hide (HCs.out (.slice sao as'.length scap) as' (r1.below HB5.out) HAll.1.1 HAll.1.2)
   have HCT := hide (HCs.out (.slice tao at'.length tcap) at' (r2.below HB5.out) HAll.2.1 HAll.2.2)
   clear HCs r1 r2 HAll
   have hk0 : (0 : Int) ≤ (k : Int) := by omega
   have hk1 : (k : Int) < (m : Int) := by omega
   have hGne : G ≠ wr.heap.size := by have := HGr.out; omega
   have hGne2 : G ≠ w.heap.size + 1 := by have := HGs.out; omega
   obtain ⟨lS, hlS⟩ := nm as'.length
   obtain ⟨lT, hlT⟩ := nm at'.length
   rw [← hlS] at c1 hw5 HX5 HX HCS HCT
   rw [← hlT] at c2 hw5 HX5 HX HCS HCT
   clear hlS hlT
   go_wp2_with fail
   rw [← hw5]
   clear hw5 c0 c1 c2 c3
   obtain ⟨y0, y1, y2, y3⟩ := HX5.out
   obtain ⟨p0, p1, p2⟩ := HP5.out
   clear HX5 HP5
   go_region_held3 (fun w' => (w'.cell? ⟨wr.heap.size, 0, none⟩ = some (.int .i64 ak) ∧ w'.cell? ⟨wr.heap.size, 1, none⟩ = some (.slice sao lS scap) ∧ w'.cell? ⟨wr.heap.size, 2, none⟩ = some (.slice tao lT tcap) ∧ w'.cell? ⟨wr.heap.size, 3, none⟩ = some (.int .i64 an)) ∧ (w'.cell? ⟨w.heap.size + 1, 0, none⟩ = some (.int .i64 (p 0)) ∧ w'.cell? ⟨w.heap.size + 1, 1, none⟩ = some (.int .i64 (p 1)) ∧ w'.cell? ⟨w.heap.size + 1, 2, none⟩ = some (.int .i64 (p 2)))) (first | go_keep | (go_split_ands; refine ⟨⟨?_, ?_, ?_, ?_⟩, ?_, ?_, ?_⟩ <;> (first | (rw [set4_farT hGne]; assumption) | (rw [set4_farT hGne2]; assumption))))
    (first
     | (go_at_call_of 41 (Value.slice sao lS scap); refine (HCS.out _ ?_).mono ?_; (first | assumption | exact (Below.refl _ _).drew); rintro e w6 ⟨o1, q1, rfl, hfs, hbs, hb5s, ⟨⟨_, _, _, _⟩, _, _, _⟩, ⟨⟨t0, t1, t2, t3⟩, ⟨f0, f1, f2, f3⟩⟩⟩)
     | (go_at_call_of 41 (Value.slice tao lT tcap); refine (HCT.out _ ?_).mono ?_; (first | assumption | exact (Below.refl _ _).drew); rintro e w' ⟨o2, q2, rfl, hft, hbt, hb5t, ⟨⟨_, _, _, _⟩, _, _, _⟩, ⟨⟨t0, t1, t2, t3⟩, ⟨f0, f1, f2, f3⟩⟩⟩))
   have hGw : G + 1 ≤ w5.heap.size := by have := HS5.out; have := HGr.out; omega
   have hs6 : w5.heap.size ≤ w6.heap.size := hb5s.size
   have HR : Hid (FillT G ((((w'.setCell ⟨G, k * 4, none⟩ (.int .i64 ak)).setCell ⟨G, k * 4 + 1, none⟩ (.slice o1 lS q1)).setCell ⟨G, k * 4 + 2, none⟩ (.slice o2 lT q2)).setCell ⟨G, k * 4 + 3, none⟩ (.int .i64 an)) (renL p ats) m (k + 1) ∧ Below G w3 ((((w'.setCell ⟨G, k * 4, none⟩ (.int .i64 ak)).setCell ⟨G, k * 4 + 1, none⟩ (.slice o1 lS q1)).setCell ⟨G, k * 4 + 2, none⟩ (.slice o2 lT q2)).setCell ⟨G, k * 4 + 3, none⟩ (.int .i64 an))) := by
    refine ⟨FillT.set (a := renA p ⟨ak, as', at', an⟩) (HF5.out.below hb5t) Ha.out hlt (World.ownsRow.mono (hfs.below hbt) hGw) (World.ownsRow.mono hft (by omega)), ?_⟩
    have hb : Below G w3 w' := HB.out.trans ((HB5.out.trans (hb5t.mono HB5.out.size)).mono (by have := HGr.out; omega))
    exact (((hb.setCell (Nat.le_refl _) _).setCell (Nat.le_refl _) _).setCell (Nat.le_refl _) _).setCell (Nat.le_refl _) _
   clear hfs hbs hb5s hft hbt hb5t hs6 hGw
   go_wp2
   go_roundw
   case rel => exact ⟨k + 1, by omega, by go_num, HR.out.1, HR.out.2⟩
   case measure => simp [intOf]; omega
  ·obtain rfl : k = m := by omega
   have x1 : wr.cell? ⟨w.heap.size, 1, none⟩ = some (.slice co n ccap) := (HB.out.cell (show w.heap.size < G by have := HGs.out; omega)).trans (HF3.out.cell 1)
   have HRr : Hid (Blk wr (w.heap.size + 1 + 1) 25 #[.slice none 0 0, .slice none 0 0]) := by
    unfold Hid Blk
    rw [HB.out.block (w.heap.size + 1 + 1) HGs.out]
    exact HR3.out
   have HGr : Hid (G < wr.heap.size) := by
    obtain ⟨xs, h1, _⟩ := HFl.out
    exact (ownsRow_block h1).2.1
   go_wp2_with fail
   go_at_call 42
   refine (HCl.out _ HBw.out).mono ?_
   rintro e w6 ⟨o, q, rfl, hfr, hb⟩
   have HR6 := hide (HRr.out.below hb)
   have HRA : Hid (ReadsA ((w6.setCell ⟨w.heap.size + 1 + 1, 0, none⟩ (.slice (some ⟨G, 0, none⟩) k k)).setCell ⟨w.heap.size + 1 + 1, 1, none⟩ (.slice o n q)) (.slice (some ⟨G, 0, none⟩) k k) (renL p ats)) := by
    have h1 := ((HFl.out.below hb).far (j := 0) HGs.out (.slice (some ⟨G, 0, none⟩) k k)).far (j := 1) HGs.out (.slice o n q)
    have h2 := HML.out
    unfold Hid
    rw [← h2] at h1 ⊢
    exact h1.reads (by omega) (by omega)
   have HRC : Hid (Reads ((w6.setCell ⟨w.heap.size + 1 + 1, 0, none⟩ (.slice (some ⟨G, 0, none⟩) k k)).setCell ⟨w.heap.size + 1 + 1, 1, none⟩ (.slice o n q)) (.slice o n q) c) := ((hfr.set (by have := HGs.out; have := HGr.out; omega)).set (by have := HGs.out; have := HGr.out; omega)).reads
   have HBE := hide (HBw.out.trans (hb.mono HBw.out.size))
   clear hfr hb x1
   have y0 := HR6.out.cell 0
   have y1 := HR6.out.cell 1
   have f0 := HR6.out.frozen 0
   have f1 := HR6.out.frozen 1
   simp only [List.getElem?_toArray, List.getElem?_cons_zero, List.getElem?_cons_succ] at y0 y1
   go_wp2
   have hld := load_formN (((HR6.out.set 0 (.slice (some ⟨G, 0, none⟩) k k)).set 1 (.slice o n q)).cell 0) (((HR6.out.set 0 (.slice (some ⟨G, 0, none⟩) k k)).set 1 (.slice o n q)).cell 1)
   refine bodyPost_ret (v := .tuple #[.agg #[.slice (some ⟨G, 0, none⟩) k k, .slice o n q], .nilIface]) ?_ rfl ⟨_, _, rfl, HRA.out, HRC.out, ?_⟩
   ·rw [results_cell_tmp rfl]
    simp [asAddr, Result.andThen, hld]
   ·exact (HBE.out.setCell (by show _ ≤ w.heap.size + 1 + 1; omega) _).setCell (by show _ ≤ w.heap.size + 1 + 1; omega) _
theorem turnNames_any (va vc : Value) (ats : List At) (c : List Int) (p : Nat → Int) (w : World) (hA : ReadsA w va ats) (hC : Reads w vc c) (hK : KindsLaid w) :
    Calls Tryz.prog 13 #[.agg #[va, vc], .agg #[.int .i64 (p 0), .int .i64 (p 1), .int .i64 (p 2)]] w fun e w' => ∃ va' vc', e = .returned (.tuple #[.agg #[va', vc'], errV (namesFault ats c p)]) ∧ (namesFault ats c p = 0 → ReadsA w' va' (renL p ats) ∧ Reads w' vc' c) ∧ (¬ namesFault ats c p = 0 → va' = .slice none 0 0 ∧ vc' = .slice none 0 0) ∧ Below w.heap.size w w' := by
 have hF := fun W (hW : Below w.heap.size w W) => fcheck_any va vc ats c W (hA.below hW) (hC.below hW) (hK.below hW)
 obtain ⟨co, ccap, rfl, _⟩ := hC.slice
 by_cases hf : formFault ats c = 0
 ·rw [hf] at hF
  by_cases h1 : onceB (listP p) = true
  ·have hn : namesFault ats c p = 0 := names_zero.2 ⟨hf, h1⟩
   obtain ⟨⟨m1, m6⟩, ⟨n1, n2⟩, hall, _, _⟩ := formFault_zero.1 hf
   rcases hA with ⟨_, _, _, rfl⟩ | ⟨B, off, cap, rfl, hB, _, ⟨_, hcap⟩, hatm⟩
   ·simp at m1
   refine (names_good B off _ cap co _ ccap ats c p w h1 rfl (by omega) m6 hcap rfl (by omega) n2 hB hatm hC (fun a ha => ?_) hF).mono ?_
   ·obtain ⟨_, hs, ht, _⟩ := atomFault_zero.1 (hall a ha)
    obtain ⟨_, s2, s3, _⟩ := fault_zero.1 hs
    have ht2 : a.t.all signB = true ∧ a.t.length ≤ 12 := by
     unfold secondFault at ht
     by_cases hb : secondB a.k = true
     ·rw [if_pos hb] at ht
      obtain ⟨_, t2, t3, _⟩ := fault_zero.1 ht
      exact ⟨t3, t2⟩
     ·rw [if_neg hb] at ht
      have h0 : a.t = [] := by
       cases h : a.t with
       | nil => rfl
       | cons x l => rw [h] at ht; simp at ht
      rw [h0]; exact ⟨rfl, by decide⟩
    exact ⟨⟨s3, s2⟩, ht2⟩
   ·rintro e w' ⟨va', vc', rfl, r1, r2, hb⟩
    rw [hn]
    exact ⟨va', vc', rfl, fun _ => ⟨r1, r2⟩, fun h => absurd rfl h, hb⟩
  ·have hn : namesFault ats c p = 1 := by unfold namesFault; rw [if_pos hf, if_neg h1]
   obtain ⟨ao, acap, rfl, _⟩ := hA.slice
   refine (names_no ao _ acap co _ ccap p w (by simpa using h1) hF).mono ?_
   rintro e w' ⟨rfl, hb⟩
   rw [hn]
   exact ⟨_, _, rfl, fun h => absurd h (by decide), fun _ => ⟨rfl, rfl⟩, hb⟩
 ·have hn : namesFault ats c p = formFault ats c := by unfold namesFault; rw [if_neg hf]
  rw [errV_no hf] at hF
  obtain ⟨ao, acap, rfl, _⟩ := hA.slice
  refine (names_bad ao _ acap co _ ccap p _ w hF).mono ?_
  rintro e w' ⟨rfl, hb⟩
  rw [hn, errV_no hf]
  exact ⟨_, _, rfl, fun h => absurd h hf, fun _ => ⟨rfl, rfl⟩, hb⟩
end Go.Proofs.YtjaedfjfcghgcabGreatDoor
namespace Go.Proofs.YtjaedfjfcghgcabGreatDoor
open Go.ChangeShapes Go.WideShapes Go.ChangeAt Go.RowKit
set_option maxRecDepth 100000 in
set_option maxHeartbeats 1000000 in
theorem ints_same (t : List Int) (v v' : Value) (w : World) (h : Reads w v t) (h' : Reads w v' t) :
    Calls Tryz.prog 55 #[v, v'] w (Bk w (.bool true)) := by
 rcases h with ⟨ao, cap, rfl, rfl⟩ | ⟨b, off, cap, rfl, hB, h0, ⟨hl, _⟩, hc⟩
 ·rcases h' with ⟨ao', cap', rfl, _⟩ | ⟨_, _, _, _, _, h0, _⟩
  ·go_enter Tryz.func55, Tryz.ntmps55
   go_wp2
   refine wp_loop_rounds 1 ?_
   rw [rounds_succ]
   go_wp2
   go_ret
   exact ⟨rfl, Below.refl _ _⟩
  ·simp at h0
 ·rcases h' with ⟨_, _, _, rfl⟩ | ⟨b', off', cap', rfl, hB', _, _, hc'⟩
  ·simp at h0
  ·have HC := hide hc
   have HC' := hide hc'
   have HB : Hid (b < w.heap.size ∧ b' < w.heap.size) := ⟨hB, hB'⟩
   clear hc hc' hB hB'
   obtain ⟨n, hn⟩ := nm t.length
   rw [← hn] at hl h0 ⊢
   have HN := hide hn
   clear hn
   go_enter Tryz.func55, Tryz.ntmps55
   go_wp2
   go_loopw [5] (fun i wr => ∃ k : Nat, k ≤ n ∧ i = .int .i64 k ∧ Below w.heap.size w wr) (fun i _ => n - (intOf i).toNat)
   case atStart => exact ⟨0, Nat.zero_le _, rfl, Below.refl _ _⟩
   case round =>
    obtain ⟨k, hk, rfl, hbel⟩ := hrel
    by_cases hlt : k < n
    ·obtain ⟨s, hs⟩ := nm (t.getD k 0)
     have hkt : k < t.length := by rw [← HN.out]; exact hlt
     have c0 : wr.cell? ⟨b, off + k, none⟩ = some (.int .i64 s) := by rw [hs, hbel.cell HB.out.1]; exact HC.out k hkt
     have c1 : wr.cell? ⟨b', off' + k, none⟩ = some (.int .i64 s) := by rw [hs, hbel.cell HB.out.2]; exact HC'.out k hkt
     have HW := hide hbel
     have hlt' : (k : Int) < (n : Int) := by omega
     clear hs hkt hbel
     go_wp2_with fail
     go_quiet (fail)
     go_wp2
     go_roundw
     case rel => exact ⟨k + 1, by omega, by go_num, HW.out.trans ((below_drewNs _ _).mono HW.out.size)⟩
     case measure => simp [intOf]; omega
    ·obtain rfl : k = n := by omega
     have HW := hide hbel
     clear hbel
     go_wp2
     go_ret
     exact ⟨rfl, HW.out⟩
end Go.Proofs.YtjaedfjfcghgcabGreatDoor
namespace Go.Proofs.YtjaedfjfcghgcabGreatDoor
open Go.ChangeShapes Go.WideShapes Go.ChangeAt Go.RowKit
set_option maxRecDepth 100000
set_option maxHeartbeats 2000000 in
theorem atom_same (k n : Int) (vs vt us ut : Value) (s t : List Int) (w : World) (hS : Reads w vs s) (hT : Reads w vt t) (hS' : Reads w us s) (hT' : Reads w ut t) :
    Calls Tryz.prog 54 #[.agg #[.int .i64 k, vs, vt, .int .i64 n], .agg #[.int .i64 k, us, ut, .int .i64 n]] w (Bk w (.bool true)) := by
 have h1 : ∀ W, Below w.heap.size w W → _ := fun W h => ints_same s vs us W (hS.below h) (hS'.below h)
 have h2 : ∀ W, Below w.heap.size w W → _ := fun W h => ints_same t vt ut W (hT.below h) (hT'.below h)
 obtain ⟨a0, b0, rfl, _⟩ := hS.slice
 obtain ⟨a1, b1, rfl, _⟩ := hT.slice
 obtain ⟨a2, b2, rfl, _⟩ := hS'.slice
 obtain ⟨a3, b3, rfl, _⟩ := hT'.slice
 clear hS hT hS' hT'
 obtain ⟨w1, hw1⟩ := nm ((w.alloc (.cells #[.int .i64 k, .slice a0 s.length b0, .slice a1 t.length b1, .int .i64 n] 50)).alloc (.cells #[.int .i64 k, .slice a2 s.length b2, .slice a3 t.length b3, .int .i64 n] 50))
 have HB1 : Hid (Below w.heap.size w w1) := by unfold Hid; rw [hw1]; exact (below_alloc1 w _).trans ((below_alloc1 _ _).mono (by simp))
 have HX : Hid (w1.cell? ⟨w.heap.size, 2, none⟩ = some (.slice a1 t.length b1) ∧ w1.cell? ⟨w.heap.size + 1, 2, none⟩ = some (.slice a3 t.length b3) ∧ w.heap.size + 1 < w1.heap.size) := by
  unfold Hid; rw [hw1]
  refine ⟨?_, ?_, by simp⟩
  ·rw [World.cell?_alloc_lt _ _ ⟨w.heap.size, 2, none⟩ (by simp)]; simp
  ·rw [World.cell?_alloc_at _ _ _ _ (by simp)]; rfl
 have H1 := hide (h1 w1 HB1.out)
 have H2 := hide h2
 clear h1 h2
 go_enter Tryz.func54, Tryz.ntmps54
 go_wp2_with fail
 rw [← hw1]
 clear hw1
 go_at_call 55
 refine H1.out.mono ?_
 rintro e w2 ⟨rfl, hb⟩
 have HB2 := hide (HB1.out.trans (hb.mono HB1.out.size))
 have x2 := (hb.cell (p := ⟨w.heap.size, 2, none⟩) (Nat.lt_of_succ_lt HX.out.2.2)).trans HX.out.1
 have y2 := (hb.cell (p := ⟨w.heap.size + 1, 2, none⟩) HX.out.2.2).trans HX.out.2.1
 clear hb
 go_wp2_with fail
 go_at_call 55
 refine (H2.out _ HB2.out).mono ?_
 rintro e w3 ⟨rfl, hb⟩
 have HB3 := hide (HB2.out.trans (hb.mono HB2.out.size))
 clear hb
 go_wp2
 go_ret
 exact ⟨rfl, HB3.out⟩
end Go.Proofs.YtjaedfjfcghgcabGreatDoor
namespace Go.Proofs.YtjaedfjfcghgcabGreatDoor
open Go.ChangeShapes Go.WideShapes Go.ChangeAt Go.RowKit
set_option maxRecDepth 100000
set_option maxHeartbeats 8000000 in
theorem form_same (va vc ua uc : Value) (ats : List At) (c : List Int) (w : World) (hA : ReadsA w va ats) (hC : Reads w vc c) (hA' : ReadsA w ua ats) (hC' : Reads w uc c) :
    Calls Tryz.prog 17 #[.agg #[va, vc], .agg #[ua, uc]] w (Bk w (.bool true)) := by
 obtain ⟨ao, acap, rfl, hm63⟩ := hA.slice
 obtain ⟨co, ccap, rfl, _⟩ := hC.slice
 obtain ⟨bo, bcap, rfl, _⟩ := hA'.slice
 obtain ⟨eo, ecap, rfl, _⟩ := hC'.slice
 obtain ⟨w1, hw1⟩ := nm ((w.alloc (.cells #[.slice ao ats.length acap, .slice co c.length ccap] 25)).alloc (.cells #[.slice bo ats.length bcap, .slice eo c.length ecap] 25))
 have HB1 : Hid (Below w.heap.size w w1) := by unfold Hid; rw [hw1]; exact (below_alloc1 _ _).trans ((below_alloc1 _ _).mono (by simp))
 have HS1 : Hid (w1.heap.size = w.heap.size + 2) := by unfold Hid; rw [hw1]; simp
 have HX : Hid ((w1.cell? ⟨w.heap.size, 0, none⟩ = some (.slice ao ats.length acap) ∧ w1.cell? ⟨w.heap.size, 1, none⟩ = some (.slice co c.length ccap)) ∧ (w1.cell? ⟨w.heap.size + 1, 0, none⟩ = some (.slice bo ats.length bcap) ∧ w1.cell? ⟨w.heap.size + 1, 1, none⟩ = some (.slice eo c.length ecap))) := by
  unfold Hid; rw [hw1]
  have q : w.heap.size + 1 = (w.alloc (.cells #[.slice ao ats.length acap, .slice co c.length ccap] 25)).heap.size := by simp
  have r : ∀ o j, ((w.alloc (.cells #[.slice ao ats.length acap, .slice co c.length ccap] 25)).alloc o).cell? ⟨w.heap.size, j, none⟩ = (w.alloc (.cells #[.slice ao ats.length acap, .slice co c.length ccap] 25)).cell? ⟨w.heap.size, j, none⟩ := fun o j => World.cell?_alloc_lt _ _ ⟨w.heap.size, j, none⟩ (by simp)
  simp only [r]
  rw [q]
  simp
 have HA : Hid (ReadsA w1 (.slice ao ats.length acap) ats ∧ ReadsA w1 (.slice bo ats.length bcap) ats) := ⟨hA.below HB1.out, hA'.below HB1.out⟩
 have HC : Hid (Reads w1 (.slice co c.length ccap) c ∧ Reads w1 (.slice eo c.length ecap) c) := ⟨hC.below HB1.out, hC'.below HB1.out⟩
 clear hA hC hA' hC'
 obtain ⟨m, hm⟩ := nm ats.length
 obtain ⟨n, hn⟩ := nm c.length
 rw [← hm] at hw1 HX HA hm63 ⊢
 rw [← hn] at hw1 HX HC ⊢
 have HM := hide hm
 clear hm hn
 obtain ⟨⟨x0, x1⟩, ⟨z0, z1⟩⟩ := HX.out
 go_enter Tryz.func17, Tryz.ntmps17
 go_wp2
 rw [← hw1]
 clear hw1 x0 x1 z0 z1
 go_loopw [5] (fun i wr => ∃ k : Nat, k ≤ m ∧ i = .int .i64 k ∧ Below w1.heap.size w1 wr) (fun i _ => m - (intOf i).toNat)
 case atStart => exact ⟨0, Nat.zero_le _, rfl, Below.refl _ _⟩
 case round =>
  obtain ⟨k, hk, rfl, hbel⟩ := hrel
  have HB := hide hbel
  clear hbel
  have l0 : w.heap.size < w1.heap.size := by have := HS1.out; omega
  have l1 : w.heap.size + 1 < w1.heap.size := by have := HS1.out; omega
  have x0 : wr.cell? ⟨w.heap.size, 0, none⟩ = some (.slice ao m acap) := by rw [HB.out.cell l0]; exact HX.out.1.1
  have x1 : wr.cell? ⟨w.heap.size, 1, none⟩ = some (.slice co n ccap) := by rw [HB.out.cell l0]; exact HX.out.1.2
  have z0 : wr.cell? ⟨w.heap.size + 1, 0, none⟩ = some (.slice bo m bcap) := by rw [HB.out.cell l1]; exact HX.out.2.1
  have z1 : wr.cell? ⟨w.heap.size + 1, 1, none⟩ = some (.slice eo n ecap) := by rw [HB.out.cell l1]; exact HX.out.2.2
  clear l0 l1
  by_cases hlt : k < m
  ·obtain ⟨a, ha⟩ : ∃ a, ats[k]? = some a := ⟨_, List.getElem?_eq_getElem (by have := HM.out; omega)⟩
   rcases HA.out.1.below HB.out with ⟨_, _, hv, hn⟩ | ⟨b, off, cap, hv, hb, _, _, hall⟩
   ·have := HM.out; rw [hn] at this; simp at this; omega
   obtain rfl : ao = some ⟨b, off, none⟩ := by cases hv; rfl
   rcases HA.out.2.below HB.out with ⟨_, _, hv2, hn⟩ | ⟨b2, off2, cap2, hv2, hb2, _, _, hall2⟩
   ·have := HM.out; rw [hn] at this; simp at this; omega
   obtain rfl : bo = some ⟨b2, off2, none⟩ := by cases hv2; rfl
   obtain ⟨vs, vt, c0, c1, c2, c3, r1, r2⟩ := hall k a ha
   obtain ⟨us, ut, d0, d1, d2, d3, r3, r4⟩ := hall2 k a ha
   obtain ⟨sao, scap, rfl, _⟩ := r1.slice
   obtain ⟨tao, tcap, rfl, _⟩ := r2.slice
   obtain ⟨sbo, sdap, rfl, _⟩ := r3.slice
   obtain ⟨tbo, tdap, rfl, _⟩ := r4.slice
   clear hv hall hv2 hall2
   have HCk : Hid (∀ W, Below wr.heap.size wr W → Calls Tryz.prog 54 #[.agg #[.int .i64 a.k, .slice sao a.s.length scap, .slice tao a.t.length tcap, .int .i64 a.n], .agg #[.int .i64 a.k, .slice sbo a.s.length sdap, .slice tbo a.t.length tdap, .int .i64 a.n]] W (Bk W (.bool true))) := fun W h => atom_same a.k a.n _ _ _ _ a.s a.t W (r1.below h) (r2.below h) (r3.below h) (r4.below h)
   clear r1 r2 r3 r4
   have hlt' : (k : Int) < (m : Int) := by omega
   go_wp2_with fail
   go_cut [6] from 14 to 33 (fun ok wx => ok = .bool true ∧ Below w1.heap.size w1 wx)
   case first =>
    go_region_with (go_at_call 54; refine (HCk.out _ (by first | exact Below.refl _ _ | exact below_drewNs _ _)).mono ?_; rintro e w3 ⟨rfl, hb3⟩)
    all_goals (try go_wp2_with fail)
    all_goals go_meet
    all_goals exact ⟨rfl, HB.out.trans (Below.mono (Below.trans (by first | exact Below.refl _ _ | exact below_drewNs _ _) (Below.mono hb3 (by first | exact Nat.le_refl _ | (have := (below_drewNs wr _).size; assumption)))) HB.out.size)⟩
   case rest =>
    obtain ⟨rfl, hbc⟩ := hcut
    have HB3 := hide hbc
    clear hbc
    go_wp2
    go_roundw
    case rel => exact ⟨k + 1, by omega, by go_num, HB3.out⟩
    case measure => simp [intOf]; omega
  ·have HCk : Hid (Calls Tryz.prog 55 #[.slice co n ccap, .slice eo n ecap] wr (Bk wr (.bool true))) := ints_same c _ _ wr (HC.out.1.below HB.out) (HC.out.2.below HB.out)
   go_wp2_with fail
   go_at_call 55
   refine HCk.out.mono ?_
   rintro e w3 ⟨rfl, hb3⟩
   have HB3 := hide (HB.out.trans (hb3.mono HB.out.size))
   clear hb3 HCk
   go_wp2
   go_ret
   exact ⟨rfl, HB1.out.trans (HB3.out.mono HB1.out.size)⟩
end Go.Proofs.YtjaedfjfcghgcabGreatDoor
namespace Go.Proofs.YtjaedfjfcghgcabGreatDoor
open Go.RowKit
def fillN (m p : Int) : Nat → Int
 | 0 => m
 | k + 1 => (fillN m p k * (p + k + 1)).tdiv ((k : Int) + 1)
def layTo (N : Nat → Int) : Nat → Int
 | 0 => 1
 | i + 1 => fillN (layTo N i) (sumN N i) (N i).toNat
theorem lay_facts : ∀ u, u ≤ 6 → ((everyC u).all fun N => decide (layTo N 8 = likeN N) && (List.range 8).all fun i => (List.range 7).all fun k => decide (N i < (k : Int)) || decide (0 ≤ fillN (layTo N i) (sumN N i) k ∧ fillN (layTo N i) (sumN N i) k ≤ 720)) = true := by decide +kernel
theorem sum_same {N M : Nat → Int} (h : ∀ g, g < 8 → N g = M g) : ∀ k, k ≤ 8 → sumN N k = sumN M k := by
 intro k
 induction k with
 | zero => intro _; rfl
 | succ k ih => intro hk; unfold sumN; rw [ih (by omega), h k (by omega)]
theorem lay_same {N M : Nat → Int} (h : ∀ g, g < 8 → N g = M g) : ∀ k, k ≤ 8 → layTo N k = layTo M k := by
 intro k
 induction k with
 | zero => intro _; rfl
 | succ k ih => intro hk; unfold layTo; rw [ih (by omega), h k (by omega), sum_same h k (by omega)]
theorem sum_up {N : Nat → Int} (h : ∀ g, g < 8 → 0 ≤ N g) : ∀ k, k ≤ 8 → 0 ≤ sumN N k := by
 intro k
 induction k with
 | zero => intro _; exact Int.le_refl _
 | succ k ih => intro hk; have := ih (by omega); have := h k (by omega); show 0 ≤ sumN N k + N k; omega
theorem sum_more {N : Nat → Int} (h : ∀ g, g < 8 → 0 ≤ N g) : ∀ d k, k + d = 8 → sumN N k ≤ sumN N 8 := by
 intro d
 induction d with
 | zero => intro k hk; obtain rfl : k = 8 := by omega
           exact Int.le_refl _
 | succ d ih =>
  intro k hk
  have h1 := ih (k + 1) (by omega)
  have h2 := h k (by omega)
  have e : sumN N (k + 1) = sumN N k + N k := rfl
  omega
theorem lay_right {N : Nat → Int} (h : countsFault N = 0) : layTo N 8 = likeN N ∧ ∀ i, i < 8 → 0 ≤ sumN N i ∧ sumN N i + N i ≤ 6 ∧ ∀ k : Nat, (k : Int) ≤ N i → 0 ≤ fillN (layTo N i) (sumN N i) k ∧ fillN (layTo N i) (sumN N i) k ≤ 720 := by
 obtain ⟨h1, h2⟩ := counts_zero.1 h
 have hp : ∀ g, g < 8 → 0 ≤ N g := fun g hg => (h1 g hg).1
 have h0 := sum_up hp 8 (by omega)
 have hs : sumN N 8 = (((sumN N 8).toNat : Nat) : Int) := by omega
 obtain ⟨A, hA, hAN⟩ := everyC_all (u := (sumN N 8).toNat) hp hs
 have hf := List.all_eq_true.1 (lay_facts (sumN N 8).toNat (by omega)) A hA
 rw [Bool.and_eq_true] at hf
 refine ⟨?_, fun i hi => ⟨sum_up hp i (by omega), ?_, fun k hk => ?_⟩⟩
 ·rw [← lay_same hAN 8 (by omega), ← likeN_same hAN]; exact of_decide_eq_true hf.1
 ·have := sum_more hp (8 - (i + 1)) (i + 1) (by omega)
  have e : sumN N (i + 1) = sumN N i + N i := rfl
  omega
 ·have h3 := h1 i hi
  have := sum_more hp (8 - (i + 1)) (i + 1) (by omega)
  have e : sumN N (i + 1) = sumN N i + N i := rfl
  have := sum_up hp i (by omega)
  have hq := List.all_eq_true.1 (List.all_eq_true.1 hf.2 i (List.mem_range.2 hi)) k (List.mem_range.2 (by omega))
  rw [Bool.or_eq_true] at hq
  rw [← lay_same hAN i (by omega), ← sum_same hAN i (by omega)]
  rcases hq with hq | hq
  ·have := of_decide_eq_true hq
   rw [hAN i hi] at this
   omega
  ·exact of_decide_eq_true hq
theorem lay_step (N : Nat → Int) (i : Nat) : layTo N (i + 1) = fillN (layTo N i) (sumN N i) (N i).toNat := rfl
end Go.Proofs.YtjaedfjfcghgcabGreatDoor
namespace Go.Proofs.YtjaedfjfcghgcabGreatDoor
open Go.ChangeShapes Go.WideShapes Go.ChangeAt Go.RowKit
set_option maxRecDepth 100000
theorem wcheck_ok (n : Nat) (hn : n ≤ 6) (w : World) : Calls Tryz.prog 27 #[.int .i64 n] w (Sk w .nilIface) := by
 have h : okB (n : Int) 0 = true := ok_zero (by omega) (by omega)
 go_enter Tryz.func27, Tryz.ntmps27
 go_wp2_with fail
 go_at_call 24
 refine (check_ok _ _ h _).mono ?_
 rintro e w' ⟨rfl, rfl⟩
 go_wp2
 go_ret
 exact ⟨rfl, rfl⟩
theorem wcheck_no (u : Int) (hu : ¬ (0 ≤ u ∧ u ≤ 6)) (w : World) : Calls Tryz.prog 27 #[.int .i64 u] w (Sk w (.iface 75 (.int .i64 1))) := by
 have h : okB u 0 = false := okB_not.2 fun h => hu ⟨h.1, h.2.1⟩
 go_enter Tryz.func27, Tryz.ntmps27
 go_wp2_with fail
 go_at_call 24
 refine (check_no _ _ h _).mono ?_
 rintro e w' ⟨rfl, rfl⟩
 go_wp2
 go_ret
 exact ⟨rfl, rfl⟩
set_option maxHeartbeats 4000000 in
theorem walike_any (N : Nat → Int) (h0 : countsFault N = 0) (w : World) :
    Calls Tryz.prog 30 #[.agg #[.int .i64 (N 0), .int .i64 (N 1), .int .i64 (N 2), .int .i64 (N 3), .int .i64 (N 4), .int .i64 (N 5), .int .i64 (N 6), .int .i64 (N 7)]] w (Bk w (.int .i64 (likeN N))) := by
 obtain ⟨hlk, hlay⟩ := lay_right h0
 have HLK := hide hlk
 have HLY := hide hlay
 have HN : Hid (∀ f, f < 8 → 0 ≤ N f ∧ N f ≤ 6) := (counts_zero.1 h0).1
 clear h0 hlk hlay
 obtain ⟨w1, hw1⟩ := nm (w.alloc (.cells #[.int .i64 (N 0), .int .i64 (N 1), .int .i64 (N 2), .int .i64 (N 3), .int .i64 (N 4), .int .i64 (N 5), .int .i64 (N 6), .int .i64 (N 7)] 44))
 have HB1 : Hid (Below w.heap.size w w1) := by unfold Hid; rw [hw1]; exact below_alloc1 _ _
 have HK1 : Hid (∀ k, k < 8 → w1.cell? ⟨w.heap.size, k, none⟩ = some (.int .i64 (N k))) := fun k hk => by
  have hb : Blk w1 w.heap.size 44 (arr8 N) := by rw [hw1]; exact Blk.new _ _ _
  rw [hb.cell, arr8_get _ hk]
 go_enter Tryz.func30, Tryz.ntmps30
 go_wp2_with fail
 rw [← hw1]
 clear hw1
 go_loop [3, 4, 7] (fun m p i => ∃ k : Nat, k ≤ 8 ∧ i = .int .i64 k ∧ m = .int .i64 (layTo N k) ∧ p = .int .i64 (sumN N k)) (fun _ _ i => 8 - (intOf i).toNat)
 case atStart => exact ⟨0, Nat.zero_le _, rfl, rfl, rfl⟩
 case round =>
  obtain ⟨k, hk, rfl, rfl, rfl⟩ := hrel
  by_cases hlt : k < 8
  ·have c := HK1.out k hlt
   have hN := HN.out k hlt
   obtain ⟨hp0, hp1, hf⟩ := HLY.out k hlt
   obtain ⟨n, hn⟩ : ∃ n : Nat, N k = n := ⟨(N k).toNat, by omega⟩
   have HLk : Hid (layTo N (k + 1) = fillN (layTo N k) (sumN N k) n) := by unfold Hid; rw [lay_step, hn]; rfl
   have HSk : Hid (sumN N (k + 1) = sumN N k + n) := by unfold Hid; rw [← hn]; rfl
   rw [hn] at c hN hp1 hf
   obtain ⟨m, hm⟩ := nm (layTo N k)
   obtain ⟨p, hp⟩ := nm (sumN N k)
   rw [← hm, ← hp] at HLk
   rw [← hp] at HSk hp0 hp1
   rw [← hm, ← hp] at hf ⊢
   have HF := hide hf
   have HF0 : Hid (fillN m p 0 = m) := rfl
   clear hm hp hn hN hf
   have hn6 : n ≤ 6 := by omega
   go_wp2
   go_loop [3, 4, 13] (fun x q i => ∃ j : Nat, j ≤ n ∧ i = .int .i64 j ∧ x = .int .i64 (fillN m p j) ∧ q = .int .i64 (p + j)) (fun _ _ i => n - (intOf i).toNat)
   case atStart => exact ⟨0, Nat.zero_le _, rfl, rfl, by simp⟩
   case round =>
    obtain ⟨j, hj, rfl, rfl, rfl⟩ := hrel
    by_cases hl2 : j < n
    ·have h1 := HF.out j (by omega)
     have h2 := HF.out (j + 1) (by omega)
     have HS : Hid (fillN m p (j + 1) = (fillN m p j * (p + j + 1)).tdiv ((j : Int) + 1)) := rfl
     rw [HS.out] at h2
     obtain ⟨y, hy⟩ := nm (fillN m p j)
     rw [← hy] at HS h1 h2 ⊢
     have hq : 0 ≤ y * (p + j + 1) := Int.mul_nonneg h1.1 (by omega)
     have hq2 : y * (p + j + 1) ≤ 720 * 6 := Int.mul_le_mul h1.2 (by omega) (by omega) (by omega)
     have hz : ¬ ((j : Int) + 1 = 0) := by omega
     clear hy
     go_wp2
     go_round
     case rel => exact ⟨j + 1, by omega, by go_num, by rw [HS.out], by go_num⟩
     case measure => simp [intOf]; omega
    ·obtain rfl : j = n := by omega
     go_wp2
     go_round
     case rel => exact ⟨k + 1, by omega, by go_num, by rw [HLk.out], by rw [HSk.out]⟩
     case measure => simp [intOf]; omega
  ·obtain rfl : k = 8 := by omega
   go_wp2
   go_ret
   exact ⟨back_i HLK.out, HB1.out⟩
end Go.Proofs.YtjaedfjfcghgcabGreatDoor
namespace Go.Proofs.YtjaedfjfcghgcabGreatDoor
open Go.ChangeShapes Go.WideShapes Go.ChangeAt Go.RowKit
set_option maxRecDepth 100000 in
set_option maxHeartbeats 4000000 in
theorem fcounts_any (N : Nat → Int) (w : World) :
    Calls Tryz.prog 102 #[.agg #[.int .i64 (N 0), .int .i64 (N 1), .int .i64 (N 2), .int .i64 (N 3), .int .i64 (N 4), .int .i64 (N 5), .int .i64 (N 6), .int .i64 (N 7)]] w (Bk w (errV (countsFault N))) := by
 obtain ⟨w1, hw1⟩ := nm (w.alloc (.cells #[.int .i64 (N 0), .int .i64 (N 1), .int .i64 (N 2), .int .i64 (N 3), .int .i64 (N 4), .int .i64 (N 5), .int .i64 (N 6), .int .i64 (N 7)] 44))
 have HW : Hid (Below w.heap.size w w1) := by unfold Hid; rw [hw1]; exact below_alloc1 _ _
 have HX : Hid (∀ k, k < 8 → w1.cell? ⟨w.heap.size, k, none⟩ = some (.int .i64 (N k))) := fun k hk => by
  rw [hw1]
  rcases eight hk with rfl | rfl | rfl | rfl | rfl | rfl | rfl | rfl <;> simp
 obtain ⟨F, hF⟩ := nm (countsFault N)
 have HF1 : Hid (∀ k, k < 8 → ¬ (0 ≤ N k ∧ N k ≤ 6) → errV F = .iface 75 (.int .i64 1)) := fun k hk h => by
  rw [hF]; unfold countsFault; rw [if_neg (by rw [eachB_no hk h]; decide)]; rfl
 have HF2 : Hid ((∀ f, f < 8 → 0 ≤ N f ∧ N f ≤ 6) → (sumN N 8 ≤ 6 → errV F = .nilIface) ∧ (6 < sumN N 8 → errV F = .iface 75 (.int .i64 4))) := fun h => by
  rw [hF]; unfold countsFault; rw [if_pos (eachB_iff.2 h)]
  exact ⟨fun h' => by rw [if_pos h']; rfl, fun h' => by rw [if_neg (by omega)]; rfl⟩
 rw [← hF]
 clear hF
 go_enter Tryz.func102, Tryz.ntmps102
 go_wp2
 rw [← hw1]
 clear hw1
 go_loop [6] (fun i => ∃ k : Nat, k ≤ 8 ∧ i = .int .i64 k ∧ ∀ f, f < k → 0 ≤ N f ∧ N f ≤ 6) (fun i => 8 - (intOf i).toNat)
 case atStart => exact ⟨0, Nat.zero_le _, rfl, fun f hf => by omega⟩
 case round =>
  obtain ⟨k, hk, rfl, hall⟩ := hrel
  have HA := hide hall
  clear hall
  by_cases hlt : k < 8
  ·have hc := HX.out k hlt
   obtain ⟨x, hx⟩ := nm (N k)
   rw [← hx] at hc
   have HXk := hide hx
   clear hx
   by_cases h0 : x < 0
   ·have HE : Hid (errV F = .iface 75 (.int .i64 1)) := HF1.out k hlt (by rw [← HXk.out]; omega)
    go_wp2
    go_ret
    exact ⟨back_v HE.out.symm, HW.out⟩
   by_cases h6 : 6 < x
   ·have HE : Hid (errV F = .iface 75 (.int .i64 1)) := HF1.out k hlt (by rw [← HXk.out]; omega)
    go_wp2
    go_ret
    exact ⟨back_v HE.out.symm, HW.out⟩
   ·have HN : Hid (∀ f, f < k + 1 → 0 ≤ N f ∧ N f ≤ 6) := fun f hf => by
     rcases Nat.lt_or_ge f k with h' | h'
     ·exact HA.out f h'
     ·obtain rfl : f = k := by omega
      rw [← HXk.out]; omega
    go_wp2
    go_round
    case rel => exact ⟨k + 1, by omega, by go_num, HN.out⟩
    case measure => simp [intOf]; omega
  ·obtain rfl : k = 8 := by omega
   go_wp2
   go_loop [4, 21] (fun s i => ∃ k : Nat, k ≤ 8 ∧ i = .int .i64 k ∧ s = .int .i64 (sumN N k)) (fun _ i => 8 - (intOf i).toNat)
   case atStart => exact ⟨0, Nat.zero_le _, rfl, rfl⟩
   case round =>
    obtain ⟨k, hk, rfl, rfl⟩ := hrel
    by_cases hlt2 : k < 8
    ·have hc := HX.out k hlt2
     have p1 := sumN_le (N := N) (k := k) fun f hf => HA.out f (by omega)
     have p2 := HA.out k (by omega)
     have HS : Hid (sumN N (k + 1) = sumN N k + N k) := rfl
     go_wp2
     go_round
     case rel => exact ⟨k + 1, by omega, by go_num, by rw [HS.out]⟩
     case measure => simp [intOf]; omega
    ·obtain rfl : k = 8 := by omega
     by_cases h6 : sumN N 8 ≤ 6
     ·have HE : Hid (errV F = .nilIface) := (HF2.out HA.out).1 h6
      go_wp2
      go_ret
      exact ⟨back_v HE.out.symm, HW.out⟩
     ·have h6' : 6 < sumN N 8 := by omega
      have HE : Hid (errV F = .iface 75 (.int .i64 4)) := (HF2.out HA.out).2 h6'
      go_wp2
      go_ret
      exact ⟨back_v HE.out.symm, HW.out⟩
end Go.Proofs.YtjaedfjfcghgcabGreatDoor