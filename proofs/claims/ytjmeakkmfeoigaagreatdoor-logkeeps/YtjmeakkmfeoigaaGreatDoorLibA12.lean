/-
  Facts and contracts that the statement leans on.
-/
import Derived.Test.YtjmeakkmfeoigaaGreatDoorLibA4
import Derived.Test.YtjmeakkmfeoigaaGreatDoorLibA8
import Derived.Test.YtjmeakkmfeoigaaGreatDoorLibA9
import Derived.Test.YtjmeakkmfeoigaaGreatDoorLibA10
import Derived.Test.YtjmeakkmfeoigaaGreatDoorLibA11
import Derived.Test.YtjmeakkmfeoigaaGreatDoorLibA5
import Derived.Maps.AppendAt
import Derived.Deep.AppendLies
import Derived.Deep.CutRange
import Derived.Deep.RegionWith
import Derived.Test.YtjmeakkmfeoigaaGreatDoorLibA3
import Derived.Test.YtjmeakkmfeoigaaGreatDoorLibA7
import Derived.Deep.RegionHeld3
namespace Go.Proofs.YtjmeakkmfeoigaaGreatDoor
open Go.ChangeShapes Go.WideShapes Go.ChangeAt Go.RowKit
set_option maxRecDepth 100000
def cellsD (l : List Wd) : List Value := l.flatMap fun D => (arrW D).toList
theorem cellsD_length (l : List Wd) : (cellsD l).length = l.length * 4 := by
 induction l with
 | nil => rfl
 | cons r l ih =>
  have e : cellsD (r :: l) = (arrW r).toList ++ cellsD l := by unfold cellsD; rw [List.flatMap_cons]
  rw [e, List.length_append, ih, List.length_cons]
  show 4 + _ = _
  omega
theorem cellsD_at (l : List Wd) : ∀ (i : Nat) (D : Wd), l[i]? = some D → ∀ f, f < 4 → (cellsD l)[i * 4 + f]? = (arrW D)[f]? := by
 induction l with
 | nil => intro i r h; simp at h
 | cons q l ih =>
  intro i r h f hf
  have e : cellsD (q :: l) = (arrW q).toList ++ cellsD l := by unfold cellsD; rw [List.flatMap_cons]
  have hl : (arrW q).toList.length = 4 := rfl
  rw [e]
  cases i with
  | zero =>
   obtain rfl : q = r := by simpa using h
   rw [List.getElem?_append_left (by omega), show 0 * 4 + f = f by omega, Array.getElem?_toList]
  | succ i =>
   rw [List.getElem?_append_right (by omega), hl, show (i + 1) * 4 + f - 4 = i * 4 + f by omega]
   exact ih i r (by simpa using h) f hf
def WdAt (w : World) (b off : Nat) (D : Wd) : Prop := w.cell? ⟨b, off, none⟩ = some (.int .i64 D.u) ∧ w.cell? ⟨b, off + 1, none⟩ = some (.int .i64 D.a) ∧ w.cell? ⟨b, off + 2, none⟩ = some (.int .i64 D.b) ∧ w.cell? ⟨b, off + 3, none⟩ = some (.int .i64 D.c)
theorem WdAt.at {K : Nat} {w w' : World} {b off : Nat} {D : Wd} (h : WdAt w b off D) (hb : Below K w w') (hB : b < K) : WdAt w' b off D :=
 ⟨(hb.cell hB).trans h.1, (hb.cell hB).trans h.2.1, (hb.cell hB).trans h.2.2.1, (hb.cell hB).trans h.2.2.2⟩
theorem infoD : (Tryz.prog.info? 55).isSome = true := by kernel_rfl
theorem zeroD : (Tryz.prog.info? 55).bind (·.zero) = some (.agg #[.int .i64 0, .int .i64 0, .int .i64 0, .int .i64 0]) := by kernel_rfl
theorem sizeD : (Tryz.prog.info? 55).map (·.size) = some 4 := by kernel_rfl
theorem bytesD : (Tryz.prog.info? 55).map (·.bytes) = some 32 := by kernel_rfl
theorem append_world {w : World} {ops : Array Oper} {rest : List Oper} {o : Oper} {a : Act} {Q : Exit → Act → World → Prop} (hgd : o.guard = none) (s x : Operand)
    (ho : o.op = .call { callee := .builtin .append, args := #[s, x], argTypes := #[80, 80] }) (K : Nat) (v : Value) (hs : a.eval s = v) (l : List Wd) (D : Wd) (B c : Nat) (hx : a.eval x = .slice (some ⟨B, 0, none⟩) 1 c)
    (hown : w.ownsRow K 55 4 v l.length (cellsD l)) (hB : w.heap[B]? = some (.cells (arrW D) 55 (0, 0))) (hK : K ≤ w.heap.size) (h12 : l.length ≤ 2000)
    (h : ∀ v' w', w'.ownsRow K 55 4 v' (l.length + 1) (cellsD (l ++ [D])) → w.grownBy w' v.ownBlock → wpList Tryz.prog ops Q rest (a.put o.dst v') w') :
    wpList Tryz.prog ops Q (o :: rest) a w := by
 obtain ⟨i1, hi⟩ : ∃ i, Tryz.prog.info? 55 = some i := Option.isSome_iff_exists.1 infoD
 have hz0 : i1.zero = some (.agg #[.int .i64 0, .int .i64 0, .int .i64 0, .int .i64 0]) := by have := zeroD; rw [hi] at this; simpa using this
 have hz1 : i1.size = 4 := by have := sizeD; rw [hi] at this; simpa using this
 have hz2 : i1.bytes = 32 := by have := bytesD; rw [hi] at this; simpa using this
 refine wpList_append_own_at w hgd s x 80 ho K 55 i1 _ 4 32 Tryz.underlying80 hi hz0 hz1 hz2 rfl (by decide) v l.length (cellsD l) hs hown ⟨B, 0, none⟩ 1 c (arrW D).toList hx rfl (World.news_of_block hB) (by simp [arrW, Value.oneCell']) (by unfold maxLen; omega) (by omega) hK ?_
 intro v' w' h1 h2 _ _
 refine h v' w' ?_ h2
 have e : cellsD (l ++ [D]) = cellsD l ++ (arrW D).toList := by unfold cellsD; rw [List.flatMap_append]; simp
 rw [e]
 exact h1
set_option maxHeartbeats 8000000 in
theorem refWorlds_new (u : Nat) (hu : u ≤ 6) (w : World) :
    Calls Tryz.prog 42 #[.int .i64 u] w fun e w' => ∃ b cap, e = .returned (.slice (some ⟨b, 0, none⟩) (worldsL u).length cap) ∧ w.heap.size ≤ b ∧ b < w'.heap.size ∧ (∀ i D, (worldsL u)[i]? = some D → WdAt w' b (i * 4) D) ∧ Below w.heap.size w w' := by
 obtain ⟨L, hL⟩ := nm (everyC u)
 have HAl : Hid (∀ W, Calls Tryz.prog 71 #[.int .i64 u] W fun e w' => ∃ bE oE ecap, e = .returned (.slice (some ⟨bE, oE, none⟩) L.length ecap) ∧ (bE < w'.heap.size ∧ ∀ i N, L[i]? = some N → CntAt w' bE (oE + i * 8) N) ∧ Below W.heap.size W w') := fun W => by
  refine (refAll_any u hu W).mono ?_
  rintro e w' ⟨v, rfl, hr, _, hb⟩
  rw [← hL] at hr
  rcases hr with ⟨ao, cap, rfl, h0⟩ | ⟨b, off, cap, rfl, h2, h3, h4, h5⟩
  ·rw [hL] at h0; exact absurd h0 (allF_ne 7 u _)
  ·exact ⟨b, off, cap, rfl, ⟨h2, h5⟩, hb⟩
 have HLn : Hid (L.length ≤ 1716) := by unfold Hid; rw [hL]; exact length_everyC hu
 have HL0 : Hid (0 < L.length) := by
  unfold Hid; rw [hL]
  exact List.length_pos_iff.2 (allF_ne 7 u _)
 have HMd : Hid (∀ (i : Nat) N, L[i]? = some N → ∀ W, Calls Tryz.prog 72 #[.agg #[.int .i64 (N 0), .int .i64 (N 1), .int .i64 (N 2), .int .i64 (N 3), .int .i64 (N 4), .int .i64 (N 5), .int .i64 (N 6), .int .i64 (N 7)]] W (Bk W (.agg #[.int .i64 (madeN N 8).u, .int .i64 (madeN N 8).a, .int .i64 (madeN N 8).b, .int .i64 (madeN N 8).c]))) := fun i N hN W => refMade_right N W (everyC_right hu (by rw [← hL]; exact List.mem_of_getElem? hN))
 have eW : worldsL u = L.map fun N => madeN N 8 := by unfold worldsL; rw [hL]
 rw [eW]
 clear hL eW
 go_enter Tryz.func42, Tryz.ntmps42
 go_wp2_with fail
 go_at_call 71
 refine (HAl.out _).mono ?_
 rintro e w1 ⟨bE, oE, ecap, rfl, ⟨hbE, hat⟩, hb⟩
 have HB1 := hide hb
 have HbE := hide hbE
 have HAt := hide hat
 clear hb hbE hat
 have hL63 := HLn.out
 go_wp2
 go_loopw [4, 5] (fun r i wr => ∃ k : Nat, k ≤ L.length ∧ i = .int .i64 k ∧ wr.ownsRow w1.heap.size 55 4 r k (cellsD ((L.take k).map fun N => madeN N 8)) ∧ Below w1.heap.size w1 wr) (fun _ i _ => L.length - (intOf i).toNat)
 case atStart => exact ⟨0, Nat.zero_le _, rfl, World.ownsRow_nil _ _ _ _, Below.refl _ _⟩
 case round =>
  obtain ⟨k, hk, rfl, hown, hbr⟩ := hrel
  have HBr := hide hbr
  have HOw := hide hown
  clear hbr hown
  by_cases hlt : k < L.length
  ·obtain ⟨N, hN⟩ : ∃ N, L[k]? = some N := ⟨_, List.getElem?_eq_getElem hlt⟩
   have HMk := hide (HMd.out k N hN)
   have HCt := hide (HAt.out k N hN)
   obtain ⟨l, hl⟩ := nm ((L.take k).map fun N => madeN N 8)
   have HLl : Hid (l.length = k) := by unfold Hid; rw [hl, List.length_map, List.length_take]; omega
   obtain ⟨D, hD⟩ := nm (madeN N 8)
   have HLs : Hid (((L.take (k + 1)).map fun N => madeN N 8) = l ++ [D]) := by
    unfold Hid; rw [List.take_add_one, hN, List.map_append, ← hl, hD]; rfl
   rw [← hD] at HMk
   have HO4 : Hid (wr.ownsRow w1.heap.size 55 4 u4 l.length (cellsD l)) := by unfold Hid; rw [HLl.out, hl]; exact HOw.out
   clear hN hl hD
   have y0 : wr.cell? ⟨bE, oE + k * 8, none⟩ = some (.int .i64 (N 0)) := (HBr.out.cell HbE.out).trans (HCt.out 0 (by omega))
   have y1 : wr.cell? ⟨bE, oE + k * 8 + 1, none⟩ = some (.int .i64 (N 1)) := (HBr.out.cell HbE.out).trans (HCt.out 1 (by omega))
   have y2 : wr.cell? ⟨bE, oE + k * 8 + 2, none⟩ = some (.int .i64 (N 2)) := (HBr.out.cell HbE.out).trans (HCt.out 2 (by omega))
   have y3 : wr.cell? ⟨bE, oE + k * 8 + 3, none⟩ = some (.int .i64 (N 3)) := (HBr.out.cell HbE.out).trans (HCt.out 3 (by omega))
   have y4 : wr.cell? ⟨bE, oE + k * 8 + 4, none⟩ = some (.int .i64 (N 4)) := (HBr.out.cell HbE.out).trans (HCt.out 4 (by omega))
   have y5 : wr.cell? ⟨bE, oE + k * 8 + 5, none⟩ = some (.int .i64 (N 5)) := (HBr.out.cell HbE.out).trans (HCt.out 5 (by omega))
   have y6 : wr.cell? ⟨bE, oE + k * 8 + 6, none⟩ = some (.int .i64 (N 6)) := (HBr.out.cell HbE.out).trans (HCt.out 6 (by omega))
   have y7 : wr.cell? ⟨bE, oE + k * 8 + 7, none⟩ = some (.int .i64 (N 7)) := (HBr.out.cell HbE.out).trans (HCt.out 7 (by omega))
   go_wp2_with fail
   go_at_call 72
   refine (HMk.out _).mono ?_
   rintro e w5 ⟨rfl, hb⟩
   have HB5 := hide (HBr.out.trans (hb.mono HBr.out.size))
   have HO5 : Hid (w5.ownsRow w1.heap.size 55 4 u4 l.length (cellsD l)) := ownsRow_below HO4.out hb
   clear hb y0 y1 y2 y3 y4 y5 y6 y7
   obtain ⟨w6, hw6⟩ := nm (w5.alloc (.cells (arrW D) 55))
   have HB6 : Hid (Below w1.heap.size w1 w6) := by unfold Hid; rw [hw6]; exact HB5.out.alloc HB5.out.size _
   have HO6 : Hid (w6.ownsRow w1.heap.size 55 4 u4 l.length (cellsD l)) := by unfold Hid; rw [hw6]; exact HO5.out.alloc _
   have HQ6 : Hid (Blk w6 w5.heap.size 55 (arrW D)) := by unfold Hid; rw [hw6]; exact Blk.new _ _ _
   simp only [arrW] at hw6
   go_upto_region 7 with fail
   rw [← hw6]
   clear hw6
   obtain ⟨d0, d1, d2, d3⟩ := HQ6.out.cells4
   have HS6 := hide (HB6.out.size)
   have hl12 : l.length ≤ 2000 := by have := HLl.out; omega
   go_wp2_with (at_builtin; refine append_world rfl _ _ rfl w1.heap.size u4 rfl l D w6.heap.size 1 rfl (HO6.out.alloc _) (heap_alloc_new w6 _) (by have := HS6.out; simp; omega) hl12 ?_)
   intro v9 w9 hown hgrow
   have HBa : Hid (Below w1.heap.size w1 (w6.alloc (.cells #[.int .i64 D.u, .int .i64 D.a, .int .i64 D.b, .int .i64 D.c] 55))) := HB6.out.alloc HB6.out.size _
   have HB9 : Hid (Below w1.heap.size w1 w9) := HBa.out.grown hgrow HBa.out.size (fun x hx => (HO6.out.lt x hx).1)
   have HO9 : Hid (w9.ownsRow w1.heap.size 55 4 v9 (k + 1) (cellsD ((L.take (k + 1)).map fun N => madeN N 8))) := by
    unfold Hid
    rw [HLs.out, ← HLl.out]
    exact hown
   clear hown hgrow d0 d1 d2 d3
   go_wp2
   go_roundw
   case rel => exact ⟨k + 1, by omega, by go_num, HO9.out, HB9.out⟩
   case measure => simp [intOf]; omega
  ·obtain rfl : k = L.length := by omega
   have h := HOw.out
   rw [List.take_length] at h
   obtain ⟨b, cap, hv, hnew, hbl, hcells⟩ : ∃ b cap, u4 = .slice (some ⟨b, 0, none⟩) L.length cap ∧ w.heap.size ≤ b ∧ b < wr.heap.size ∧ ∀ i D, (L.map fun N => madeN N 8)[i]? = some D → WdAt wr b (i * 4) D := by
    rcases h.2 with ⟨_, h0⟩ | ⟨g, cap, cur, rfl, hb, hg, hc, hmx, hs, ht⟩
    ·have := HL0.out; omega
    ·refine ⟨g, cap, rfl, Nat.le_trans HB1.out.size hb, (Array.getElem?_eq_some_iff.1 hg).1, fun i D hD => ?_⟩
     have hi : i < L.length := by have := (List.getElem?_eq_some_iff.1 hD).1; simpa using this
     have kx : ∀ f, f < 4 → wr.cell? ⟨g, i * 4 + f, none⟩ = (arrW D)[f]? := fun f hf => by
      rw [cell_of_row wr g _ cur _ (0, 0) hg]
      have hx := cellsD_at (L.map fun N => madeN N 8) i D hD f hf
      rw [← ht, List.getElem?_take_of_lt (by omega)] at hx
      rw [← Array.getElem?_toList]
      exact hx
     exact ⟨kx 0 (by omega), kx 1 (by omega), kx 2 (by omega), kx 3 (by omega)⟩
   subst hv
   have HC : Hid (w.heap.size ≤ b ∧ b < wr.heap.size ∧ ∀ i D, (L.map fun N => madeN N 8)[i]? = some D → WdAt wr b (i * 4) D) := ⟨hnew, hbl, hcells⟩
   have HB := hide (HB1.out.trans (HBr.out.mono HB1.out.size))
   clear h hnew hbl hcells HOw
   go_wp2
   go_ret
   exact ⟨b, cap, by first | (rw [List.length_map]; done) | (rw [List.length_map]; rfl), HC.out.1, HC.out.2.1, HC.out.2.2, HB.out⟩
theorem refWorlds_any (u : Nat) (hu : u ≤ 6) (w : World) :
    Calls Tryz.prog 42 #[.int .i64 u] w fun e w' => ∃ b cap, e = .returned (.slice (some ⟨b, 0, none⟩) (worldsL u).length cap) ∧ b < w'.heap.size ∧ (∀ i D, (worldsL u)[i]? = some D → WdAt w' b (i * 4) D) ∧ Below w.heap.size w w' :=
 (refWorlds_new u hu w).mono fun _ _ ⟨b, cap, h1, _, h2, h3, h4⟩ => ⟨b, cap, h1, h2, h3, h4⟩
set_option maxHeartbeats 8000000 in
theorem refSo_any (v : Value) (fs : List Fm) (hgood : ∀ f ∈ fs, f.fault = 0) (D : Wd) (hok : D.ok = true) (w : World) (hF : ReadsF w v fs) :
    Calls Tryz.prog 43 #[v, .agg #[.int .i64 D.u, .int .i64 D.a, .int .i64 D.b, .int .i64 D.c]] w (Bk w (.bool (D.so fs))) := by
 obtain ⟨lo, lcap, rfl, hl63⟩ := hF.slice
 have HF := hide hF
 have HTr : Hid (∀ (i : Nat) f va vc, fs[i]? = some f → ∀ W, ReadsA W va f.ats → Reads W vc f.c → Calls Tryz.prog 73 #[.agg #[va, vc], .agg #[.int .i64 D.u, .int .i64 D.a, .int .i64 D.b, .int .i64 D.c]] W (Bk W (.bool (D.formIs f.ats f.c)))) := fun i f va vc hf W hA hC => by
  have hz : formFault f.ats f.c = 0 := hgood f (List.mem_of_getElem? hf)
  have h := refTrue_any va vc f.ats f.c D.u D.a D.b D.c hz hok W hA hC
  have e : D.formIs f.ats f.c = valF (D.heldL f.ats) f.c := by unfold Wd.formIs; rw [if_pos (wdForm_zero.2 ⟨hz, hok⟩)]
  rw [e]
  exact h
 have HAll : Hid ((∀ j, j < fs.length → ∀ f, fs[j]? = some f → D.formIs f.ats f.c = true) → D.so fs = true) := fun h => by
  unfold Wd.so
  rw [List.all_eq_true]
  intro f hf
  obtain ⟨i, hi⟩ := List.mem_iff_getElem?.1 hf
  exact h i (List.getElem?_eq_some_iff.1 hi).1 f hi
 have HNot : Hid (∀ (j : Nat) f, fs[j]? = some f → D.formIs f.ats f.c = false → D.so fs = false) := fun j f hf h => by
  unfold Wd.so
  rw [List.all_eq_false]
  exact ⟨f, List.mem_of_getElem? hf, by rw [h]; decide⟩
 obtain ⟨R, hR⟩ := nm (D.so fs)
 rw [← hR] at HAll HNot ⊢
 obtain ⟨w1, hw1⟩ := nm (w.alloc (.cells #[.int .i64 D.u, .int .i64 D.a, .int .i64 D.b, .int .i64 D.c] 55))
 have HB1 : Hid (Below w.heap.size w w1) := by unfold Hid; rw [hw1]; exact below_alloc1 _ _
 have HQ1 : Hid (Blk w1 w.heap.size 55 (arrW D)) := by unfold Hid; rw [hw1]; exact Blk.new _ _ _
 obtain ⟨n, hn⟩ := nm fs.length
 rw [← hn] at HF hl63 HAll ⊢
 have HN := hide hn
 clear hF hgood hok hR hn
 go_enter Tryz.func43, Tryz.ntmps43
 go_wp2
 rw [← hw1]
 clear hw1
 go_loopw [5, 6] (fun i _ wr => ∃ k : Nat, k ≤ n ∧ i = .int .i64 k ∧ Below w1.heap.size w1 wr ∧ ∀ j, j < k → ∀ f, fs[j]? = some f → D.formIs f.ats f.c = true) (fun i _ _ => n - (intOf i).toNat)
 case atStart => exact ⟨0, Nat.zero_le _, rfl, Below.refl _ _, fun j hj => by omega⟩
 case round =>
  obtain ⟨k, hk, rfl, hbr, hso⟩ := hrel
  have HBr := hide hbr
  have HBw := hide (HB1.out.trans (hbr.mono HB1.out.size))
  have HSo := hide hso
  clear hbr hso
  by_cases hlt : k < n
  ·obtain ⟨f, hf⟩ : ∃ f, fs[k]? = some f := ⟨_, List.getElem?_eq_getElem (by rw [← HN.out]; exact hlt)⟩
   have HFk := hide hf
   obtain ⟨bL, oL, cL, hv⟩ := HF.out.place (by rw [← HN.out]; omega)
   obtain ⟨hlo, hx1, hx2⟩ := Value.slice.inj hv
   clear hx1 hx2
   subst hlo
   obtain ⟨hbL, va, vc, c0, c1, hA, hC⟩ := HF.out.at hf
   obtain ⟨ao, acap, rfl, _⟩ := hA.slice
   obtain ⟨co, ccap, rfl, _⟩ := hC.slice
   have x0 : wr.cell? ⟨bL, oL + k * 2, none⟩ = some (.slice ao f.ats.length acap) := (HBw.out.cell hbL).trans c0
   have x1 : wr.cell? ⟨bL, oL + k * 2 + 1, none⟩ = some (.slice co f.c.length ccap) := (HBw.out.cell hbL).trans c1
   have HT1 : Hid (∀ W, Below wr.heap.size wr W → Calls Tryz.prog 73 #[.agg #[.slice ao f.ats.length acap, .slice co f.c.length ccap], .agg #[.int .i64 D.u, .int .i64 D.a, .int .i64 D.b, .int .i64 D.c]] W (Bk wr (.bool (D.formIs f.ats f.c)))) := fun W hW => by
    have hb' := HBw.out.trans (hW.mono HBw.out.size)
    exact (HTr.out k f _ _ hf W (hA.below hb') (hC.below hb')).mono fun e w' ⟨he, hb⟩ => ⟨he, hW.trans (hb.mono hW.size)⟩
   obtain ⟨q, hq⟩ := nm (D.formIs f.ats f.c)
   have HQ := hide hq
   rw [← hq] at HT1
   obtain ⟨al, hal⟩ := nm f.ats.length
   obtain ⟨cl, hcl⟩ := nm f.c.length
   rw [← hal] at x0 HT1
   rw [← hcl] at x1 HT1
   obtain ⟨d0, d1, d2, d3⟩ := (HQ1.out.below HBr.out).cells4
   clear hf hv hbL c0 c1 hA hC hq hal hcl
   have hkn : (k : Int) < (n : Int) := by omega
   go_upto_region 4 with fail
   go_cut [6] from 7 to 20 (fun x wx => x = .bool q ∧ Below wr.heap.size wr wx)
   case first =>
    go_region_with (go_at_call 73; refine (HT1.out _ (by first | exact Below.drew (Below.refl _ _) | exact Below.refl _ _)).mono ?_; rintro e w8 ⟨rfl, hb8⟩)
    all_goals (try go_wp2)
    all_goals go_meet
    all_goals exact ⟨rfl, hb8⟩
   case rest =>
    obtain ⟨rfl, hbc⟩ := hcut
    obtain ⟨wf, hwf⟩ := nm wc
    subst hwf
    have HBf := hide (HBr.out.trans (hbc.mono HBr.out.size))
    clear hbc x0 x1 d0 d1 d2 d3
    cases q with
    | true =>
     have HS1 : Hid (∀ j, j < k + 1 → ∀ f, fs[j]? = some f → D.formIs f.ats f.c = true) := fun j hj g hg => by
      rcases Nat.lt_or_ge j k with h | h
      ·exact HSo.out j h g hg
      ·obtain rfl : j = k := by omega
       have e := HFk.out.symm.trans hg
       rw [← Option.some.inj e]
       exact HQ.out.symm
     clear HQ
     go_wp2
     go_roundw
     case rel => exact ⟨k + 1, by omega, by go_num, HBf.out, HS1.out⟩
     case measure => simp [intOf]; omega
    | false =>
     have HRf := hide (HNot.out k f HFk.out HQ.out.symm)
     clear HQ
     go_wp2
     go_ret
     exact ⟨by first | (rw [HRf.out]; done) | (rw [HRf.out]; rfl), HB1.out.trans (HBf.out.mono HB1.out.size)⟩
  ·obtain rfl : k = n := by omega
   have HRt := hide (HAll.out HSo.out)
   go_wp2
   go_ret
   exact ⟨by first | (rw [HRt.out]; done) | (rw [HRt.out]; rfl), HBw.out⟩
set_option maxHeartbeats 8000000 in
theorem refOpen_any (v : Value) (fs : List Fm) (hgood : ∀ f ∈ fs, f.fault = 0) (u : Nat) (hu : u ≤ 6) (w : World) (hF : ReadsF w v fs) :
    Calls Tryz.prog 20 #[v, .int .i64 u] w (Bk w (.bool (openN fs u))) := by
 obtain ⟨lo, lcap, rfl, hl63⟩ := hF.slice
 have eO : openN fs u = (worldsL u).any fun D => D.so fs := by unfold openN worldsL; rw [List.any_map]; rfl
 obtain ⟨L, hL⟩ := nm (worldsL u)
 have HWo : Hid (∀ W, Calls Tryz.prog 42 #[.int .i64 u] W fun e w' => (∃ b cap, e = .returned (.slice (some ⟨b, 0, none⟩) L.length cap) ∧ b < w'.heap.size ∧ ∀ i D, L[i]? = some D → WdAt w' b (i * 4) D) ∧ Below W.heap.size W w') := fun W => by
  refine (refWorlds_any u hu W).mono ?_
  rintro e w' ⟨b, cap, rfl, h1, h2, hb⟩
  rw [hL]
  exact ⟨⟨b, cap, rfl, h1, h2⟩, hb⟩
 have HSo : Hid (∀ (i : Nat) D, L[i]? = some D → ∀ W, Below w.heap.size w W → Calls Tryz.prog 43 #[.slice lo fs.length lcap, .agg #[.int .i64 D.u, .int .i64 D.a, .int .i64 D.b, .int .i64 D.c]] W (Bk W (.bool (D.so fs)))) := fun i D hD W hW => refSo_any _ fs hgood D (worldsL_ok hu (by rw [← hL]; exact List.mem_of_getElem? hD)) W (hF.below hW)
 have HLn : Hid (L.length ≤ 1716) := by unfold Hid; rw [hL, worldsL_length]; exact length_everyC hu
 have HAny : Hid (∀ (i : Nat) D, L[i]? = some D → D.so fs = true → openN fs u = true) := fun i D hD h => by
  rw [eO, ← hL, List.any_eq_true]
  exact ⟨D, List.mem_of_getElem? hD, h⟩
 have HNone : Hid ((∀ j, j < L.length → ∀ D, L[j]? = some D → D.so fs = false) → openN fs u = false) := fun h => by
  rw [eO, ← hL, List.any_eq_false]
  intro D hD
  obtain ⟨i, hi⟩ := List.mem_iff_getElem?.1 hD
  rw [h i (List.getElem?_eq_some_iff.1 hi).1 D hi]
  decide
 obtain ⟨R, hR⟩ := nm (openN fs u)
 rw [← hR] at HAny HNone ⊢
 obtain ⟨n, hn⟩ := nm fs.length
 rw [← hn] at HSo ⊢
 clear hF hgood eO hL hR hn hl63
 go_enter Tryz.func20, Tryz.ntmps20
 go_wp2_with fail
 go_at_call 42
 refine (HWo.out _).mono ?_
 rintro e w1 ⟨⟨b, cap, rfl, hb1, hat⟩, hb⟩
 have HB1 := hide hb
 have Hb1 := hide hb1
 have HAt := hide hat
 clear hb hb1 hat
 have hL63 := HLn.out
 go_wp2
 go_loopw [6, 7] (fun i _ wr => ∃ k : Nat, k ≤ L.length ∧ i = .int .i64 k ∧ Below w1.heap.size w1 wr ∧ ∀ j, j < k → ∀ D, L[j]? = some D → D.so fs = false) (fun i _ _ => L.length - (intOf i).toNat)
 case atStart => exact ⟨0, Nat.zero_le _, rfl, Below.refl _ _, fun j hj => by omega⟩
 case round =>
  obtain ⟨k, hk, rfl, hbr, hno⟩ := hrel
  have HBr := hide hbr
  have HBw := hide (HB1.out.trans (hbr.mono HB1.out.size))
  have HNo := hide hno
  clear hbr hno
  by_cases hlt : k < L.length
  ·obtain ⟨D, hD⟩ : ∃ D, L[k]? = some D := ⟨_, List.getElem?_eq_getElem hlt⟩
   have HD := hide hD
   have HSk := hide (HSo.out k D hD wr HBw.out)
   obtain ⟨y0, y1, y2, y3⟩ := (HAt.out k D hD).at HBr.out Hb1.out
   obtain ⟨q, hq⟩ := nm (D.so fs)
   have HQ := hide hq
   rw [← hq] at HSk
   clear hD hq
   go_wp2_with fail
   go_at_call 43
   refine HSk.out.mono ?_
   rintro e w5 ⟨rfl, hb⟩
   have HB5 := hide (HBr.out.trans (hb.mono HBr.out.size))
   clear hb y0 y1 y2 y3
   cases q with
   | true =>
    have HRt := hide (HAny.out k D HD.out HQ.out.symm)
    clear HQ
    go_wp2
    go_ret
    exact ⟨by first | (rw [HRt.out]; done) | (rw [HRt.out]; rfl), HB1.out.trans (HB5.out.mono HB1.out.size)⟩
   | false =>
    have HN1 : Hid (∀ j, j < k + 1 → ∀ D, L[j]? = some D → D.so fs = false) := fun j hj E hE => by
     rcases Nat.lt_or_ge j k with h | h
     ·exact HNo.out j h E hE
     ·obtain rfl : j = k := by omega
      have e := HD.out.symm.trans hE
      rw [← Option.some.inj e]
      exact HQ.out.symm
    clear HQ
    go_wp2
    go_roundw
    case rel => exact ⟨k + 1, by omega, by go_num, HB5.out, HN1.out⟩
    case measure => simp [intOf]; omega
  ·obtain rfl : k = L.length := by omega
   have HRf := hide (HNone.out HNo.out)
   go_wp2
   go_ret
   exact ⟨by first | (rw [HRf.out]; done) | (rw [HRf.out]; rfl), HBw.out⟩
end Go.Proofs.YtjmeakkmfeoigaaGreatDoor
namespace Go.Proofs.YtjmeakkmfeoigaaGreatDoor
open Go.ChangeShapes Go.WideShapes Go.ChangeAt Go.RowKit
set_option maxRecDepth 100000
set_option maxHeartbeats 8000000 in
theorem coreCheck_any (v : Value) (fs : List Fm) (u : Int) (w : World) (hF : ReadsF w v fs) (hK : KindsLaid w) :
    Calls Tryz.prog 76 #[v, .int .i64 u] w (Bk w (errV (formsFault fs u))) := by
 obtain ⟨lo, lcap, rfl, hl63⟩ := hF.slice
 have HF := hide hF
 have HFm : Hid (∀ f va vc W, Below w.heap.size w W → ReadsA W va f.ats → Reads W vc f.c → Calls Tryz.prog 14 #[.agg #[va, vc]] W (Bk W (errV (Fm.fault f)))) := fun f va vc W hW hA hC => fcheck_any va vc f.ats f.c W hA hC (hK.below hW)
 obtain ⟨R, hR⟩ := nm (formsFault fs u)
 have H0 : Hid (fs.length = 0 → R = 5) := fun h => by rw [hR]; unfold formsFault; rw [if_pos h]
 have H6 : Hid (¬ fs.length = 0 → 6 < fs.length → R = 4) := fun h1 h2 => by rw [hR]; unfold formsFault; rw [if_neg h1, if_pos h2]
 have HBad : Hid (¬ fs.length = 0 → ¬ 6 < fs.length → ∀ (k : Nat) f, fs[k]? = some f → (∀ j, j < k → ∀ g, fs[j]? = some g → Fm.fault g = 0) → ¬ Fm.fault f = 0 → R = Fm.fault f) := fun h1 h2 k f hk hj hf => by
  have e := firstForm_at hk hj hf
  rw [hR]; unfold formsFault; rw [if_neg h1, if_neg h2, if_neg (by rw [e]; exact hf), e]
 have HEnd : Hid (¬ fs.length = 0 → ¬ 6 < fs.length → (∀ j, j < fs.length → ∀ g, fs[j]? = some g → Fm.fault g = 0) → R = if 0 ≤ u ∧ u ≤ 6 then 0 else 1) := fun h1 h2 hj => by
  have e : firstForm fs = 0 := firstForm_zero.2 fun f hf => by
   obtain ⟨i, hi⟩ := List.mem_iff_getElem?.1 hf
   exact hj i (List.getElem?_eq_some_iff.1 hi).1 f hi
  rw [hR]; unfold formsFault; rw [if_neg h1, if_neg h2, if_pos e]
 rw [← hR]
 obtain ⟨n, hn⟩ := nm fs.length
 rw [← hn] at HF hl63 H0 H6 HBad HEnd ⊢
 have HN := hide hn
 clear hF hR hn hK
 by_cases hz : n = 0
 ·have HR := hide (H0.out hz)
  subst hz
  go_enter Tryz.func76, Tryz.ntmps76
  go_wp2
  go_ret
  exact ⟨by first | (rw [HR.out]; done) | (rw [HR.out]; rfl), Below.refl _ _⟩
 ·by_cases h6 : 6 < n
  ·have HR := hide (H6.out hz h6)
   have dz : ((n : Int) == 0) = false := by simp; omega
   have h6' : (6 : Int) < (n : Int) := by omega
   go_enter Tryz.func76, Tryz.ntmps76
   go_wp2
   go_ret
   exact ⟨by first | (rw [HR.out]; done) | (rw [HR.out]; rfl), Below.refl _ _⟩
  ·have dz : ((n : Int) == 0) = false := by simp; omega
   have h6' : (n : Int) ≤ 6 := by omega
   have HBad' := hide (HBad.out hz h6)
   have HEnd' := hide (HEnd.out hz h6)
   have Hz := hide hz
   clear hz h6 H0 H6 HBad HEnd
   go_enter Tryz.func76, Tryz.ntmps76
   go_wp2
   go_loopw [18] (fun i wr => ∃ k : Nat, k ≤ n ∧ i = .int .i64 k ∧ Below w.heap.size w wr ∧ ∀ j, j < k → ∀ g, fs[j]? = some g → Fm.fault g = 0) (fun i _ => n - (intOf i).toNat)
   case atStart => exact ⟨0, Nat.zero_le _, rfl, Below.refl _ _, fun j hj => by omega⟩
   case round =>
    obtain ⟨k, hk, rfl, hbr, hso⟩ := hrel
    have HBr := hide hbr
    have HSo := hide hso
    clear hbr hso
    by_cases hlt : k < n
    ·obtain ⟨f, hf⟩ : ∃ f, fs[k]? = some f := ⟨_, List.getElem?_eq_getElem (by rw [← HN.out]; exact hlt)⟩
     have HFk := hide hf
     obtain ⟨bL, oL, cL, hv⟩ := HF.out.place (by rw [← HN.out]; omega)
     obtain ⟨hlo, hx1, hx2⟩ := Value.slice.inj hv
     clear hx1 hx2
     subst hlo
     obtain ⟨hbL, va, vc, c0, c1, hA, hC⟩ := HF.out.at hf
     have HFc : Hid (∀ W, Below wr.heap.size wr W → Calls Tryz.prog 14 #[.agg #[va, vc]] W (Bk w (errV (Fm.fault f)))) := fun W hW => by
      have hb' := HBr.out.trans (hW.mono HBr.out.size)
      exact (HFm.out f va vc W hb' (hA.below hb') (hC.below hb')).mono fun e w' ⟨h1, h2⟩ => ⟨h1, hb'.trans (h2.mono hb'.size)⟩
     have x0 : wr.cell? ⟨bL, oL + k * 2, none⟩ = some va := (HBr.out.cell hbL).trans c0
     have x1 : wr.cell? ⟨bL, oL + k * 2 + 1, none⟩ = some vc := (HBr.out.cell hbL).trans c1
     obtain ⟨ao, acap, rfl, _⟩ := hA.slice
     obtain ⟨co, ccap, rfl, _⟩ := hC.slice
     obtain ⟨al, hal⟩ := nm f.ats.length
     obtain ⟨cl, hcl⟩ := nm f.c.length
     rw [← hal] at x0 HFc
     rw [← hcl] at x1 HFc
     obtain ⟨q, hq⟩ := nm (Fm.fault f)
     have HQ := hide hq
     rw [← hq] at HFc
     clear hf hv hbL c0 c1 hA hC hq hal hcl
     have hkn : (k : Int) < (n : Int) := by omega
     by_cases h0 : q = 0
     ·have HFz : Hid (∀ W, Below wr.heap.size wr W → Calls Tryz.prog 14 #[.agg #[.slice ao al acap, .slice co cl ccap]] W (Bk w .nilIface)) := by
       have h := HFc.out
       rw [h0] at h
       exact h
      have HQ0 : Hid (Fm.fault f = 0) := by unfold Hid; rw [← HQ.out, h0]
      clear h0 HFc HQ
      go_wp2_with fail
      go_at_call 14
      refine (HFz.out _ (by first | exact below_alloc1 _ _ | exact ((((Below.refl _ _).alloc (Nat.le_refl _) _).setCell (by simp) _).setCell (by simp) _))).mono ?_
      rintro e w8 ⟨rfl, hb8⟩
      have HB8 := hide hb8
      clear hb8 x0 x1
      go_wp2
      go_roundw
      case rel =>
       refine ⟨k + 1, by omega, by go_num, HB8.out, fun j hj g hg => ?_⟩
       by_cases e : j = k
       ·subst e
        obtain rfl : f = g := Option.some.inj (HFk.out.symm.trans hg)
        exact HQ0.out
       ·exact HSo.out j (by omega) g hg
      case measure => simp [intOf]; omega
     ·have HFz : Hid (∀ W, Below wr.heap.size wr W → Calls Tryz.prog 14 #[.agg #[.slice ao al acap, .slice co cl ccap]] W (Bk w (.iface 64 (.int .i64 q)))) := by
       have h := HFc.out
       rw [show errV q = .iface 64 (.int .i64 q) by unfold errV; rw [if_neg h0]] at h
       exact h
      have HR : Hid (errV R = .iface 64 (.int .i64 q)) := by
       unfold Hid
       rw [HBad'.out k f HFk.out HSo.out (by rw [← HQ.out]; exact h0), ← HQ.out]
       unfold errV; rw [if_neg h0]
      clear h0 HFc HQ
      go_wp2_with fail
      go_at_call 14
      refine (HFz.out _ (by first | exact below_alloc1 _ _ | exact ((((Below.refl _ _).alloc (Nat.le_refl _) _).setCell (by simp) _).setCell (by simp) _))).mono ?_
      rintro e w8 ⟨rfl, hb8⟩
      have HB8 := hide hb8
      clear hb8 x0 x1
      go_wp2
      go_ret
      exact ⟨by first | (rw [HR.out]; done) | (rw [HR.out]; rfl), HB8.out⟩
    ·obtain rfl : k = n := by omega
     have hE := HEnd'.out HSo.out
     by_cases hu : 0 ≤ u ∧ u ≤ 6
     ·rw [if_pos hu] at hE
      have HR := hide hE
      have h : okB u 0 = true := ok_zero hu.1 hu.2
      have HC : Hid (∀ W, Calls Tryz.prog 27 #[.int .i64 u, .int .i64 0] W (Sk W .nilIface)) := fun W => check_ok _ _ h W
      clear hE hu h
      go_wp2_with fail
      go_at_call 27
      refine (HC.out _).mono ?_
      rintro e w' ⟨rfl, rfl⟩
      go_wp2
      go_ret
      exact ⟨by first | (rw [HR.out]; done) | (rw [HR.out]; rfl), HBr.out⟩
     ·rw [if_neg hu] at hE
      have HR := hide hE
      have h : okB u 0 = false := okB_not.2 fun h => hu ⟨h.1, h.2.1⟩
      have HC : Hid (∀ W, Calls Tryz.prog 27 #[.int .i64 u, .int .i64 0] W (Sk W (.iface 64 (.int .i64 1)))) := fun W => check_no _ _ h W
      clear hE hu h
      go_wp2_with fail
      go_at_call 27
      refine (HC.out _).mono ?_
      rintro e w' ⟨rfl, rfl⟩
      go_wp2
      go_ret
      exact ⟨by first | (rw [HR.out]; done) | (rw [HR.out]; rfl), HBr.out⟩
end Go.Proofs.YtjmeakkmfeoigaaGreatDoor
namespace Go.Proofs.YtjmeakkmfeoigaaGreatDoor
open Go.RowKit
theorem or64 : ∀ k : Nat, k < 6 → ∀ m : Nat, m < 2 ^ k → bits .or .i64 (m : Int) (pw k) = (m : Int) + pw k := by decide +kernel
theorem and64 : ∀ n : Nat, n < 64 → ∀ m : Nat, m < 64 → bits .and .i64 (n : Int) (m : Int) = ((n &&& m : Nat) : Int) := by decide +kernel
theorem less64 : ∀ n : Nat, n < 64 → ∀ m : Nat, m < 64 → bits .andNot .i64 (n : Int) (m : Int) = ((n &&& (63 ^^^ m) : Nat) : Int) := by decide +kernel
theorem pw_nat (k : Nat) : pw k = ((2 ^ k : Nat) : Int) := by unfold pw; simp
theorem two_le {n : Nat} (h : n ≤ 6) : 2 ^ n ≤ 64 := Nat.le_trans (Nat.pow_le_pow_right (by decide) h : 2 ^ n ≤ 2 ^ 6) (by decide)
theorem bits_at (L : Nat → Bool) {n : Nat} (hn : n ≤ 6) : ∃ m : Nat, maskTo L n = (m : Int) ∧ m < 64 ∧ ∀ f, m.testBit f = (decide (f < n) && L f) := by
 obtain ⟨m0, m1⟩ := maskTo_le L n
 obtain ⟨m, hm⟩ := Int.eq_ofNat_of_zero_le m0
 have hlt : m < 2 ^ n := by rw [hm, pw_nat] at m1; omega
 have h64 := two_le hn
 refine ⟨m, hm, by omega, fun f => ?_⟩
 by_cases hf : f < n
 ·have h := has_mask L (show n ≤ 8 by omega) hf
  rw [hm] at h
  rw [decide_eq_true hf, Bool.true_and, ← h, Nat.testBit_eq_decide_div_mod_eq]
  unfold hasB
  apply decide_eq_decide.2
  have e : ((m : Int) / 2 ^ ((f : Int)).toNat % 2) = ((m / 2 ^ f % 2 : Nat) : Int) := by simp
  rw [e]
  omega
 ·rw [decide_eq_false hf, Bool.false_and]
  exact Nat.testBit_lt_two_pow (Nat.lt_of_lt_of_le hlt (Nat.pow_le_pow_right (by decide) (Nat.le_of_not_lt hf)))
theorem mask_congr {L M : Nat → Bool} : ∀ n, (∀ k, k < n → L k = M k) → maskTo L n = maskTo M n := by
 intro n
 induction n with
 | zero => intro _; rfl
 | succ n ih =>
  intro h
  unfold maskTo
  rw [ih fun k hk => h k (by omega), h n (by omega)]
theorem mask_all : ∀ n, pw n - 1 = maskTo (fun _ => true) n := by
 intro n
 induction n with
 | zero => rfl
 | succ n ih =>
  have e : pw (n + 1) = pw n + pw n := by rw [pw_nat, pw_nat, Nat.pow_succ]; omega
  unfold maskTo
  rw [← ih, e]
  show _ = _ + 1 * pw n
  omega
theorem mask_or (L : Nat → Bool) {k : Nat} (hk : k < 6) (h : L k = true) : bits .or .i64 (maskTo L k) (pw k) = maskTo L (k + 1) := by
 obtain ⟨m0, m1⟩ := maskTo_le L k
 obtain ⟨m, hm⟩ := Int.eq_ofNat_of_zero_le m0
 have hlt : m < 2 ^ k := by rw [hm, pw_nat] at m1; omega
 show _ = maskTo L k + oneB (L k) * pw k
 rw [hm, or64 k hk m hlt, h]
 show _ = _ + 1 * pw k
 omega
theorem mask_not (L : Nat → Bool) {k : Nat} (h : L k = false) : maskTo L (k + 1) = maskTo L k := by
 show maskTo L k + oneB (L k) * pw k = _
 rw [h]
 show _ + 0 * pw k = _
 omega
theorem mask_less (g : Nat → Bool) {n i : Nat} (hn : n ≤ 6) (hi : i < n) : bits .andNot .i64 (maskTo (fun k => !g k) n) (pw i) = maskTo (fun k => !putG g i true k) n := by
 obtain ⟨m, hm, h64, hb⟩ := bits_at (fun k => !g k) hn
 obtain ⟨q, hq, _, hc⟩ := bits_at (fun k => !putG g i true k) hn
 have hp : 2 ^ i < 64 := Nat.lt_of_lt_of_le (Nat.pow_lt_pow_right (by decide) hi : 2 ^ i < 2 ^ n) (two_le hn)
 rw [hm, hq, pw_nat, less64 m h64 _ hp]
 have e : m &&& (63 ^^^ 2 ^ i) = q := Nat.eq_of_testBit_eq fun f => by
  have h63 : Nat.testBit 63 f = decide (f < 6) := Nat.testBit_two_pow_sub_one 6 f
  rw [Nat.testBit_and, Nat.testBit_xor, hb, hc, h63, Nat.testBit_two_pow]
  by_cases hf : f < n
  ·rw [decide_eq_true hf, decide_eq_true (show f < 6 by omega)]
   by_cases hfi : i = f
   ·subst hfi; rw [decide_eq_true rfl, putG_same]; simp
   ·rw [decide_eq_false hfi, putG_other _ _ (fun e => hfi e.symm)]; simp
  ·rw [decide_eq_false hf]; simp
 rw [e]
theorem mask_has (L : Nat → Bool) {n i : Nat} (hn : n ≤ 6) (hi : i < n) : (bits .and .i64 (maskTo L n) (pw i) = 0) ↔ L i = false := by
 obtain ⟨m, hm, h64, hb⟩ := bits_at L hn
 have hp : 2 ^ i < 64 := Nat.lt_of_lt_of_le (Nat.pow_lt_pow_right (by decide) hi : 2 ^ i < 2 ^ n) (two_le hn)
 rw [hm, pw_nat, and64 m h64 _ hp]
 have e : (((m &&& 2 ^ i : Nat) : Int) = 0) ↔ (m &&& 2 ^ i) = 0 := by omega
 rw [e]
 constructor
 ·intro h
  have := congrArg (fun x => Nat.testBit x i) h
  simp only [Nat.testBit_and, hb, Nat.testBit_two_pow, Nat.zero_testBit, decide_eq_true hi, Bool.true_and] at this
  simpa using this
 ·intro h
  refine Nat.eq_of_testBit_eq fun f => ?_
  rw [Nat.testBit_and, hb, Nat.testBit_two_pow, Nat.zero_testBit]
  by_cases hfi : i = f
  ·subst hfi; rw [h]; simp
  ·rw [decide_eq_false hfi]; simp
theorem mask_in (H L : Nat → Bool) {n : Nat} (hn : n ≤ 6) : (bits .and .i64 (maskTo H n) (maskTo L n) = maskTo L n) ↔ ∀ j, j < n → L j = true → H j = true := by
 obtain ⟨m, hm, hm64, hb⟩ := bits_at H hn
 obtain ⟨q, hq, hq64, hc⟩ := bits_at L hn
 rw [hm, hq, and64 m hm64 q hq64]
 have e : (((m &&& q : Nat) : Int) = (q : Int)) ↔ (m &&& q) = q := by omega
 rw [e]
 constructor
 ·intro h j hj hl
  have := congrArg (fun x => Nat.testBit x j) h
  simp only [Nat.testBit_and, hb, hc, decide_eq_true hj, hl, Bool.true_and, Bool.and_true] at this
  exact this
 ·intro h
  refine Nat.eq_of_testBit_eq fun f => ?_
  rw [Nat.testBit_and, hb, hc]
  by_cases hf : f < n
  ·rw [decide_eq_true hf]
   cases hl : L f
   ·simp
   ·rw [h f hf hl]; rfl
  ·rw [decide_eq_false hf]; simp
def holdsAt (fs : List Fm) (D : Wd) (j : Nat) : Bool := match fs[j]? with | some f => D.formIs f.ats f.c | none => false
theorem holds_at {fs : List Fm} {D : Wd} {j : Nat} {f : Fm} (h : fs[j]? = some f) : holdsAt fs D j = D.formIs f.ats f.c := by unfold holdsAt; rw [h]
def heldL (fs : List Fm) (u : Nat) : List Int := (everyC u).map fun N => maskTo (holdsAt fs (madeN N 8)) fs.length
theorem heldL_length (fs : List Fm) (u : Nat) : (heldL fs u).length = (everyC u).length := by unfold heldL; rw [List.length_map]
theorem held_open {fs : List Fm} (h6 : fs.length ≤ 6) (u : Nat) (g : Nat → Bool) : ((heldL fs u).any fun h => decide (bits .and .i64 h (maskTo (fun k => !g k) fs.length) = maskTo (fun k => !g k) fs.length)) = openN (leftF fs g) u := by
 unfold heldL openN
 rw [List.any_map]
 congr 1
 funext N
 rw [Bool.eq_iff_iff]
 show decide _ = true ↔ _
 rw [decide_eq_true_iff, mask_in _ _ h6]
 unfold Wd.so
 rw [List.all_eq_true]
 constructor
 ·intro h f hf
  obtain ⟨j, h1, h2, h3⟩ := (leftTo_mem fs.length (Nat.le_refl _)).1 hf
  have := h j h1 (by rw [h2]; rfl)
  rw [holds_at h3] at this
  exact this
 ·intro h j hj hl
  have hf := List.getElem?_eq_getElem hj
  rw [holds_at hf]
  exact h _ ((leftTo_mem fs.length (Nat.le_refl _)).2 ⟨j, hj, by simpa using hl, hf⟩)
theorem left_all (fs : List Fm) (u : Nat) : openN (leftF fs fun _ => false) u = openN fs u := by
 rw [Bool.eq_iff_iff]
 constructor
 ·exact open_less fun f hf => by
   obtain ⟨j, hj⟩ := List.mem_iff_getElem?.1 hf
   exact (leftTo_mem fs.length (Nat.le_refl _)).2 ⟨j, (List.getElem?_eq_some_iff.1 hj).1, rfl, hj⟩
 ·exact open_less fun f hf => by
   obtain ⟨j, _, _, h3⟩ := (leftTo_mem fs.length (Nat.le_refl _)).1 hf
   exact List.mem_of_getElem? h3
def placesTo (L : Nat → Bool) : Nat → List Int
 | 0 => []
 | k + 1 => placesTo L k ++ (if L k = true then [(k : Int)] else [])
theorem placesTo_length (L : Nat → Bool) : ∀ k, (placesTo L k).length ≤ k := by
 intro k
 induction k with
 | zero => exact Nat.le_refl _
 | succ k ih =>
  unfold placesTo
  split
  ·simp; omega
  ·simp; omega
theorem places_core {fs : List Fm} {u n : Nat} : ∀ i, i ≤ n → placesTo (fun k => !goneTo fs u n k) i = coreTo fs u i := by
 intro i
 induction i with
 | zero => intro _; rfl
 | succ i ih =>
  intro hi
  have hk := goneTo_keep fs u (n - (i + 1)) (i + 1) i (by omega)
  rw [show i + 1 + (n - (i + 1)) = n by omega] at hk
  unfold placesTo
  rw [ih (by omega), coreTo_succ, hk, goneTo_succ]
  cases openN (leftF fs (putG (goneTo fs u i) i true)) u
  ·simp [putG_same]
  ·simp [putG_same]
theorem left_step {fs : List Fm} {u n i : Nat} : (openN (leftF fs (putG (goneTo fs u i) i true)) u = true → maskTo (fun k => !goneTo fs u (i + 1) k) n = maskTo (fun k => !goneTo fs u i k) n) ∧ (openN (leftF fs (putG (goneTo fs u i) i true)) u = false → maskTo (fun k => !goneTo fs u (i + 1) k) n = maskTo (fun k => !putG (goneTo fs u i) i true k) n) := by
 refine ⟨fun h => mask_congr n fun k _ => ?_, fun h => mask_congr n fun k _ => ?_⟩
 ·rw [goneTo_succ, if_pos h]
  by_cases hk : k = i
  ·rw [hk, putG_same, goneTo_far fs u i i (Nat.le_refl _)]
  ·rw [putG_other _ _ hk]
 ·rw [goneTo_succ, if_neg (by rw [h]; decide)]
end Go.Proofs.YtjmeakkmfeoigaaGreatDoor
namespace Go.Proofs.YtjmeakkmfeoigaaGreatDoor
open Go.ChangeShapes Go.WideShapes Go.ChangeAt Go.RowKit
set_option maxRecDepth 100000
theorem infoBool : (Tryz.prog.info? 4).map (fun i => (i.zero, i.size, i.bytes)) = some (some (.bool false), 1, 1) := by kernel_rfl
def ReadsB (w : World) (b off : Nat) (hs : List Bool) : Prop := b < w.heap.size ∧ ∀ k, k < hs.length → w.cell? ⟨b, off + k, none⟩ = some (.bool (hs.getD k false))
end Go.Proofs.YtjmeakkmfeoigaaGreatDoor
namespace Go.Proofs.YtjmeakkmfeoigaaGreatDoor
open Go.ChangeShapes Go.WideShapes Go.ChangeAt Go.RowKit
set_option maxRecDepth 100000
theorem fmade_op (s : Int) (x y : Bool) (hs : s = 10 ∨ s = 11 ∨ s = 13) (B off cap : Nat) (vh : Value) (w : World) (c0 : w.cell? ⟨B, off, none⟩ = some (.bool x)) (c1 : w.cell? ⟨B, off + 1, none⟩ = some (.bool y)) (held : List Bool) :
    Calls Tryz.prog 88 #[.int .i64 s, .slice (some ⟨B, off, none⟩) 2 cap, vh] w (Sk w (.bool (madeF held s [x, y]))) := by
 rcases hs with rfl | rfl | rfl
 ·cases x
  all_goals
   go_enter Tryz.func88, Tryz.ntmps88
   go_wp2
   go_ret
   exact ⟨rfl, rfl⟩
 ·cases x
  all_goals
   go_enter Tryz.func88, Tryz.ntmps88
   go_wp2
   go_ret
   exact ⟨rfl, rfl⟩
 ·cases x
  all_goals
   go_enter Tryz.func88, Tryz.ntmps88
   go_wp2
   go_ret
   exact ⟨rfl, rfl⟩
theorem fmade_no (x : Bool) (B off cap : Nat) (vh : Value) (w : World) (c0 : w.cell? ⟨B, off, none⟩ = some (.bool x)) (held : List Bool) :
    Calls Tryz.prog 88 #[.int .i64 12, .slice (some ⟨B, off, none⟩) 1 cap, vh] w (Sk w (.bool (madeF held 12 [x]))) := by
 go_enter Tryz.func88, Tryz.ntmps88
 go_wp2
 go_ret
 exact ⟨rfl, rfl⟩
theorem fmade_leaf (s : Int) (held : List Bool) (h0 : 0 ≤ s) (h1 : s < held.length) (h6 : held.length ≤ 6) (hb ho hcap : Nat) (v : Value) (w : World) (hR : ReadsB w hb ho held) :
    Calls Tryz.prog 88 #[.int .i64 s, v, .slice (some ⟨hb, ho, none⟩) held.length hcap] w (Sk w (.bool (madeF held s []))) := by
 obtain ⟨k, rfl⟩ := Int.eq_ofNat_of_zero_le h0
 have e : madeF held (k : Int) [] = held.getD k false := by rw [madeF_leaf held (takesF_low (by omega)) []]; simp
 rw [e]
 have hc := hR.2 k (by omega)
 obtain ⟨x, hx⟩ := nm (held.getD k false)
 rw [← hx] at hc ⊢
 obtain ⟨m, hm⟩ := nm held.length
 rw [← hm] at h1 h6 ⊢
 clear hx hm hR e
 have g0 : ((k : Int) == 10) = false := by simp; omega
 have g1 : ((k : Int) == 11) = false := by simp; omega
 have g2 : ((k : Int) == 13) = false := by simp; omega
 have g3 : ((k : Int) == 12) = false := by simp; omega
 have h0' : (0 : Int) ≤ (k : Int) := by omega
 go_enter Tryz.func88, Tryz.ntmps88
 go_wp2
 go_ret
 exact ⟨rfl, rfl⟩
end Go.Proofs.YtjmeakkmfeoigaaGreatDoor