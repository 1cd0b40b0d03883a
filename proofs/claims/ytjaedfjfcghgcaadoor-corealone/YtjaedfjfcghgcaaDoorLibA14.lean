/-
  Proved: what vennref2.Worlds, So, Open and Forms return; what was in memory is as it was (contracts that the statements of chapters 13 to 20 lean on).
  Plain facts on a row of cells that is filled one by one.
  Rows of booleans in memory (facts that the contracts lean on).
-/
import Derived.Test.YtjaedfjfcghgcaaDoorLibA6
import Derived.Test.YtjaedfjfcghgcaaDoorLibA7
import Derived.Test.YtjaedfjfcghgcaaDoorLibA9
import Derived.Test.YtjaedfjfcghgcaaDoorLibA11
import Derived.Test.YtjaedfjfcghgcaaDoorLibA13
import Derived.Maps.AppendAt
import Derived.Deep.AppendLies
import Derived.Deep.CutRange
import Derived.Deep.RegionWith
import Derived.Test.YtjaedfjfcghgcaaDoorLibA8
import Derived.Test.YtjaedfjfcghgcaaDoorLibA1
import Derived.Test.YtjaedfjfcghgcaaDoorLibA5
namespace Go.Proofs.YtjaedfjfcghgcaaDoor
open Go.ChangeShapes Go.WideShapes Go.ChangeAt Go.RowKit
set_option maxRecDepth 100000

/-! ### a slice of worlds -/
def cellsD (l : List Wd) : List Value := l.flatMap fun D => (arrW D).toList
theorem cellsD_length (l : List Wd) : (cellsD l).length = l.length * 4 := by
  induction l with
  | nil => rfl
  | cons r l ih =>
    have e : cellsD (r :: l) = (arrW r).toList ++ cellsD l := by unfold cellsD; rw [List.flatMap_cons]
    rw [e, List.length_append, ih, List.length_cons]
    show 4 + _ = _
    omega
theorem cellsD_at (l : List Wd) : ∀ (i : Nat) (D : Wd), l[i]? = some D → ∀ f, f < 4 → (cellsD l)[i * 4 + f]? = (arrW D)[f]? := by
  induction l with
  | nil => intro i r h; simp at h
  | cons q l ih =>
    intro i r h f hf
    have e : cellsD (q :: l) = (arrW q).toList ++ cellsD l := by unfold cellsD; rw [List.flatMap_cons]
    have hl : (arrW q).toList.length = 4 := rfl
    rw [e]
    cases i with
    | zero =>
      obtain rfl : q = r := by simpa using h
      rw [List.getElem?_append_left (by omega), show 0 * 4 + f = f by omega, Array.getElem?_toList]
    | succ i =>
      rw [List.getElem?_append_right (by omega), hl, show (i + 1) * 4 + f - 4 = i * 4 + f by omega]
      exact ih i r (by simpa using h) f hf
def WdAt (w : World) (b off : Nat) (D : Wd) : Prop := w.cell? ⟨b, off, none⟩ = some (.int .i64 D.u) ∧ w.cell? ⟨b, off + 1, none⟩ = some (.int .i64 D.a) ∧ w.cell? ⟨b, off + 2, none⟩ = some (.int .i64 D.b) ∧ w.cell? ⟨b, off + 3, none⟩ = some (.int .i64 D.c)
theorem WdAt.at {K : Nat} {w w' : World} {b off : Nat} {D : Wd} (h : WdAt w b off D) (hb : Below K w w') (hB : b < K) : WdAt w' b off D :=
  ⟨(hb.cell hB).trans h.1, (hb.cell hB).trans h.2.1, (hb.cell hB).trans h.2.2.1, (hb.cell hB).trans h.2.2.2⟩
theorem infoD : (Tryd.prog.info? 37).isSome = true := by kernel_rfl
theorem zeroD : (Tryd.prog.info? 37).bind (·.zero) = some (.agg #[.int .i64 0, .int .i64 0, .int .i64 0, .int .i64 0]) := by kernel_rfl
theorem sizeD : (Tryd.prog.info? 37).map (·.size) = some 4 := by kernel_rfl
theorem bytesD : (Tryd.prog.info? 37).map (·.bytes) = some 32 := by kernel_rfl
theorem append_world {w : World} {ops : Array Oper} {rest : List Oper} {o : Oper} {a : Act} {Q : Exit → Act → World → Prop} (hgd : o.guard = none) (s x : Operand)
    (ho : o.op = .call { callee := .builtin .append, args := #[s, x], argTypes := #[60, 60] }) (K : Nat) (v : Value) (hs : a.eval s = v) (l : List Wd) (D : Wd) (B c : Nat) (hx : a.eval x = .slice (some ⟨B, 0, none⟩) 1 c)
    (hown : w.ownsRow K 37 4 v l.length (cellsD l)) (hB : w.heap[B]? = some (.cells (arrW D) 37 (0, 0))) (hK : K ≤ w.heap.size) (h12 : l.length ≤ 2000)
    (h : ∀ v' w', w'.ownsRow K 37 4 v' (l.length + 1) (cellsD (l ++ [D])) → w.grownBy w' v.ownBlock → wpList Tryd.prog ops Q rest (a.put o.dst v') w') :
    wpList Tryd.prog ops Q (o :: rest) a w := by
  obtain ⟨i1, hi⟩ : ∃ i, Tryd.prog.info? 37 = some i := Option.isSome_iff_exists.1 infoD
  have hz0 : i1.zero = some (.agg #[.int .i64 0, .int .i64 0, .int .i64 0, .int .i64 0]) := by have := zeroD; rw [hi] at this; simpa using this
  have hz1 : i1.size = 4 := by have := sizeD; rw [hi] at this; simpa using this
  have hz2 : i1.bytes = 32 := by have := bytesD; rw [hi] at this; simpa using this
  refine wpList_append_own_at w hgd s x 60 ho K 37 i1 _ 4 32 Tryd.underlying60 hi hz0 hz1 hz2 rfl (by decide) v l.length (cellsD l) hs hown ⟨B, 0, none⟩ 1 c (arrW D).toList hx rfl (World.news_of_block hB) (by simp [arrW, Value.oneCell']) (by unfold maxLen; omega) (by omega) hK ?_
  intro v' w' h1 h2 _ _
  refine h v' w' ?_ h2
  have e : cellsD (l ++ [D]) = cellsD l ++ (arrW D).toList := by unfold cellsD; rw [List.flatMap_append]; simp
  rw [e]
  exact h1

set_option maxHeartbeats 8000000 in
theorem refWorlds_new (u : Nat) (hu : u ≤ 6) (w : World) :
    Calls Tryd.prog 25 #[.int .i64 u] w fun e w' => ∃ b cap, e = .returned (.slice (some ⟨b, 0, none⟩) (worldsL u).length cap) ∧ w.heap.size ≤ b ∧ b < w'.heap.size ∧ (∀ i D, (worldsL u)[i]? = some D → WdAt w' b (i * 4) D) ∧ Below w.heap.size w w' := by
  obtain ⟨L, hL⟩ : ∃ L, L = everyC u := ⟨_, rfl⟩
  have HAl : Hid (∀ W, Calls Tryd.prog 47 #[.int .i64 u] W fun e w' => ∃ bE oE ecap, e = .returned (.slice (some ⟨bE, oE, none⟩) L.length ecap) ∧ (bE < w'.heap.size ∧ ∀ i N, L[i]? = some N → CntAt w' bE (oE + i * 8) N) ∧ Below W.heap.size W w') := fun W => by
    refine (refAll_any u hu W).mono ?_
    rintro e w' ⟨v, rfl, hr, _, hb⟩
    rw [← hL] at hr
    rcases hr with ⟨ao, cap, rfl, h0⟩ | ⟨b, off, cap, rfl, h2, h3, h4, h5⟩
    · rw [hL] at h0; exact absurd h0 (allF_ne 7 u _)
    · exact ⟨b, off, cap, rfl, ⟨h2, h5⟩, hb⟩
  have HLn : Hid (L.length ≤ 1716) := by unfold Hid; rw [hL]; exact length_everyC hu
  have HL0 : Hid (0 < L.length) := by
    unfold Hid; rw [hL]
    exact List.length_pos_iff.2 (allF_ne 7 u _)
  have HMd : Hid (∀ (i : Nat) N, L[i]? = some N → ∀ W, Calls Tryd.prog 48 #[.agg #[.int .i64 (N 0), .int .i64 (N 1), .int .i64 (N 2), .int .i64 (N 3), .int .i64 (N 4), .int .i64 (N 5), .int .i64 (N 6), .int .i64 (N 7)]] W fun e w' => e = .returned (.agg #[.int .i64 (madeN N 8).u, .int .i64 (madeN N 8).a, .int .i64 (madeN N 8).b, .int .i64 (madeN N 8).c]) ∧ Below W.heap.size W w') := fun i N hN W => refMade_right N W (everyC_right hu (by rw [← hL]; exact List.mem_of_getElem? hN))
  have eW : worldsL u = L.map fun N => madeN N 8 := by unfold worldsL; rw [hL]
  rw [eW]
  clear hL eW
  go_enter Tryd.func25, Tryd.ntmps25
  go_wp2_with fail
  go_at_call 47
  refine (HAl.out _).mono ?_
  rintro e w1 ⟨bE, oE, ecap, rfl, ⟨hbE, hat⟩, hb⟩
  have HB1 : Hid (Below w.heap.size w w1) := hb
  have HbE : Hid (bE < w1.heap.size) := hbE
  have HAt : Hid (∀ i N, L[i]? = some N → CntAt w1 bE (oE + i * 8) N) := hat
  clear hb hbE hat
  have hL63 := HLn.out
  go_wp2
  go_loopw [4, 5] (fun r i wr => ∃ k : Nat, k ≤ L.length ∧ i = .int .i64 k ∧ wr.ownsRow w1.heap.size 37 4 r k (cellsD ((L.take k).map fun N => madeN N 8)) ∧ Below w1.heap.size w1 wr) (fun _ i _ => L.length - (intOf i).toNat)
  case atStart => exact ⟨0, Nat.zero_le _, rfl, World.ownsRow_nil _ _ _ _, Below.refl _ _⟩
  case round =>
    obtain ⟨k, hk, rfl, hown, hbr⟩ := hrel
    have HBr : Hid (Below w1.heap.size w1 wr) := hbr
    have HOw : Hid (wr.ownsRow w1.heap.size 37 4 u4 k (cellsD ((L.take k).map fun N => madeN N 8))) := hown
    clear hbr hown
    by_cases hlt : k < L.length
    · obtain ⟨N, hN⟩ : ∃ N, L[k]? = some N := ⟨_, List.getElem?_eq_getElem hlt⟩
      have HMk : Hid (∀ W, Calls Tryd.prog 48 #[.agg #[.int .i64 (N 0), .int .i64 (N 1), .int .i64 (N 2), .int .i64 (N 3), .int .i64 (N 4), .int .i64 (N 5), .int .i64 (N 6), .int .i64 (N 7)]] W fun e w' => e = .returned (.agg #[.int .i64 (madeN N 8).u, .int .i64 (madeN N 8).a, .int .i64 (madeN N 8).b, .int .i64 (madeN N 8).c]) ∧ Below W.heap.size W w') := HMd.out k N hN
      have HCt : Hid (CntAt w1 bE (oE + k * 8) N) := HAt.out k N hN
      obtain ⟨l, hl⟩ : ∃ l, l = (L.take k).map fun N => madeN N 8 := ⟨_, rfl⟩
      have HLl : Hid (l.length = k) := by unfold Hid; rw [hl, List.length_map, List.length_take]; omega
      obtain ⟨D, hD⟩ : ∃ D, D = madeN N 8 := ⟨_, rfl⟩
      have HLs : Hid (((L.take (k + 1)).map fun N => madeN N 8) = l ++ [D]) := by
        unfold Hid; rw [List.take_add_one, hN, List.map_append, ← hl, hD]; rfl
      rw [← hD] at HMk
      have HO4 : Hid (wr.ownsRow w1.heap.size 37 4 u4 l.length (cellsD l)) := by unfold Hid; rw [HLl.out, hl]; exact HOw.out
      clear hN hl hD
      have y0 : wr.cell? ⟨bE, oE + k * 8, none⟩ = some (.int .i64 (N 0)) := (HBr.out.cell HbE.out).trans (HCt.out 0 (by omega))
      have y1 : wr.cell? ⟨bE, oE + k * 8 + 1, none⟩ = some (.int .i64 (N 1)) := (HBr.out.cell HbE.out).trans (HCt.out 1 (by omega))
      have y2 : wr.cell? ⟨bE, oE + k * 8 + 2, none⟩ = some (.int .i64 (N 2)) := (HBr.out.cell HbE.out).trans (HCt.out 2 (by omega))
      have y3 : wr.cell? ⟨bE, oE + k * 8 + 3, none⟩ = some (.int .i64 (N 3)) := (HBr.out.cell HbE.out).trans (HCt.out 3 (by omega))
      have y4 : wr.cell? ⟨bE, oE + k * 8 + 4, none⟩ = some (.int .i64 (N 4)) := (HBr.out.cell HbE.out).trans (HCt.out 4 (by omega))
      have y5 : wr.cell? ⟨bE, oE + k * 8 + 5, none⟩ = some (.int .i64 (N 5)) := (HBr.out.cell HbE.out).trans (HCt.out 5 (by omega))
      have y6 : wr.cell? ⟨bE, oE + k * 8 + 6, none⟩ = some (.int .i64 (N 6)) := (HBr.out.cell HbE.out).trans (HCt.out 6 (by omega))
      have y7 : wr.cell? ⟨bE, oE + k * 8 + 7, none⟩ = some (.int .i64 (N 7)) := (HBr.out.cell HbE.out).trans (HCt.out 7 (by omega))
      go_wp2_with fail
      go_at_call 48
      refine (HMk.out _).mono ?_
      rintro e w5 ⟨rfl, hb⟩
      have HB5 : Hid (Below w1.heap.size w1 w5) := HBr.out.trans (hb.mono HBr.out.size)
      have HO5 : Hid (w5.ownsRow w1.heap.size 37 4 u4 l.length (cellsD l)) := ownsRow_below HO4.out hb
      clear hb y0 y1 y2 y3 y4 y5 y6 y7
      obtain ⟨w6, hw6⟩ : ∃ w6, w6 = w5.alloc (.cells (arrW D) 37) := ⟨_, rfl⟩
      have HB6 : Hid (Below w1.heap.size w1 w6) := by unfold Hid; rw [hw6]; exact HB5.out.alloc HB5.out.size _
      have HO6 : Hid (w6.ownsRow w1.heap.size 37 4 u4 l.length (cellsD l)) := by unfold Hid; rw [hw6]; exact HO5.out.alloc _
      have HQ6 : Hid (Blk w6 w5.heap.size 37 (arrW D)) := by unfold Hid; rw [hw6]; exact Blk.new _ _ _
      simp only [arrW] at hw6
      go_upto_region 7 with fail
      rw [← hw6]
      clear hw6
      obtain ⟨d0, d1, d2, d3⟩ := HQ6.out.cells4
      have HS6 : Hid (w1.heap.size ≤ w6.heap.size) := HB6.out.size
      have hl12 : l.length ≤ 2000 := by have := HLl.out; omega
      go_wp2_with (at_builtin; refine append_world rfl _ _ rfl w1.heap.size u4 rfl l D w6.heap.size 1 rfl (HO6.out.alloc _) (heap_alloc_new w6 _) (by have := HS6.out; simp; omega) hl12 ?_)
      intro v9 w9 hown hgrow
      have HBa : Hid (Below w1.heap.size w1 (w6.alloc (.cells #[.int .i64 D.u, .int .i64 D.a, .int .i64 D.b, .int .i64 D.c] 37))) := HB6.out.alloc HB6.out.size _
      have HB9 : Hid (Below w1.heap.size w1 w9) := HBa.out.grown hgrow HBa.out.size (fun x hx => (HO6.out.lt x hx).1)
      have HO9 : Hid (w9.ownsRow w1.heap.size 37 4 v9 (k + 1) (cellsD ((L.take (k + 1)).map fun N => madeN N 8))) := by
        unfold Hid
        rw [HLs.out, ← HLl.out]
        exact hown
      clear hown hgrow d0 d1 d2 d3
      go_wp2
      go_roundw
      case rel => exact ⟨k + 1, by omega, by go_num, HO9.out, HB9.out⟩
      case measure => simp [intOf]; omega
    · obtain rfl : k = L.length := by omega
      have h := HOw.out
      rw [List.take_length] at h
      obtain ⟨b, cap, hv, hnew, hbl, hcells⟩ : ∃ b cap, u4 = .slice (some ⟨b, 0, none⟩) L.length cap ∧ w.heap.size ≤ b ∧ b < wr.heap.size ∧ ∀ i D, (L.map fun N => madeN N 8)[i]? = some D → WdAt wr b (i * 4) D := by
        rcases h.2 with ⟨_, h0⟩ | ⟨g, cap, cur, rfl, hb, hg, hc, hmx, hs, ht⟩
        · have := HL0.out; omega
        · refine ⟨g, cap, rfl, Nat.le_trans HB1.out.size hb, (Array.getElem?_eq_some_iff.1 hg).1, fun i D hD => ?_⟩
          have hi : i < L.length := by have := (List.getElem?_eq_some_iff.1 hD).1; simpa using this
          have kx : ∀ f, f < 4 → wr.cell? ⟨g, i * 4 + f, none⟩ = (arrW D)[f]? := fun f hf => by
            rw [cell_of_row wr g _ cur _ (0, 0) hg]
            have hx := cellsD_at (L.map fun N => madeN N 8) i D hD f hf
            rw [← ht, List.getElem?_take_of_lt (by omega)] at hx
            rw [← Array.getElem?_toList]
            exact hx
          exact ⟨kx 0 (by omega), kx 1 (by omega), kx 2 (by omega), kx 3 (by omega)⟩
      subst hv
      have HC : Hid (w.heap.size ≤ b ∧ b < wr.heap.size ∧ ∀ i D, (L.map fun N => madeN N 8)[i]? = some D → WdAt wr b (i * 4) D) := ⟨hnew, hbl, hcells⟩
      have HB : Hid (Below w.heap.size w wr) := HB1.out.trans (HBr.out.mono HB1.out.size)
      clear h hnew hbl hcells HOw
      go_wp2
      go_ret
      exact ⟨b, cap, by first | (rw [List.length_map]; done) | (rw [List.length_map]; rfl), HC.out.1, HC.out.2.1, HC.out.2.2, HB.out⟩

theorem refWorlds_any (u : Nat) (hu : u ≤ 6) (w : World) :
    Calls Tryd.prog 25 #[.int .i64 u] w fun e w' => ∃ b cap, e = .returned (.slice (some ⟨b, 0, none⟩) (worldsL u).length cap) ∧ b < w'.heap.size ∧ (∀ i D, (worldsL u)[i]? = some D → WdAt w' b (i * 4) D) ∧ Below w.heap.size w w' :=
  (refWorlds_new u hu w).mono fun _ _ ⟨b, cap, h1, _, h2, h3, h4⟩ => ⟨b, cap, h1, h2, h3, h4⟩

set_option maxHeartbeats 8000000 in
theorem refSo_any (v : Value) (fs : List Fm) (hgood : ∀ f ∈ fs, f.fault = 0) (D : Wd) (hok : D.ok = true) (w : World) (hF : ReadsF w v fs) :
    Calls Tryd.prog 26 #[v, .agg #[.int .i64 D.u, .int .i64 D.a, .int .i64 D.b, .int .i64 D.c]] w fun e w' => e = .returned (.bool (D.so fs)) ∧ Below w.heap.size w w' := by
  obtain ⟨lo, lcap, rfl, hl63⟩ := hF.slice
  have HF : Hid (ReadsF w (.slice lo fs.length lcap) fs) := hF
  have HTr : Hid (∀ (i : Nat) f va vc, fs[i]? = some f → ∀ W, ReadsA W va f.ats → Reads W vc f.c → Calls Tryd.prog 40 #[.agg #[va, vc], .agg #[.int .i64 D.u, .int .i64 D.a, .int .i64 D.b, .int .i64 D.c]] W fun e w' => e = .returned (.bool (D.formIs f.ats f.c)) ∧ Below W.heap.size W w') := fun i f va vc hf W hA hC => by
    have hz : formFault f.ats f.c = 0 := hgood f (List.mem_of_getElem? hf)
    have h := refTrue_any va vc f.ats f.c D.u D.a D.b D.c hz hok W hA hC
    have e : D.formIs f.ats f.c = valF (D.heldL f.ats) f.c := by unfold Wd.formIs; rw [if_pos (wdForm_zero.2 ⟨hz, hok⟩)]
    rw [e]
    exact h
  have HAll : Hid ((∀ j, j < fs.length → ∀ f, fs[j]? = some f → D.formIs f.ats f.c = true) → D.so fs = true) := fun h => by
    unfold Wd.so
    rw [List.all_eq_true]
    intro f hf
    obtain ⟨i, hi⟩ := List.mem_iff_getElem?.1 hf
    exact h i (List.getElem?_eq_some_iff.1 hi).1 f hi
  have HNot : Hid (∀ (j : Nat) f, fs[j]? = some f → D.formIs f.ats f.c = false → D.so fs = false) := fun j f hf h => by
    unfold Wd.so
    rw [List.all_eq_false]
    exact ⟨f, List.mem_of_getElem? hf, by rw [h]; decide⟩
  obtain ⟨R, hR⟩ : ∃ R, R = D.so fs := ⟨_, rfl⟩
  rw [← hR] at HAll HNot ⊢
  obtain ⟨w1, hw1⟩ : ∃ w1, w1 = w.alloc (.cells #[.int .i64 D.u, .int .i64 D.a, .int .i64 D.b, .int .i64 D.c] 37) := ⟨_, rfl⟩
  have HB1 : Hid (Below w.heap.size w w1) := by unfold Hid; rw [hw1]; exact below_alloc1 _ _
  have HQ1 : Hid (Blk w1 w.heap.size 37 (arrW D)) := by unfold Hid; rw [hw1]; exact Blk.new _ _ _
  obtain ⟨n, hn⟩ : ∃ n, n = fs.length := ⟨_, rfl⟩
  rw [← hn] at HF hl63 HAll ⊢
  have HN : Hid (n = fs.length) := hn
  clear hF hgood hok hR hn
  go_enter Tryd.func26, Tryd.ntmps26
  go_wp2
  rw [← hw1]
  clear hw1
  go_loopw [5, 6] (fun i _ wr => ∃ k : Nat, k ≤ n ∧ i = .int .i64 k ∧ Below w1.heap.size w1 wr ∧ ∀ j, j < k → ∀ f, fs[j]? = some f → D.formIs f.ats f.c = true) (fun i _ _ => n - (intOf i).toNat)
  case atStart => exact ⟨0, Nat.zero_le _, rfl, Below.refl _ _, fun j hj => by omega⟩
  case round =>
    obtain ⟨k, hk, rfl, hbr, hso⟩ := hrel
    have HBr : Hid (Below w1.heap.size w1 wr) := hbr
    have HBw : Hid (Below w.heap.size w wr) := HB1.out.trans (hbr.mono HB1.out.size)
    have HSo : Hid (∀ j, j < k → ∀ f, fs[j]? = some f → D.formIs f.ats f.c = true) := hso
    clear hbr hso
    by_cases hlt : k < n
    · obtain ⟨f, hf⟩ : ∃ f, fs[k]? = some f := ⟨_, List.getElem?_eq_getElem (by rw [← HN.out]; exact hlt)⟩
      have HFk : Hid (fs[k]? = some f) := hf
      obtain ⟨bL, oL, cL, hv⟩ := HF.out.place (by rw [← HN.out]; omega)
      obtain ⟨hlo, hx1, hx2⟩ := Value.slice.inj hv
      clear hx1 hx2
      subst hlo
      obtain ⟨hbL, va, vc, c0, c1, hA, hC⟩ := HF.out.at hf
      obtain ⟨ao, acap, rfl, _⟩ := hA.slice
      obtain ⟨co, ccap, rfl, _⟩ := hC.slice
      have x0 : wr.cell? ⟨bL, oL + k * 2, none⟩ = some (.slice ao f.ats.length acap) := (HBw.out.cell hbL).trans c0
      have x1 : wr.cell? ⟨bL, oL + k * 2 + 1, none⟩ = some (.slice co f.c.length ccap) := (HBw.out.cell hbL).trans c1
      have HT1 : Hid (∀ W, Below wr.heap.size wr W → Calls Tryd.prog 40 #[.agg #[.slice ao f.ats.length acap, .slice co f.c.length ccap], .agg #[.int .i64 D.u, .int .i64 D.a, .int .i64 D.b, .int .i64 D.c]] W fun e w' => e = .returned (.bool (D.formIs f.ats f.c)) ∧ Below wr.heap.size wr w') := fun W hW => by
        have hb' := HBw.out.trans (hW.mono HBw.out.size)
        exact (HTr.out k f _ _ hf W (hA.below hb') (hC.below hb')).mono fun e w' ⟨he, hb⟩ => ⟨he, hW.trans (hb.mono hW.size)⟩
      obtain ⟨q, hq⟩ : ∃ q, q = D.formIs f.ats f.c := ⟨_, rfl⟩
      have HQ : Hid (q = D.formIs f.ats f.c) := hq
      rw [← hq] at HT1
      obtain ⟨al, hal⟩ : ∃ x, x = f.ats.length := ⟨_, rfl⟩
      obtain ⟨cl, hcl⟩ : ∃ x, x = f.c.length := ⟨_, rfl⟩
      rw [← hal] at x0 HT1
      rw [← hcl] at x1 HT1
      obtain ⟨d0, d1, d2, d3⟩ := (HQ1.out.below HBr.out).cells4
      clear hf hv hbL c0 c1 hA hC hq hal hcl
      have hkn : (k : Int) < (n : Int) := by omega
      go_upto_region 4 with fail
      go_cut [6] from 7 to 20 (fun x wx => x = .bool q ∧ Below wr.heap.size wr wx)
      case first =>
        go_region_with (go_at_call 40; refine (HT1.out _ (by first | exact Below.drew (Below.refl _ _) | exact Below.refl _ _)).mono ?_; rintro e w8 ⟨rfl, hb8⟩)
        all_goals (try go_wp2)
        all_goals go_meet
        all_goals exact ⟨rfl, hb8⟩
      case rest =>
        obtain ⟨rfl, hbc⟩ := hcut
        obtain ⟨wf, hwf⟩ : ∃ x, x = wc := ⟨_, rfl⟩
        subst hwf
        have HBf : Hid (Below w1.heap.size w1 wf) := HBr.out.trans (hbc.mono HBr.out.size)
        clear hbc x0 x1 d0 d1 d2 d3
        cases q with
        | true =>
          have HS1 : Hid (∀ j, j < k + 1 → ∀ f, fs[j]? = some f → D.formIs f.ats f.c = true) := fun j hj g hg => by
            rcases Nat.lt_or_ge j k with h | h
            · exact HSo.out j h g hg
            · obtain rfl : j = k := by omega
              have e := HFk.out.symm.trans hg
              rw [← Option.some.inj e]
              exact HQ.out.symm
          clear HQ
          go_wp2
          go_roundw
          case rel => exact ⟨k + 1, by omega, by go_num, HBf.out, HS1.out⟩
          case measure => simp [intOf]; omega
        | false =>
          have HRf : Hid (R = false) := HNot.out k f HFk.out HQ.out.symm
          clear HQ
          go_wp2
          go_ret
          exact ⟨by first | (rw [HRf.out]; done) | (rw [HRf.out]; rfl), HB1.out.trans (HBf.out.mono HB1.out.size)⟩
    · obtain rfl : k = n := by omega
      have HRt : Hid (R = true) := HAll.out HSo.out
      go_wp2
      go_ret
      exact ⟨by first | (rw [HRt.out]; done) | (rw [HRt.out]; rfl), HBw.out⟩

set_option maxHeartbeats 8000000 in
theorem refOpen_any (v : Value) (fs : List Fm) (hgood : ∀ f ∈ fs, f.fault = 0) (u : Nat) (hu : u ≤ 6) (w : World) (hF : ReadsF w v fs) :
    Calls Tryd.prog 10 #[v, .int .i64 u] w fun e w' => e = .returned (.bool (openN fs u)) ∧ Below w.heap.size w w' := by
  obtain ⟨lo, lcap, rfl, hl63⟩ := hF.slice
  have eO : openN fs u = (worldsL u).any fun D => D.so fs := by unfold openN worldsL; rw [List.any_map]; rfl
  obtain ⟨L, hL⟩ : ∃ L, L = worldsL u := ⟨_, rfl⟩
  have HWo : Hid (∀ W, Calls Tryd.prog 25 #[.int .i64 u] W fun e w' => (∃ b cap, e = .returned (.slice (some ⟨b, 0, none⟩) L.length cap) ∧ b < w'.heap.size ∧ ∀ i D, L[i]? = some D → WdAt w' b (i * 4) D) ∧ Below W.heap.size W w') := fun W => by
    refine (refWorlds_any u hu W).mono ?_
    rintro e w' ⟨b, cap, rfl, h1, h2, hb⟩
    rw [hL]
    exact ⟨⟨b, cap, rfl, h1, h2⟩, hb⟩
  have HSo : Hid (∀ (i : Nat) D, L[i]? = some D → ∀ W, Below w.heap.size w W → Calls Tryd.prog 26 #[.slice lo fs.length lcap, .agg #[.int .i64 D.u, .int .i64 D.a, .int .i64 D.b, .int .i64 D.c]] W fun e w' => e = .returned (.bool (D.so fs)) ∧ Below W.heap.size W w') := fun i D hD W hW => refSo_any _ fs hgood D (worldsL_ok hu (by rw [← hL]; exact List.mem_of_getElem? hD)) W (hF.below hW)
  have HLn : Hid (L.length ≤ 1716) := by unfold Hid; rw [hL, worldsL_length]; exact length_everyC hu
  have HAny : Hid (∀ (i : Nat) D, L[i]? = some D → D.so fs = true → openN fs u = true) := fun i D hD h => by
    rw [eO, ← hL, List.any_eq_true]
    exact ⟨D, List.mem_of_getElem? hD, h⟩
  have HNone : Hid ((∀ j, j < L.length → ∀ D, L[j]? = some D → D.so fs = false) → openN fs u = false) := fun h => by
    rw [eO, ← hL, List.any_eq_false]
    intro D hD
    obtain ⟨i, hi⟩ := List.mem_iff_getElem?.1 hD
    rw [h i (List.getElem?_eq_some_iff.1 hi).1 D hi]
    decide
  obtain ⟨R, hR⟩ : ∃ R, R = openN fs u := ⟨_, rfl⟩
  rw [← hR] at HAny HNone ⊢
  obtain ⟨n, hn⟩ : ∃ n, n = fs.length := ⟨_, rfl⟩
  rw [← hn] at HSo ⊢
  clear hF hgood eO hL hR hn hl63
  go_enter Tryd.func10, Tryd.ntmps10
  go_wp2_with fail
  go_at_call 25
  refine (HWo.out _).mono ?_
  rintro e w1 ⟨⟨b, cap, rfl, hb1, hat⟩, hb⟩
  have HB1 : Hid (Below w.heap.size w w1) := hb
  have Hb1 : Hid (b < w1.heap.size) := hb1
  have HAt : Hid (∀ i D, L[i]? = some D → WdAt w1 b (i * 4) D) := hat
  clear hb hb1 hat
  have hL63 := HLn.out
  go_wp2
  go_loopw [6, 7] (fun i _ wr => ∃ k : Nat, k ≤ L.length ∧ i = .int .i64 k ∧ Below w1.heap.size w1 wr ∧ ∀ j, j < k → ∀ D, L[j]? = some D → D.so fs = false) (fun i _ _ => L.length - (intOf i).toNat)
  case atStart => exact ⟨0, Nat.zero_le _, rfl, Below.refl _ _, fun j hj => by omega⟩
  case round =>
    obtain ⟨k, hk, rfl, hbr, hno⟩ := hrel
    have HBr : Hid (Below w1.heap.size w1 wr) := hbr
    have HBw : Hid (Below w.heap.size w wr) := HB1.out.trans (hbr.mono HB1.out.size)
    have HNo : Hid (∀ j, j < k → ∀ D, L[j]? = some D → D.so fs = false) := hno
    clear hbr hno
    by_cases hlt : k < L.length
    · obtain ⟨D, hD⟩ : ∃ D, L[k]? = some D := ⟨_, List.getElem?_eq_getElem hlt⟩
      have HD : Hid (L[k]? = some D) := hD
      have HSk : Hid (Calls Tryd.prog 26 #[.slice lo n lcap, .agg #[.int .i64 D.u, .int .i64 D.a, .int .i64 D.b, .int .i64 D.c]] wr fun e w' => e = .returned (.bool (D.so fs)) ∧ Below wr.heap.size wr w') := HSo.out k D hD wr HBw.out
      obtain ⟨y0, y1, y2, y3⟩ := (HAt.out k D hD).at HBr.out Hb1.out
      obtain ⟨q, hq⟩ : ∃ q, q = D.so fs := ⟨_, rfl⟩
      have HQ : Hid (q = D.so fs) := hq
      rw [← hq] at HSk
      clear hD hq
      go_wp2_with fail
      go_at_call 26
      refine HSk.out.mono ?_
      rintro e w5 ⟨rfl, hb⟩
      have HB5 : Hid (Below w1.heap.size w1 w5) := HBr.out.trans (hb.mono HBr.out.size)
      clear hb y0 y1 y2 y3
      cases q with
      | true =>
        have HRt : Hid (R = true) := HAny.out k D HD.out HQ.out.symm
        clear HQ
        go_wp2
        go_ret
        exact ⟨by first | (rw [HRt.out]; done) | (rw [HRt.out]; rfl), HB1.out.trans (HB5.out.mono HB1.out.size)⟩
      | false =>
        have HN1 : Hid (∀ j, j < k + 1 → ∀ D, L[j]? = some D → D.so fs = false) := fun j hj E hE => by
          rcases Nat.lt_or_ge j k with h | h
          · exact HNo.out j h E hE
          · obtain rfl : j = k := by omega
            have e := HD.out.symm.trans hE
            rw [← Option.some.inj e]
            exact HQ.out.symm
        clear HQ
        go_wp2
        go_roundw
        case rel => exact ⟨k + 1, by omega, by go_num, HB5.out, HN1.out⟩
        case measure => simp [intOf]; omega
    · obtain rfl : k = L.length := by omega
      have HRf : Hid (R = false) := HNone.out HNo.out
      go_wp2
      go_ret
      exact ⟨by first | (rw [HRf.out]; done) | (rw [HRf.out]; rfl), HBw.out⟩
set_option maxHeartbeats 8000000 in
theorem refForms_any (v : Value) (fs : List Fm) (u : Int) (w : World) (hF : ReadsF w v fs) :
    Calls Tryd.prog 9 #[v, .int .i64 u] w fun e w' => e = .returned (.int .i64 (formsFault fs u)) ∧ Below w.heap.size w w' := by
  obtain ⟨lo, lcap, rfl, hl63⟩ := hF.slice
  have HF : Hid (ReadsF w (.slice lo fs.length lcap) fs) := hF
  have HFm : Hid (∀ f va vc W, ReadsA W va f.ats → Reads W vc f.c → Calls Tryd.prog 18 #[.agg #[va, vc]] W fun e w' => e = .returned (.int .i64 (Fm.fault f)) ∧ Below W.heap.size W w') := fun f va vc W hA hC => refForm_any va vc f.ats f.c W hA hC
  obtain ⟨R, hR⟩ : ∃ R, R = formsFault fs u := ⟨_, rfl⟩
  have H0 : Hid (fs.length = 0 → R = 5) := fun h => by rw [hR]; unfold formsFault; rw [if_pos h]
  have H6 : Hid (¬ fs.length = 0 → 6 < fs.length → R = 4) := fun h1 h2 => by rw [hR]; unfold formsFault; rw [if_neg h1, if_pos h2]
  have HBad : Hid (¬ fs.length = 0 → ¬ 6 < fs.length → ∀ (k : Nat) f, fs[k]? = some f → (∀ j, j < k → ∀ g, fs[j]? = some g → Fm.fault g = 0) → ¬ Fm.fault f = 0 → R = Fm.fault f) := fun h1 h2 k f hk hj hf => by
    have e := firstForm_at hk hj hf
    rw [hR]; unfold formsFault; rw [if_neg h1, if_neg h2, if_neg (by rw [e]; exact hf), e]
  have HEnd : Hid (¬ fs.length = 0 → ¬ 6 < fs.length → (∀ j, j < fs.length → ∀ g, fs[j]? = some g → Fm.fault g = 0) → R = if 0 ≤ u ∧ u ≤ 6 then 0 else 1) := fun h1 h2 hj => by
    have e : firstForm fs = 0 := firstForm_zero.2 fun f hf => by
      obtain ⟨i, hi⟩ := List.mem_iff_getElem?.1 hf
      exact hj i (List.getElem?_eq_some_iff.1 hi).1 f hi
    rw [hR]; unfold formsFault; rw [if_neg h1, if_neg h2, if_pos e]
  rw [← hR]
  obtain ⟨n, hn⟩ : ∃ n, n = fs.length := ⟨_, rfl⟩
  rw [← hn] at HF hl63 H0 H6 HBad HEnd ⊢
  have HN : Hid (n = fs.length) := hn
  clear hF hR hn
  by_cases hz : n = 0
  · have HR : Hid (R = 5) := H0.out hz
    subst hz
    go_enter Tryd.func9, Tryd.ntmps9
    go_wp2
    go_ret
    exact ⟨by first | (rw [HR.out]; done) | (rw [HR.out]; rfl), Below.refl _ _⟩
  · by_cases h6 : 6 < n
    · have HR : Hid (R = 4) := H6.out hz h6
      have dz : ((n : Int) == 0) = false := by simp; omega
      have h6' : (6 : Int) < (n : Int) := by omega
      go_enter Tryd.func9, Tryd.ntmps9
      go_wp2
      go_ret
      exact ⟨by first | (rw [HR.out]; done) | (rw [HR.out]; rfl), Below.refl _ _⟩
    · have dz : ((n : Int) == 0) = false := by simp; omega
      have h6' : (n : Int) ≤ 6 := by omega
      have HBad' : Hid (∀ (k : Nat) f, fs[k]? = some f → (∀ j, j < k → ∀ g, fs[j]? = some g → Fm.fault g = 0) → ¬ Fm.fault f = 0 → R = Fm.fault f) := HBad.out hz h6
      have HEnd' : Hid ((∀ j, j < n → ∀ g, fs[j]? = some g → Fm.fault g = 0) → R = if 0 ≤ u ∧ u ≤ 6 then 0 else 1) := HEnd.out hz h6
      have Hz : Hid (¬ n = 0) := hz
      clear hz h6 H0 H6 HBad HEnd
      go_enter Tryd.func9, Tryd.ntmps9
      go_wp2
      go_loopw [5, 6] (fun i _ wr => ∃ k : Nat, k ≤ n ∧ i = .int .i64 k ∧ Below w.heap.size w wr ∧ ∀ j, j < k → ∀ g, fs[j]? = some g → Fm.fault g = 0) (fun i _ _ => n - (intOf i).toNat)
      case atStart => exact ⟨0, Nat.zero_le _, rfl, Below.refl _ _, fun j hj => by omega⟩
      case round =>
        obtain ⟨k, hk, rfl, hbr, hso⟩ := hrel
        have HBr : Hid (Below w.heap.size w wr) := hbr
        have HSo : Hid (∀ j, j < k → ∀ g, fs[j]? = some g → Fm.fault g = 0) := hso
        clear hbr hso
        by_cases hlt : k < n
        · obtain ⟨f, hf⟩ : ∃ f, fs[k]? = some f := ⟨_, List.getElem?_eq_getElem (by rw [← HN.out]; exact hlt)⟩
          have HFk : Hid (fs[k]? = some f) := hf
          obtain ⟨bL, oL, cL, hv⟩ := HF.out.place (by rw [← HN.out]; omega)
          obtain ⟨hlo, hx1, hx2⟩ := Value.slice.inj hv
          clear hx1 hx2
          subst hlo
          obtain ⟨hbL, va, vc, c0, c1, hA, hC⟩ := HF.out.at hf
          have HFc : Hid (Calls Tryd.prog 18 #[.agg #[va, vc]] wr fun e w' => e = .returned (.int .i64 (Fm.fault f)) ∧ Below wr.heap.size wr w') := HFm.out f va vc wr (hA.below HBr.out) (hC.below HBr.out)
          have x0 : wr.cell? ⟨bL, oL + k * 2, none⟩ = some va := (HBr.out.cell hbL).trans c0
          have x1 : wr.cell? ⟨bL, oL + k * 2 + 1, none⟩ = some vc := (HBr.out.cell hbL).trans c1
          obtain ⟨ao, acap, rfl, _⟩ := hA.slice
          obtain ⟨co, ccap, rfl, _⟩ := hC.slice
          obtain ⟨al, hal⟩ : ∃ x, x = f.ats.length := ⟨_, rfl⟩
          obtain ⟨cl, hcl⟩ : ∃ x, x = f.c.length := ⟨_, rfl⟩
          rw [← hal] at x0 HFc
          rw [← hcl] at x1 HFc
          obtain ⟨q, hq⟩ : ∃ q, q = Fm.fault f := ⟨_, rfl⟩
          have HQ : Hid (q = Fm.fault f) := hq
          rw [← hq] at HFc
          clear hf hv hbL c0 c1 hA hC hq hal hcl
          have hkn : (k : Int) < (n : Int) := by omega
          go_wp2_with fail
          go_at_call 18
          refine HFc.out.mono ?_
          rintro e w5 ⟨rfl, hb⟩
          have HB5 : Hid (Below w.heap.size w w5) := HBr.out.trans (hb.mono HBr.out.size)
          clear hb x0 x1
          by_cases hq0 : q = 0
          · have HS1 : Hid (∀ j, j < k + 1 → ∀ g, fs[j]? = some g → Fm.fault g = 0) := fun j hj g hg => by
              rcases Nat.lt_or_ge j k with h | h
              · exact HSo.out j h g hg
              · obtain rfl : j = k := by omega
                have e := HFk.out.symm.trans hg
                rw [← Option.some.inj e, ← HQ.out]
                exact hq0
            subst hq0
            clear HQ
            go_wp2
            go_roundw
            case rel => exact ⟨k + 1, by omega, by go_num, HB5.out, HS1.out⟩
            case measure => simp [intOf]; omega
          · have HR : Hid (R = q) := by
              unfold Hid
              rw [HQ.out]
              exact HBad'.out k f HFk.out HSo.out (by rw [← HQ.out]; exact hq0)
            have d0 : (q == 0) = false := by simp [hq0]
            have n0 : (q != 0) = true := by simp [hq0]
            clear hq0 HQ
            go_wp2
            go_ret
            exact ⟨by first | (rw [HR.out]; done) | (rw [HR.out]; rfl), HB5.out⟩
        · obtain rfl : k = n := by omega
          have HR := HEnd'.out HSo.out
          by_cases c1 : u < 0
          · rw [if_neg (by omega)] at HR
            have HR1 : Hid (R = 1) := HR
            clear HR
            go_wp2
            go_ret
            exact ⟨by first | (rw [HR1.out]; done) | (rw [HR1.out]; rfl), HBr.out⟩
          · by_cases c2 : 6 < u
            · rw [if_neg (by omega)] at HR
              have HR1 : Hid (R = 1) := HR
              clear HR
              go_wp2
              go_ret
              exact ⟨by first | (rw [HR1.out]; done) | (rw [HR1.out]; rfl), HBr.out⟩
            · rw [if_pos (by omega)] at HR
              have HR1 : Hid (R = 0) := HR
              clear HR
              go_wp2
              go_ret
              exact ⟨by first | (rw [HR1.out]; done) | (rw [HR1.out]; rfl), HBr.out⟩
end Go.Proofs.YtjaedfjfcghgcaaDoor

namespace Go.Proofs.YtjaedfjfcghgcaaDoor
open Go.ChangeShapes Go.WideShapes Go.ChangeAt Go.RowKit

/-- a row of n cells of which the first k are filled. -/
def fill (f : Nat → Value) (z : Value) (n k : Nat) : List Value := (List.range n).map fun j => if j < k then f j else z
theorem fill_zero (f : Nat → Value) (z : Value) (n : Nat) : fill f z n 0 = List.replicate n z := by
  apply List.ext_getElem
  · simp [fill]
  · intro j h1 h2; simp [fill]
theorem fill_set (f : Nat → Value) (z : Value) (n k : Nat) : (fill f z n k).set k (f k) = fill f z n (k + 1) := by
  apply List.ext_getElem
  · simp [fill]
  · intro j h1 h2
    simp only [fill, List.getElem_set, List.getElem_map, List.getElem_range]
    by_cases h : k = j
    · subst h; simp
    · rw [if_neg h]
      by_cases h' : j < k
      · rw [if_pos h', if_pos (by omega)]
      · rw [if_neg h', if_neg (by omega)]
theorem fill_get (f : Nat → Value) (z : Value) (n k j : Nat) (hj : j < n) : (fill f z n k)[j]? = some (if j < k then f j else z) := by
  simp [fill, hj]

end Go.Proofs.YtjaedfjfcghgcaaDoor

namespace Go.Proofs.YtjaedfjfcghgcaaDoor
open Go.ChangeShapes Go.WideShapes Go.ChangeAt Go.RowKit
set_option maxRecDepth 100000

theorem infoBool : (Tryd.prog.info? 4).map (fun i => (i.zero, i.size, i.bytes)) = some (some (.bool false), 1, 1) := by kernel_rfl

/-- the slice v reads, in the world w, as these booleans. -/
def ReadsB (w : World) (b off : Nat) (hs : List Bool) : Prop := b < w.heap.size ∧ ∀ k, k < hs.length → w.cell? ⟨b, off + k, none⟩ = some (.bool (hs.getD k false))

end Go.Proofs.YtjaedfjfcghgcaaDoor
