/-
  Facts and contracts that the statement leans on.
-/
import Derived.Test.YtjmeakkmfeoigaaGreatDoorLibA5
import Derived.Test.YtjmeakkmfeoigaaGreatDoorLibA6
import Derived.Test.YtjmeakkmfeoigaaGreatDoorLibA7
import Derived.Test.YtjmeakkmfeoigaaGreatDoorLibA4
import Derived.Deep.RegionWith
import Derived.Deep.Cut
import Derived.Deep.CutRange
import Derived.Test.YtjmeakkmfeoigaaGreatDoorLibA2
import Derived.Deep.AppendLies
import Derived.Deep.RegionLaw
import Derived.Test.YtjmeakkmfeoigaaGreatDoorRows
import Derived.Test.YtjmeakkmfeoigaaGreatDoorLibA1
import Derived.WalkKit
import Derived.ProofKit
import Derived.OpenShut
namespace Go.Proofs.YtjmeakkmfeoigaaGreatDoor
open Go.ChangeShapes Go.WideShapes Go.ChangeAt Go.RowKit
set_option maxRecDepth 100000
theorem ints_at {W : World} {o : Option Addr} {n c : Nat} {t : List Int} (h : Reads W (.slice o n c) t) {i : Nat} (hi : i < t.length) : ∃ b off, o = some ⟨b, off, none⟩ ∧ W.cell? ⟨b, off + i, none⟩ = some (.int .i64 (t.getD i 0)) := by
 rcases h with ⟨_, _, _, h0⟩ | ⟨b, off, cap, hv, _, _, _, hc⟩
 ·rw [h0] at hi; simp at hi
 ·obtain ⟨h1, _, _⟩ := Value.slice.inj hv
  exact ⟨b, off, h1, hc i hi⟩
theorem own_take {X : World} {K n m : Nat} {e : TypeId} {g cap : Nat} {xs : List Value} (h : X.ownsRow K e 1 (.slice (some ⟨g, 0, none⟩) n cap) n xs) (hm : m ≤ n) : X.ownsRow K e 1 (.slice (some ⟨g, 0, none⟩) m cap) m (xs.take m) := by
 obtain ⟨hl, h2⟩ := h
 refine ⟨by rw [List.length_take, hl]; omega, ?_⟩
 rcases h2 with ⟨h0, _⟩ | ⟨g', cap', cur, hv, hb, hh, h3, h4, h5, h6⟩
 ·cases h0
 ·cases hv
  refine Or.inr ⟨_, _, cur, rfl, hb, hh, by omega, h4, h5, ?_⟩
  rw [← h6, List.take_take]
  congr 1
  omega
structure KSt (w : World) (Rep : Addr → Lg → (Nat → Prop) → World → Prop) (p : Addr) (l : Lg) (S : Nat → Prop) (g : Nat) (es : List Int) (vm : Value) (fs : List Fm) (xs : List Value) (vd : Value) (W : World) : Prop where
 bel : Below w.heap.size w W
 rep : Rep p l S W
 ge : ∀ b, S b → w.heap.size ≤ b
 off : ¬ S g
 gge : w.heap.size ≤ g
 glt : g < W.heap.size
 mv : ∃ cap, vm = .slice (some ⟨g, 0, none⟩) (es.length + 1) cap
 own : W.ownsRow w.heap.size 3 1 vm (0 :: es).length ((0 :: es).map (Value.int .i64))
 row : Kp (Off S g) W (fun X => RowF X vd xs fs.length)
 cel : Kp (Off S g) W (fun X => CellsF X xs fs)
theorem KSt.step {w : World} {Rep : Addr → Lg → (Nat → Prop) → World → Prop} (hok : LogOk w Rep) {p : Addr} {l : Lg} {S : Nat → Prop} {g : Nat} {es : List Int} {vm : Value} {fs : List Fm} {xs : List Value} {vd : Value} {W W' : World}
    (h : KSt w Rep p l S g es vm fs xs vd W) (hb : Below W.heap.size W W') : KSt w Rep p l S g es vm fs xs vd W' :=
 ⟨h.bel.trans (hb.mono h.bel.size), hok.step h.rep hb, h.ge, h.off, h.gge, Nat.lt_of_lt_of_le h.glt hb.size, h.mv, own_keep h.own fun k e => hb.block k (h.own.lt k e).2, h.row.step hb, h.cel.step hb⟩
theorem KSt.move {w : World} {Rep : Addr → Lg → (Nat → Prop) → World → Prop} {p : Addr} {l l' : Lg} {S S' : Nat → Prop} {g : Nat} {es : List Int} {vm : Value} {fs : List Fm} {xs : List Value} {vd : Value} {W W' : World}
    (h : KSt w Rep p l S g es vm fs xs vd W) (hr : Rep p l' S' W') (hk : LKeep S W W') (hg : Grows S S' W) : KSt w Rep p l' S' g es vm fs xs vd W' := by
 obtain ⟨cap, hv⟩ := h.mv
 refine ⟨h.bel.trans (hk.below h.ge h.bel.size), hr, hg.ge h.ge h.bel.size, hg.off h.off h.glt, h.gge, Nat.lt_of_lt_of_le h.glt hk.size, h.mv, own_keep h.own fun k e => ?_, h.row.move (hk.off g) (hg.offs g), h.cel.move (hk.off g) (hg.offs g)⟩
 have : g = k := by rw [hv] at e; exact Option.some.inj e
 subst this
 exact hk.block g h.glt h.off
theorem KSt.lt {w : World} {Rep : Addr → Lg → (Nat → Prop) → World → Prop} (hok : LogOk w Rep) {p : Addr} {l : Lg} {S : Nat → Prop} {g : Nat} {es : List Int} {vm : Value} {fs : List Fm} {xs : List Value} {vd : Value} {W : World}
    (h : KSt w Rep p l S g es vm fs xs vd W) : ∀ b, Off S g b → b < W.heap.size := fun b hb => by
 rcases hb with hb | rfl
 ·exact hok.lt _ _ _ _ h.rep b hb
 ·exact h.glt
theorem KSt.geo {w : World} {Rep : Addr → Lg → (Nat → Prop) → World → Prop} {p : Addr} {l : Lg} {S : Nat → Prop} {g : Nat} {es : List Int} {vm : Value} {fs : List Fm} {xs : List Value} {vd : Value} {W : World}
    (h : KSt w Rep p l S g es vm fs xs vd W) : ∀ b, Off S g b → w.heap.size ≤ b := fun b hb => by
 rcases hb with hb | rfl
 ·exact h.ge b hb
 ·exact h.gge
theorem KSt.reads {w : World} {Rep : Addr → Lg → (Nat → Prop) → World → Prop} {p : Addr} {l : Lg} {S : Nat → Prop} {g : Nat} {es : List Int} {vm : Value} {fs : List Fm} {xs : List Value} {vd : Value} {W : World}
    (h : KSt w Rep p l S g es vm fs xs vd W) (h6 : fs.length ≤ 6) : ReadsF W vd fs := h.row.now.reads h.cel.now (by omega)
theorem KSt.put {w : World} {Rep : Addr → Lg → (Nat → Prop) → World → Prop} {p : Addr} {l : Lg} {S : Nat → Prop} {g : Nat} {es : List Int} {vm : Value} {fs : List Fm} {xs : List Value} {vd : Value} {W : World}
    (h : KSt w Rep p l S g es vm fs xs vd W) {fs' : List Fm} {xs' : List Value} {vd' : Value} (hr : Kp (Off S g) W (fun X => RowF X vd' xs' fs'.length)) (hc : Kp (Off S g) W (fun X => CellsF X xs' fs')) : KSt w Rep p l S g es vm fs' xs' vd' W :=
 ⟨h.bel, h.rep, h.ge, h.off, h.gge, h.glt, h.mv, h.own, hr, hc⟩
theorem KSt.push {w : World} {Rep : Addr → Lg → (Nat → Prop) → World → Prop} (hok : LogOk w Rep) {p : Addr} {l : Lg} {S : Nat → Prop} {g : Nat} {es : List Int} {vm : Value} {fs : List Fm} {xs : List Value} {vd : Value} {W W' : World}
    (h : KSt w Rep p l S g es vm fs xs vd W) {r : Int} {vm' : Value} (hown : W'.ownsRow w.heap.size 3 1 vm' ((0 :: es).length + 1) (((0 :: es) ++ [r]).map (Value.int .i64))) (hg : W.grownBy W' vm.ownBlock) (hat : vm'.ownBlock = vm.ownBlock ∨ vm'.ownBlock = some W.heap.size) :
    ∃ g', KSt w Rep p l S g' (es ++ [r]) vm' fs xs vd W' := by
 obtain ⟨cap, hv⟩ := h.mv
 have eb : vm.ownBlock = some g := by rw [hv]; rfl
 obtain ⟨g', cap', hv', hg'⟩ : ∃ g' cap', vm' = .slice (some ⟨g', 0, none⟩) ((0 :: es).length + 1) cap' ∧ w.heap.size ≤ g' := by
  rcases hown.2 with ⟨_, h0⟩ | ⟨g', cap', cur, h1, h2, _⟩
  ·exact absurd h0 (by omega)
  ·exact ⟨g', cap', h1, h2⟩
 have eb' : vm'.ownBlock = some g' := by rw [hv']; rfl
 have hgg : g' = g ∨ g' = W.heap.size := by
  rw [eb, eb'] at hat
  rcases hat with h | h
  ·exact Or.inl (Option.some.inj h)
  ·exact Or.inr (Option.some.inj h)
 have hk : LKeep (Off S g) W W' := ⟨hg.os, hg.tape, hg.output, hg.size, fun b hb hs => hg.block b hb fun e => hs (Or.inr (by rw [eb] at e; exact Option.some.inj e))⟩
 have hgr : Grows (Off S g) (Off S g') W := fun b hb => by
  rcases hb with hb | hb
  ·exact Or.inl (Or.inl hb)
  ·rcases hgg with e | e
   ·exact Or.inl (Or.inr (hb.trans e))
   ·exact Or.inr (by omega)
 have hsS : ∀ b, S b → W'.heap[b]? = W.heap[b]? := fun b hs => hg.block b (hok.lt _ _ _ _ h.rep b hs) fun e => by
  rw [eb] at e
  have : b = g := Option.some.inj e
  subst this
  exact h.off hs
 refine ⟨g', ⟨?_, hok.same _ _ _ _ _ h.rep hg.size hsS, h.ge, fun hs => ?_, hg', (hown.lt g' eb').2, ⟨cap', ?_⟩, ?_, h.row.move hk hgr, h.cel.move hk hgr⟩⟩
 ·refine h.bel.trans ⟨hg.os, hg.tape, hg.output, hg.size, fun k hk => hg.block k (Nat.lt_of_lt_of_le hk h.bel.size) fun e => ?_⟩
  rw [eb] at e
  have : k = g := Option.some.inj e
  have := h.gge
  omega
 ·rcases hgg with rfl | e
  ·exact h.off hs
  ·have := hok.lt _ _ _ _ h.rep _ hs
   omega
 ·rw [hv']; simp
 ·have e1 : (0 :: (es ++ [r])).length = (0 :: es).length + 1 := by simp
  rw [e1]
  exact hown
theorem KSt.cut {w : World} {Rep : Addr → Lg → (Nat → Prop) → World → Prop} {p : Addr} {l : Lg} {S : Nat → Prop} {g : Nat} {es : List Int} {cm : Nat} {fs : List Fm} {xs : List Value} {vd : Value} {W : World}
    (h : KSt w Rep p l S g es (.slice (some ⟨g, 0, none⟩) (es.length + 1) cm) fs xs vd W) {m : Nat} (hm : m ≤ fs.length) (he : es.length = fs.length) :
    (∃ b c, vd = .slice (some ⟨b, 0, none⟩) fs.length c ∧ fs.length ≤ c ∧ KSt w Rep p l S g (es.take m) (.slice (some ⟨g, 0, none⟩) (m + 1) cm) (fs.take m) (xs.take (m * 2)) (.slice (some ⟨b, 0, none⟩) m c) W) ∨
    (vd = .slice none 0 0 ∧ m = 0 ∧ fs.length = 0 ∧ KSt w Rep p l S g (es.take m) (.slice (some ⟨g, 0, none⟩) (m + 1) cm) (fs.take m) (xs.take (m * 2)) (.slice none 0 0) W) := by
 have hl : (fs.take m).length = m := by rw [List.length_take]; omega
 have hel : (es.take m).length = m := by rw [List.length_take]; omega
 have hown : W.ownsRow w.heap.size 3 1 (.slice (some ⟨g, 0, none⟩) (m + 1) cm) (0 :: es.take m).length ((0 :: es.take m).map (Value.int .i64)) := by
  have h1 : W.ownsRow w.heap.size 3 1 (.slice (some ⟨g, 0, none⟩) (es.length + 1) cm) (es.length + 1) ((0 :: es).map (Value.int .i64)) := h.own
  have h2 := own_take h1 (m := m + 1) (by omega)
  rw [← List.map_take, List.take_succ_cons] at h2
  have e1 : (0 :: es.take m).length = m + 1 := by rw [List.length_cons, hel]
  rw [e1]
  exact h2
 have hc : Kp (Off S g) W (fun X => CellsF X (xs.take (m * 2)) (fs.take m)) := h.cel.mono fun X hX => hX.take m
 rcases h.row.now.2 with ⟨h0, hv⟩ | ⟨b, c, hv, hcp, _⟩
 ·right
  subst hv
  obtain rfl : m = 0 := by omega
  refine ⟨rfl, rfl, h0, ⟨h.bel, h.rep, h.ge, h.off, h.gge, h.glt, ⟨cm, by rw [hel]⟩, hown, fun X hX => ?_, hc⟩⟩
  exact ⟨by simp, Or.inl ⟨by simp, rfl⟩⟩
 ·left
  subst hv
  refine ⟨b, c, rfl, hcp, ⟨h.bel, h.rep, h.ge, h.off, h.gge, h.glt, ⟨cm, by rw [hel]⟩, hown, ?_, hc⟩⟩
  rw [hl]
  exact h.row.mono fun X hX => RowF.take hX hm
theorem KSt.mark {w : World} {Rep : Addr → Lg → (Nat → Prop) → World → Prop} {p : Addr} {l : Lg} {S : Nat → Prop} {g : Nat} {es : List Int} {vm : Value} {fs : List Fm} {xs : List Value} {vd : Value} {W : World}
    (h : KSt w Rep p l S g es vm fs xs vd W) {i : Nat} (hi : i < es.length + 1) : W.cell? ⟨g, i, none⟩ = some (.int .i64 ((0 :: es).getD i 0)) := by
 obtain ⟨cap, hv⟩ := h.mv
 have hc := h.own.cells (g := g) (by rw [hv]; rfl) i (.int .i64 ((0 :: es).getD i 0)) (by
  rw [List.getElem?_map, List.getElem?_eq_getElem (by simpa using hi)]
  simp [List.getD_eq_getElem?_getD, List.getElem?_eq_getElem (show i < (0 :: es).length by simpa using hi)])
 have ha : (⟨g, 0, none⟩ : Addr).add i = ⟨g, i, none⟩ := by unfold Addr.add; split <;> simp_all
 rw [ha] at hc
 exact hc
end Go.Proofs.YtjmeakkmfeoigaaGreatDoor
namespace Go.Proofs.YtjmeakkmfeoigaaGreatDoor
open Go.ChangeShapes Go.WideShapes Go.ChangeAt Go.RowKit
set_option maxRecDepth 100000 in
set_option maxHeartbeats 1000000 in
theorem ints_same (t : List Int) (v v' : Value) (w : World) (h : Reads w v t) (h' : Reads w v' t) :
    Calls Tryz.prog 75 #[v, v'] w (Bk w (.bool true)) := by
 rcases h with ⟨ao, cap, rfl, rfl⟩ | ⟨b, off, cap, rfl, hB, h0, ⟨hl, _⟩, hc⟩
 ·rcases h' with ⟨ao', cap', rfl, _⟩ | ⟨_, _, _, _, _, h0, _⟩
  ·go_enter Tryz.func75, Tryz.ntmps75
   go_wp2
   refine wp_loop_rounds 1 ?_
   rw [rounds_succ]
   go_wp2
   go_ret
   exact ⟨rfl, Below.refl _ _⟩
  ·simp at h0
 ·rcases h' with ⟨_, _, _, rfl⟩ | ⟨b', off', cap', rfl, hB', _, _, hc'⟩
  ·simp at h0
  ·have HC := hide hc
   have HC' := hide hc'
   have HB : Hid (b < w.heap.size ∧ b' < w.heap.size) := ⟨hB, hB'⟩
   clear hc hc' hB hB'
   obtain ⟨n, hn⟩ := nm t.length
   rw [← hn] at hl h0 ⊢
   have HN := hide hn
   clear hn
   go_enter Tryz.func75, Tryz.ntmps75
   go_wp2
   go_loopw [5] (fun i wr => ∃ k : Nat, k ≤ n ∧ i = .int .i64 k ∧ Below w.heap.size w wr) (fun i _ => n - (intOf i).toNat)
   case atStart => exact ⟨0, Nat.zero_le _, rfl, Below.refl _ _⟩
   case round =>
    obtain ⟨k, hk, rfl, hbel⟩ := hrel
    by_cases hlt : k < n
    ·obtain ⟨s, hs⟩ := nm (t.getD k 0)
     have hkt : k < t.length := by rw [← HN.out]; exact hlt
     have c0 : wr.cell? ⟨b, off + k, none⟩ = some (.int .i64 s) := by rw [hs, hbel.cell HB.out.1]; exact HC.out k hkt
     have c1 : wr.cell? ⟨b', off' + k, none⟩ = some (.int .i64 s) := by rw [hs, hbel.cell HB.out.2]; exact HC'.out k hkt
     have HW := hide hbel
     have hlt' : (k : Int) < (n : Int) := by omega
     clear hs hkt hbel
     go_wp2_with fail
     go_quiet (fail)
     go_wp2
     go_roundw
     case rel => exact ⟨k + 1, by omega, by go_num, HW.out.trans ((below_drewNs _ _).mono HW.out.size)⟩
     case measure => simp [intOf]; omega
    ·obtain rfl : k = n := by omega
     have HW := hide hbel
     clear hbel
     go_wp2
     go_ret
     exact ⟨rfl, HW.out⟩
end Go.Proofs.YtjmeakkmfeoigaaGreatDoor
namespace Go.Proofs.YtjmeakkmfeoigaaGreatDoor
open Go.ChangeShapes Go.WideShapes Go.ChangeAt Go.RowKit
set_option maxRecDepth 100000
set_option maxHeartbeats 2000000 in
theorem atom_same (k n : Int) (vs vt us ut : Value) (s t : List Int) (w : World) (hS : Reads w vs s) (hT : Reads w vt t) (hS' : Reads w us s) (hT' : Reads w ut t) :
    Calls Tryz.prog 74 #[.agg #[.int .i64 k, vs, vt, .int .i64 n], .agg #[.int .i64 k, us, ut, .int .i64 n]] w (Bk w (.bool true)) := by
 have h1 : ∀ W, Below w.heap.size w W → _ := fun W h => ints_same s vs us W (hS.below h) (hS'.below h)
 have h2 : ∀ W, Below w.heap.size w W → _ := fun W h => ints_same t vt ut W (hT.below h) (hT'.below h)
 obtain ⟨a0, b0, rfl, _⟩ := hS.slice
 obtain ⟨a1, b1, rfl, _⟩ := hT.slice
 obtain ⟨a2, b2, rfl, _⟩ := hS'.slice
 obtain ⟨a3, b3, rfl, _⟩ := hT'.slice
 clear hS hT hS' hT'
 obtain ⟨w1, hw1⟩ := nm ((w.alloc (.cells #[.int .i64 k, .slice a0 s.length b0, .slice a1 t.length b1, .int .i64 n] 29)).alloc (.cells #[.int .i64 k, .slice a2 s.length b2, .slice a3 t.length b3, .int .i64 n] 29))
 have HB1 : Hid (Below w.heap.size w w1) := by unfold Hid; rw [hw1]; exact (below_alloc1 w _).trans ((below_alloc1 _ _).mono (by simp))
 have HX : Hid (w1.cell? ⟨w.heap.size, 2, none⟩ = some (.slice a1 t.length b1) ∧ w1.cell? ⟨w.heap.size + 1, 2, none⟩ = some (.slice a3 t.length b3) ∧ w.heap.size + 1 < w1.heap.size) := by
  unfold Hid; rw [hw1]
  refine ⟨?_, ?_, by simp⟩
  ·rw [World.cell?_alloc_lt _ _ ⟨w.heap.size, 2, none⟩ (by simp)]; simp
  ·rw [World.cell?_alloc_at _ _ _ _ (by simp)]; rfl
 have H1 := hide (h1 w1 HB1.out)
 have H2 := hide h2
 clear h1 h2
 go_enter Tryz.func74, Tryz.ntmps74
 go_wp2_with fail
 rw [← hw1]
 clear hw1
 go_at_call 75
 refine H1.out.mono ?_
 rintro e w2 ⟨rfl, hb⟩
 have HB2 := hide (HB1.out.trans (hb.mono HB1.out.size))
 have x2 := (hb.cell (p := ⟨w.heap.size, 2, none⟩) (Nat.lt_of_succ_lt HX.out.2.2)).trans HX.out.1
 have y2 := (hb.cell (p := ⟨w.heap.size + 1, 2, none⟩) HX.out.2.2).trans HX.out.2.1
 clear hb
 go_wp2_with fail
 go_at_call 75
 refine (H2.out _ HB2.out).mono ?_
 rintro e w3 ⟨rfl, hb⟩
 have HB3 := hide (HB2.out.trans (hb.mono HB2.out.size))
 clear hb
 go_wp2
 go_ret
 exact ⟨rfl, HB3.out⟩
end Go.Proofs.YtjmeakkmfeoigaaGreatDoor
namespace Go.Proofs.YtjmeakkmfeoigaaGreatDoor
open Go.ChangeShapes Go.WideShapes Go.ChangeAt Go.RowKit
set_option maxRecDepth 100000
set_option maxHeartbeats 8000000 in
theorem form_same (va vc ua uc : Value) (ats : List At) (c : List Int) (w : World) (hA : ReadsA w va ats) (hC : Reads w vc c) (hA' : ReadsA w ua ats) (hC' : Reads w uc c) :
    Calls Tryz.prog 44 #[.agg #[va, vc], .agg #[ua, uc]] w (Bk w (.bool true)) := by
 obtain ⟨ao, acap, rfl, hm63⟩ := hA.slice
 obtain ⟨co, ccap, rfl, _⟩ := hC.slice
 obtain ⟨bo, bcap, rfl, _⟩ := hA'.slice
 obtain ⟨eo, ecap, rfl, _⟩ := hC'.slice
 obtain ⟨w1, hw1⟩ := nm ((w.alloc (.cells #[.slice ao ats.length acap, .slice co c.length ccap] 39)).alloc (.cells #[.slice bo ats.length bcap, .slice eo c.length ecap] 39))
 have HB1 : Hid (Below w.heap.size w w1) := by unfold Hid; rw [hw1]; exact (below_alloc1 _ _).trans ((below_alloc1 _ _).mono (by simp))
 have HS1 : Hid (w1.heap.size = w.heap.size + 2) := by unfold Hid; rw [hw1]; simp
 have HX : Hid ((w1.cell? ⟨w.heap.size, 0, none⟩ = some (.slice ao ats.length acap) ∧ w1.cell? ⟨w.heap.size, 1, none⟩ = some (.slice co c.length ccap)) ∧ (w1.cell? ⟨w.heap.size + 1, 0, none⟩ = some (.slice bo ats.length bcap) ∧ w1.cell? ⟨w.heap.size + 1, 1, none⟩ = some (.slice eo c.length ecap))) := by
  unfold Hid; rw [hw1]
  have q : w.heap.size + 1 = (w.alloc (.cells #[.slice ao ats.length acap, .slice co c.length ccap] 39)).heap.size := by simp
  have r : ∀ o j, ((w.alloc (.cells #[.slice ao ats.length acap, .slice co c.length ccap] 39)).alloc o).cell? ⟨w.heap.size, j, none⟩ = (w.alloc (.cells #[.slice ao ats.length acap, .slice co c.length ccap] 39)).cell? ⟨w.heap.size, j, none⟩ := fun o j => World.cell?_alloc_lt _ _ ⟨w.heap.size, j, none⟩ (by simp)
  simp only [r]
  rw [q]
  simp
 have HA : Hid (ReadsA w1 (.slice ao ats.length acap) ats ∧ ReadsA w1 (.slice bo ats.length bcap) ats) := ⟨hA.below HB1.out, hA'.below HB1.out⟩
 have HC : Hid (Reads w1 (.slice co c.length ccap) c ∧ Reads w1 (.slice eo c.length ecap) c) := ⟨hC.below HB1.out, hC'.below HB1.out⟩
 clear hA hC hA' hC'
 obtain ⟨m, hm⟩ := nm ats.length
 obtain ⟨n, hn⟩ := nm c.length
 rw [← hm] at hw1 HX HA hm63 ⊢
 rw [← hn] at hw1 HX HC ⊢
 have HM := hide hm
 clear hm hn
 obtain ⟨⟨x0, x1⟩, ⟨z0, z1⟩⟩ := HX.out
 go_enter Tryz.func44, Tryz.ntmps44
 go_wp2
 rw [← hw1]
 clear hw1 x0 x1 z0 z1
 go_loopw [5] (fun i wr => ∃ k : Nat, k ≤ m ∧ i = .int .i64 k ∧ Below w1.heap.size w1 wr) (fun i _ => m - (intOf i).toNat)
 case atStart => exact ⟨0, Nat.zero_le _, rfl, Below.refl _ _⟩
 case round =>
  obtain ⟨k, hk, rfl, hbel⟩ := hrel
  have HB := hide hbel
  clear hbel
  have l0 : w.heap.size < w1.heap.size := by have := HS1.out; omega
  have l1 : w.heap.size + 1 < w1.heap.size := by have := HS1.out; omega
  have x0 : wr.cell? ⟨w.heap.size, 0, none⟩ = some (.slice ao m acap) := by rw [HB.out.cell l0]; exact HX.out.1.1
  have x1 : wr.cell? ⟨w.heap.size, 1, none⟩ = some (.slice co n ccap) := by rw [HB.out.cell l0]; exact HX.out.1.2
  have z0 : wr.cell? ⟨w.heap.size + 1, 0, none⟩ = some (.slice bo m bcap) := by rw [HB.out.cell l1]; exact HX.out.2.1
  have z1 : wr.cell? ⟨w.heap.size + 1, 1, none⟩ = some (.slice eo n ecap) := by rw [HB.out.cell l1]; exact HX.out.2.2
  clear l0 l1
  by_cases hlt : k < m
  ·obtain ⟨a, ha⟩ : ∃ a, ats[k]? = some a := ⟨_, List.getElem?_eq_getElem (by have := HM.out; omega)⟩
   rcases HA.out.1.below HB.out with ⟨_, _, hv, hn⟩ | ⟨b, off, cap, hv, hb, _, _, hall⟩
   ·have := HM.out; rw [hn] at this; simp at this; omega
   obtain rfl : ao = some ⟨b, off, none⟩ := by cases hv; rfl
   rcases HA.out.2.below HB.out with ⟨_, _, hv2, hn⟩ | ⟨b2, off2, cap2, hv2, hb2, _, _, hall2⟩
   ·have := HM.out; rw [hn] at this; simp at this; omega
   obtain rfl : bo = some ⟨b2, off2, none⟩ := by cases hv2; rfl
   obtain ⟨vs, vt, c0, c1, c2, c3, r1, r2⟩ := hall k a ha
   obtain ⟨us, ut, d0, d1, d2, d3, r3, r4⟩ := hall2 k a ha
   obtain ⟨sao, scap, rfl, _⟩ := r1.slice
   obtain ⟨tao, tcap, rfl, _⟩ := r2.slice
   obtain ⟨sbo, sdap, rfl, _⟩ := r3.slice
   obtain ⟨tbo, tdap, rfl, _⟩ := r4.slice
   clear hv hall hv2 hall2
   have HCk : Hid (∀ W, Below wr.heap.size wr W → Calls Tryz.prog 74 #[.agg #[.int .i64 a.k, .slice sao a.s.length scap, .slice tao a.t.length tcap, .int .i64 a.n], .agg #[.int .i64 a.k, .slice sbo a.s.length sdap, .slice tbo a.t.length tdap, .int .i64 a.n]] W (Bk W (.bool true))) := fun W h => atom_same a.k a.n _ _ _ _ a.s a.t W (r1.below h) (r2.below h) (r3.below h) (r4.below h)
   clear r1 r2 r3 r4
   have hlt' : (k : Int) < (m : Int) := by omega
   go_wp2_with fail
   go_cut [6] from 14 to 33 (fun ok wx => ok = .bool true ∧ Below w1.heap.size w1 wx)
   case first =>
    go_region_with (go_at_call 74; refine (HCk.out _ (by first | exact Below.refl _ _ | exact below_drewNs _ _)).mono ?_; rintro e w3 ⟨rfl, hb3⟩)
    all_goals (try go_wp2_with fail)
    all_goals go_meet
    all_goals exact ⟨rfl, HB.out.trans (Below.mono (Below.trans (by first | exact Below.refl _ _ | exact below_drewNs _ _) (Below.mono hb3 (by first | exact Nat.le_refl _ | (have := (below_drewNs wr _).size; assumption)))) HB.out.size)⟩
   case rest =>
    obtain ⟨rfl, hbc⟩ := hcut
    have HB3 := hide hbc
    clear hbc
    go_wp2
    go_roundw
    case rel => exact ⟨k + 1, by omega, by go_num, HB3.out⟩
    case measure => simp [intOf]; omega
  ·have HCk : Hid (Calls Tryz.prog 75 #[.slice co n ccap, .slice eo n ecap] wr (Bk wr (.bool true))) := ints_same c _ _ wr (HC.out.1.below HB.out) (HC.out.2.below HB.out)
   go_wp2_with fail
   go_at_call 75
   refine HCk.out.mono ?_
   rintro e w3 ⟨rfl, hb3⟩
   have HB3 := hide (HB.out.trans (hb3.mono HB.out.size))
   clear hb3 HCk
   go_wp2
   go_ret
   exact ⟨rfl, HB1.out.trans (HB3.out.mono HB1.out.size)⟩
end Go.Proofs.YtjmeakkmfeoigaaGreatDoor
namespace Go.Proofs.YtjmeakkmfeoigaaGreatDoor
open Go.ChangeShapes Go.WideShapes Go.ChangeAt Go.RowKit
set_option maxRecDepth 100000
set_option maxHeartbeats 8000000 in
theorem forms_same (v v' : Value) (fs : List Fm) (w : World) (hF : ReadsF w v fs) (hF' : ReadsF w v' fs) :
    Calls Tryz.prog 21 #[v, v'] w (Bk w (.bool true)) := by
 have HAt : Hid (∀ (k : Nat), k < fs.length → ∃ f b o n c b' o' n' c' o1 l1 c1 o2 l2 c2 p1 m1 d1 p2 m2 d2, fs[k]? = some f ∧ v = .slice (some ⟨b, o, none⟩) n c ∧ v' = .slice (some ⟨b', o', none⟩) n' c' ∧ ∀ W, Below w.heap.size w W → (W.cell? ⟨b, o + k * 2, none⟩ = some (.slice o1 l1 c1) ∧ W.cell? ⟨b, o + k * 2 + 1, none⟩ = some (.slice o2 l2 c2)) ∧ (W.cell? ⟨b', o' + k * 2, none⟩ = some (.slice p1 m1 d1) ∧ W.cell? ⟨b', o' + k * 2 + 1, none⟩ = some (.slice p2 m2 d2)) ∧ Calls Tryz.prog 44 #[.agg #[.slice o1 l1 c1, .slice o2 l2 c2], .agg #[.slice p1 m1 d1, .slice p2 m2 d2]] W (Bk W (.bool true))) := fun k hk => by
  have hf := List.getElem?_eq_getElem hk
  obtain ⟨b, o, c, hv⟩ := hF.place (by omega)
  obtain ⟨b', o', c', hv'⟩ := hF'.place (by omega)
  rw [hv] at hF
  rw [hv'] at hF'
  obtain ⟨hb, va, vc, c0, c1, hA, hC⟩ := hF.at hf
  obtain ⟨hb', va', vc', d0, d1, hA', hC'⟩ := hF'.at hf
  have hS := fun W hW => form_same va vc va' vc' _ _ W (hA.below hW) (hC.below hW) (hA'.below hW) (hC'.below hW)
  obtain ⟨_, _, rfl, _⟩ := hA.slice
  obtain ⟨_, _, rfl, _⟩ := hC.slice
  obtain ⟨_, _, rfl, _⟩ := hA'.slice
  obtain ⟨_, _, rfl, _⟩ := hC'.slice
  exact ⟨_, b, o, _, c, b', o', _, c', _, _, _, _, _, _, _, _, _, _, _, _, hf, hv, hv', fun W hW => ⟨⟨(hW.cell hb).trans c0, (hW.cell hb).trans c1⟩, ⟨(hW.cell hb').trans d0, (hW.cell hb').trans d1⟩, hS W hW⟩⟩
 obtain ⟨lo, lcap, rfl, hl63⟩ := hF.slice
 obtain ⟨lo', lcap', rfl, _⟩ := hF'.slice
 obtain ⟨n, hn⟩ := nm fs.length
 rw [← hn] at HAt hl63 ⊢
 clear hF hF' hn
 go_enter Tryz.func21, Tryz.ntmps21
 go_wp2
 go_loopw [5] (fun i wr => ∃ k : Nat, k ≤ n ∧ i = .int .i64 k ∧ Below w.heap.size w wr) (fun i _ => n - (intOf i).toNat)
 case atStart => exact ⟨0, Nat.zero_le _, rfl, Below.refl _ _⟩
 case round =>
  obtain ⟨k, hk, rfl, hbr⟩ := hrel
  have HB := hide hbr
  clear hbr
  by_cases hlt : k < n
  ·obtain ⟨f, b, o, n1, c, b', o', n2, c', o1, l1, c1, o2, l2, c2, p1, m1, d1, p2, m2, d2, _, hv, hv', hW⟩ := HAt.out k hlt
   have h1 := (Value.slice.inj hv).1
   have h2 := (Value.slice.inj hv').1
   clear hv hv'
   subst h1 h2
   obtain ⟨⟨x0, x1⟩, ⟨y0, y1⟩, _⟩ := hW wr HB.out
   have HSk : Hid (∀ W, Below wr.heap.size wr W → Calls Tryz.prog 44 #[.agg #[.slice o1 l1 c1, .slice o2 l2 c2], .agg #[.slice p1 m1 d1, .slice p2 m2 d2]] W (Bk w (.bool true))) := fun W hb => by
    have hb' := HB.out.trans (hb.mono HB.out.size)
    exact (hW W hb').2.2.mono fun e w' ⟨h1, h2⟩ => ⟨h1, hb'.trans (h2.mono hb'.size)⟩
   have hltz : (k : Int) < (n : Int) := by omega
   clear hW
   go_wp2_with fail
   go_cut [6] from 12 to 28 (fun x wx => x = .bool true ∧ Below w.heap.size w wx)
   case first =>
    go_region_with (go_at_call 44; refine (HSk.out _ (by first | exact Below.refl _ _ | exact below_drewNs _ _ | exact Below.drew (Below.refl _ _))).mono ?_; rintro e w8 ⟨rfl, hb8⟩)
    all_goals (try go_wp2_with fail)
    all_goals go_meet
    all_goals exact ⟨rfl, hb8⟩
   case rest =>
    obtain ⟨rfl, hb8⟩ := hcut
    obtain ⟨w8, hw8⟩ := nm wc
    subst hw8
    have HB8 := hide hb8
    clear hb8 x0 x1 y0 y1
    go_wp2
    go_roundw
    case rel => first | exact ⟨k + 1, by omega, by go_num, HB8.out⟩ | ((repeat apply Exists.intro); refine ⟨?_, rfl⟩; exact ⟨k + 1, by omega, by go_num, HB8.out⟩)
    case measure => first | (simp [intOf]; done) | (simp [intOf]; omega)
  ·obtain rfl : k = n := by omega
   go_wp2
   go_ret
   exact ⟨rfl, HB.out⟩
end Go.Proofs.YtjmeakkmfeoigaaGreatDoor
namespace Go.Proofs.YtjmeakkmfeoigaaGreatDoor
open Go.ChangeShapes Go.WideShapes Go.ChangeAt Go.RowKit
set_option maxRecDepth 100000
def cellsC (L : List (Nat → Int)) : List Value := L.flatMap fun N => (arr8 N).toList
theorem cellsC_append (L M : List (Nat → Int)) : cellsC (L ++ M) = cellsC L ++ cellsC M := by unfold cellsC; rw [List.flatMap_append]
theorem cellsC_one (N : Nat → Int) : cellsC [N] = (arr8 N).toList := by unfold cellsC; simp
structure PileC (w : World) (O K : Nat) (v : Value) (L : List (Nat → Int)) : Prop where
 box : Blk w O 119 #[v]
 own : w.ownsRow K 122 8 v L.length (cellsC L)
 lt : O < K
structure GrewC (O : Nat) (w w' : World) (v v' : Value) : Prop where
 os : w'.os = w.os
 tape : w'.tape = w.tape
 output : w'.output = w.output
 size : w.heap.size ≤ w'.heap.size
 rest : ∀ b, b < w.heap.size → b ≠ O → v.ownBlock ≠ some b → w'.heap[b]? = w.heap[b]?
 home : v'.ownBlock = v.ownBlock ∨ ∃ g, v'.ownBlock = some g ∧ w.heap.size ≤ g
theorem GrewC.refl (O : Nat) (w : World) (v : Value) : GrewC O w w v v := ⟨rfl, rfl, rfl, Nat.le_refl _, fun _ _ _ _ => rfl, Or.inl rfl⟩
theorem GrewC.trans {O : Nat} {a b c : World} {v v' v'' : Value} (h : GrewC O a b v v') (k : GrewC O b c v' v'') : GrewC O a c v v'' := by
 refine ⟨k.os.trans h.os, k.tape.trans h.tape, k.output.trans h.output, Nat.le_trans h.size k.size, fun i hi hO hv => ?_, ?_⟩
 ·have hv' : v'.ownBlock ≠ some i := by
   rcases h.home with e | ⟨g, e, hg⟩
   ·rw [e]; exact hv
   ·rw [e]; intro e'; have := Option.some.inj e'; omega
  rw [k.rest i (Nat.lt_of_lt_of_le hi h.size) hO hv', h.rest i hi hO hv]
 ·rcases k.home with e | ⟨g, e, hg⟩
  ·rw [e]; exact h.home
  ·exact Or.inr ⟨g, e, Nat.le_trans h.size hg⟩
theorem GrewC.alloc (O : Nat) (w : World) (o : Obj) (v : Value) : GrewC O w (w.alloc o) v v := ⟨rfl, rfl, rfl, by simp, fun i hi _ _ => heap_alloc_old w o hi, Or.inl rfl⟩
theorem GrewC.set {O : Nat} {w w' : World} {v v' : Value} (h : GrewC O w w' v v') {B : Nat} (hB : w.heap.size ≤ B) (j : Nat) (x : Value) : GrewC O w (w'.setCell ⟨B, j, none⟩ x) v v' := by
 refine ⟨h.os, h.tape, h.output, ?_, fun i hi hO hv => ?_, h.home⟩
 ·have := h.size; simpa using this
 ·rw [heap_setCell_other w' ⟨B, j, none⟩ i x (by show i ≠ B; omega)]; exact h.rest i hi hO hv
theorem GrewC.below {O : Nat} {w w' : World} {v v' : Value} (h : GrewC O w w' v v') {B : Nat} (hB : B ≤ w.heap.size) (hO : B ≤ O) (hv : ∀ g, v.ownBlock = some g → B ≤ g) : Below B w w' :=
 ⟨h.os, h.tape, h.output, h.size, fun i hi => h.rest i (by omega) (by omega) fun e => by have := hv i e; omega⟩
theorem PileC.far {w : World} {O K : Nat} {v : Value} {L : List (Nat → Int)} (h : PileC w O K v L) {B : Nat} (hB : B ≠ O) (hv : v.ownBlock ≠ some B) (j : Nat) (x : Value) : PileC (w.setCell ⟨B, j, none⟩ x) O K v L := by
 refine ⟨h.box.far (Ne.symm hB) j x, ⟨h.own.1, ?_⟩, h.lt⟩
 rcases h.own.2 with hn | ⟨g, cap, cur, rfl, hb, hg, rest⟩
 ·exact Or.inl hn
 ·refine Or.inr ⟨g, cap, cur, rfl, hb, ?_, rest⟩
  rw [heap_setCell_other w ⟨B, j, none⟩ g x (by intro e; apply hv; simp only at e; rw [← e]; rfl)]; exact hg
theorem PileC.alloc {w : World} {O K : Nat} {v : Value} {L : List (Nat → Int)} (h : PileC w O K v L) (o : Obj) : PileC (w.alloc o) O K v L := ⟨h.box.old o, h.own.alloc o, h.lt⟩
theorem infoI8 : (Tryz.prog.info? 122).isSome = true := by kernel_rfl
theorem zeroI8 : (Tryz.prog.info? 122).bind (·.zero) = some (.agg #[.int .i64 0, .int .i64 0, .int .i64 0, .int .i64 0, .int .i64 0, .int .i64 0, .int .i64 0, .int .i64 0]) := by kernel_rfl
theorem sizeI8 : (Tryz.prog.info? 122).map (·.size) = some 8 := by kernel_rfl
theorem bytesI8 : (Tryz.prog.info? 122).map (·.bytes) = some 64 := by kernel_rfl
theorem leaf_post {w w1 W0 w2 : World} {O K gg n cap1 : Nat} {v : Value} {L : List (Nat → Int)} {M : Nat → Int} (hg1 : GrewC O w w1 v v) (hb : Below w1.heap.size w1 W0) (hgrow : W0.grownBy w2 v.ownBlock) (bO : Blk w2 O 119 #[v])
    (hown1 : w2.ownsRow K 122 8 (.slice (some ⟨gg, 0, none⟩) (n + 1) cap1) (n + 1) (cellsC L ++ (arr8 M).toList)) (hat : v.ownBlock = some gg ∨ gg = w1.heap.size + 1) (hO : O < K) (hn : n = L.length) :
    PileC (w2.setCell ⟨O, 0, none⟩ (.slice (some ⟨gg, 0, none⟩) (n + 1) cap1)) O K (.slice (some ⟨gg, 0, none⟩) (n + 1) cap1) (L ++ [M]) ∧ GrewC O w (w2.setCell ⟨O, 0, none⟩ (.slice (some ⟨gg, 0, none⟩) (n + 1) cap1)) v (.slice (some ⟨gg, 0, none⟩) (n + 1) cap1) := by
 have hK : K ≤ gg := (hown1.lt gg rfl).1
 have e1 : (L ++ [M]).length = n + 1 := by simp [hn]
 have e2 : cellsC (L ++ [M]) = cellsC L ++ (arr8 M).toList := by rw [cellsC_append, cellsC_one]
 refine ⟨⟨?_, ?_, hO⟩, ?_⟩
 ·have := bO.set 0 (.slice (some ⟨gg, 0, none⟩) (n + 1) cap1)
  simpa using this
 ·rw [e1, e2]
  refine ⟨hown1.1, ?_⟩
  rcases hown1.2 with ⟨h, _⟩ | ⟨g, cap, cur, h, hb', hg, rest⟩
  ·cases h
  ·refine Or.inr ⟨g, cap, cur, h, hb', ?_, rest⟩
   rw [heap_setCell_other w2 ⟨O, 0, none⟩ g _ (by show g ≠ O; omega)]; exact hg
 ·refine ⟨(hgrow.os.trans hb.os).trans hg1.os, (hgrow.tape.trans hb.tape).trans hg1.tape, (hgrow.output.trans hb.output).trans hg1.output, ?_, fun i hi hiO hv => ?_, ?_⟩
  ·have := hg1.size
   have := hb.size
   have := hgrow.size
   simp
   omega
  ·have h1 := hg1.size
   have h2 := hb.size
   rw [heap_setCell_other w2 ⟨O, 0, none⟩ i _ (by show i ≠ O; exact hiO), hgrow.block i (by omega) (fun e => hv e.symm), hb.block i (by omega)]
   exact hg1.rest i hi hiO hv
  ·rcases hat with h | h
   ·exact Or.inl h.symm
   ·exact Or.inr ⟨gg, rfl, by have := hg1.size; omega⟩
set_option maxHeartbeats 4000000 in
theorem all_leaf (u : Nat) (N M : Nat → Int) (O K : Nat) (v : Value) (L : List (Nat → Int)) (w : World) (hM : M = putN N 7 u) (hp : PileC w O K v L) (hK : K ≤ w.heap.size) (hL : L.length + 1 ≤ 1716) :
    Calls Tryz.prog 111 #[.int .i64 u, .int .i64 7, .agg #[.int .i64 (N 0), .int .i64 (N 1), .int .i64 (N 2), .int .i64 (N 3), .int .i64 (N 4), .int .i64 (N 5), .int .i64 (N 6), .int .i64 (N 7)], .pointer (some ⟨O, 0, none⟩)] w fun e w' => e = .returned (.tuple #[]) ∧ ∃ v', PileC w' O K v' (L ++ [M]) ∧ GrewC O w w' v v' := by
 obtain ⟨w1, hw1⟩ := nm (w.alloc (.cells #[.int .i64 (N 0), .int .i64 (N 1), .int .i64 (N 2), .int .i64 (N 3), .int .i64 (N 4), .int .i64 (N 5), .int .i64 (N 6), .int .i64 u] 122))
 have HS1 : Hid (w1.heap.size = w.heap.size + 1) := by unfold Hid; rw [hw1]; simp
 have HN1 : Hid (Blk w1 w.heap.size 122 (arr8 M)) := by
  unfold Hid; rw [hw1, hM]
  have e : arr8 (putN N 7 u) = #[.int .i64 (N 0), .int .i64 (N 1), .int .i64 (N 2), .int .i64 (N 3), .int .i64 (N 4), .int .i64 (N 5), .int .i64 (N 6), .int .i64 u] := by simp [arr8, putN]
  rw [e]
  exact Blk.new _ _ _
 have hvB : v.ownBlock ≠ some w.heap.size := fun e => by have := (hp.own.lt _ e).2; omega
 have hOl := hp.box.lt
 have HP1 : Hid (PileC w1 O K v L) := by unfold Hid; rw [hw1]; exact hp.alloc _
 have HG1 : Hid (GrewC O w w1 v v) := by unfold Hid; rw [hw1]; exact GrewC.alloc O w _ v
 obtain ⟨i8, hi⟩ : ∃ i, Tryz.prog.info? 122 = some i := Option.isSome_iff_exists.1 infoI8
 have hz0 : i8.zero = some (.agg #[.int .i64 0, .int .i64 0, .int .i64 0, .int .i64 0, .int .i64 0, .int .i64 0, .int .i64 0, .int .i64 0]) := by have := zeroI8; rw [hi] at this; simpa using this
 have hz1 : i8.size = 8 := by have := sizeI8; rw [hi] at this; simpa using this
 have hz2 : i8.bytes = 64 := by have := bytesI8; rw [hi] at this; simpa using this
 obtain ⟨q0, q1, q2, q3, q4, q5, q6, q7⟩ := HN1.out.cells8
 have qO : w1.cell? ⟨O, 0, none⟩ = some v := HP1.out.box.cell 0
 obtain ⟨n, hn⟩ := nm L.length
 have HOW : Hid (w1.ownsRow K 122 8 v n (cellsC L)) := by unfold Hid; rw [hn]; exact HP1.out.own
 rw [← hn] at hL
 have HNL := hide hn
 clear hn hM
 have HKeep : Hid (∀ W0 W2, Below w1.heap.size w1 W0 → W0.grownBy W2 v.ownBlock → Blk W2 O 119 #[v] ∧ W2.cell? ⟨O, 0, none⟩ = some v ∧ W2.cell? ⟨w.heap.size, 0, none⟩ = some (.int .i64 (M 0)) ∧ W2.cell? ⟨w.heap.size, 1, none⟩ = some (.int .i64 (M 1)) ∧ W2.cell? ⟨w.heap.size, 2, none⟩ = some (.int .i64 (M 2)) ∧ W2.cell? ⟨w.heap.size, 3, none⟩ = some (.int .i64 (M 3)) ∧ W2.cell? ⟨w.heap.size, 4, none⟩ = some (.int .i64 (M 4)) ∧ W2.cell? ⟨w.heap.size, 5, none⟩ = some (.int .i64 (M 5)) ∧ W2.cell? ⟨w.heap.size, 6, none⟩ = some (.int .i64 (M 6)) ∧ W2.cell? ⟨w.heap.size, 7, none⟩ = some (.int .i64 (M 7)) ∧ W2.frozen? ⟨O, 0, none⟩ = false) := fun W0 W2 hb hg => by
  have hvO : some O ≠ v.ownBlock := fun e => by have := (hp.own.lt _ e.symm).1; have := hp.lt; omega
  have hvB' : some w.heap.size ≠ v.ownBlock := fun e => hvB e.symm
  have hB1 := HN1.out.lt
  have hO1 := HP1.out.box.lt
  have bO : Blk W2 O 119 #[v] := by
   unfold Blk
   rw [hg.block O (Nat.lt_of_lt_of_le hO1 hb.size) hvO, hb.block O hO1]; exact HP1.out.box
  have bN : Blk W2 w.heap.size 122 (arr8 M) := by
   unfold Blk
   rw [hg.block _ (Nat.lt_of_lt_of_le hB1 hb.size) hvB', hb.block _ hB1]; exact HN1.out
  exact ⟨bO, bO.cell 0, bN.cell 0, bN.cell 1, bN.cell 2, bN.cell 3, bN.cell 4, bN.cell 5, bN.cell 6, bN.cell 7, bO.frozen 0⟩
 go_enter Tryz.func111, Tryz.ntmps111
 go_upto_region 3 with fail
 rw [← hw1]
 clear hw1
 have HKs : Hid (K ≤ w1.heap.size) := by unfold Hid; rw [HS1.out]; omega
 have HA1 : Hid (Blk (w1.alloc (.cells #[.int .i64 (M 0), .int .i64 (M 1), .int .i64 (M 2), .int .i64 (M 3), .int .i64 (M 4), .int .i64 (M 5), .int .i64 (M 6), .int .i64 (M 7)] 122)) O 119 #[v]) := HP1.out.box.old _
 have HA2 : Hid (Blk (w1.alloc (.cells #[.int .i64 (M 0), .int .i64 (M 1), .int .i64 (M 2), .int .i64 (M 3), .int .i64 (M 4), .int .i64 (M 5), .int .i64 (M 6), .int .i64 (M 7)] 122)) w.heap.size 122 (arr8 M)) := HN1.out.old _
 have rO : (w1.alloc (.cells #[.int .i64 (M 0), .int .i64 (M 1), .int .i64 (M 2), .int .i64 (M 3), .int .i64 (M 4), .int .i64 (M 5), .int .i64 (M 6), .int .i64 (M 7)] 122)).cell? ⟨O, 0, none⟩ = some v := HA1.out.cell 0
 obtain ⟨r0, r1, r2, r3, r4, r5, r6, r7⟩ := HA2.out.cells8
 go_region_law (refine step_append_lies _ (by rfl) _ _ _ (by rfl) K 122 i8 (.agg #[.int .i64 0, .int .i64 0, .int .i64 0, .int .i64 0, .int .i64 0, .int .i64 0, .int .i64 0, .int .i64 0]) 8 64 Tryz.underlying119 hi hz0 hz1 hz2 rfl (by decide) v n (cellsC L) (by rfl) (HOW.out.alloc _) ⟨w1.heap.size, 0, none⟩ 1 1 (arr8 M).toList (by rfl) (by rfl) (World.news_of_block (cs := arr8 M) (t := 122) (fr := (0, 0)) (heap_alloc_new w1 _)) (by simp [arr8, Value.oneCell']) (by omega) (by unfold maxLen; omega) (by omega) (by have := HKs.out; simp; omega) (w1.heap.size + 1) (by simp) ?_; intro gg cap1 w2 hown1 hgrow hat hlt1; obtain ⟨bO, z8, z0, z1, z2, z3, z4, z5, z6, z7, fz⟩ := HKeep.out _ w2 ((below_alloc1 w1 _).drew) hgrow)
 all_goals
  have HPo : Hid (PileC (w2.setCell ⟨O, 0, none⟩ (.slice (some ⟨gg, 0, none⟩) (n + 1) cap1)) O K (.slice (some ⟨gg, 0, none⟩) (n + 1) cap1) (L ++ [M]) ∧ GrewC O w (w2.setCell ⟨O, 0, none⟩ (.slice (some ⟨gg, 0, none⟩) (n + 1) cap1)) v (.slice (some ⟨gg, 0, none⟩) (n + 1) cap1)) := leaf_post HG1.out ((below_alloc1 w1 _).drew) hgrow bO hown1 hat hp.lt HNL.out
  clear hgrow bO hown1 hat hlt1 z8 z0 z1 z2 z3 z4 z5 z6 z7 fz
  go_wp2
  (try simp only [Exit.inBlock, Exit.then])
  refine bodyPost_ret (results_none rfl _ _ _) rfl ?_
  exact ⟨rfl, _, HPo.out.1, HPo.out.2⟩
set_option maxHeartbeats 8000000 in
theorem refAll_step (r : Nat) (hr : r ≤ 7) : ∀ (u : Nat) (N : Nat → Int) (O K : Nat) (v : Value) (L : List (Nat → Int)) (w : World), u ≤ 6 → PileC w O K v L → K ≤ w.heap.size → L.length + (allF r u N).length ≤ 1716 →
    Calls Tryz.prog 111 #[.int .i64 u, .int .i64 ((7 - r : Nat) : Int), .agg #[.int .i64 (N 0), .int .i64 (N 1), .int .i64 (N 2), .int .i64 (N 3), .int .i64 (N 4), .int .i64 (N 5), .int .i64 (N 6), .int .i64 (N 7)], .pointer (some ⟨O, 0, none⟩)] w fun e w' => e = .returned (.tuple #[]) ∧ ∃ v', PileC w' O K v' (L ++ allF r u N) ∧ GrewC O w w' v v' := by
 induction r with
 | zero =>
  intro u N O K v L w _ hp hK hL
  exact all_leaf u N _ O K v L w rfl hp hK hL
 | succ r ih =>
  intro u N O K v L w hu hp hK hL
  obtain ⟨f, hf⟩ := nm (7 - (r + 1))
  have hf7 : f < 7 := by omega
  have HIH : Hid (∀ (k : Nat) (M : Nat → Int) (v' : Value) (L' : List (Nat → Int)) (W : World), k ≤ u → PileC W O K v' L' → K ≤ W.heap.size → L'.length + (allF r (u - k) M).length ≤ 1716 →
      Calls Tryz.prog 111 #[.int .i64 ((u : Int) - k), .int .i64 ((f : Int) + 1), .agg #[.int .i64 (M 0), .int .i64 (M 1), .int .i64 (M 2), .int .i64 (M 3), .int .i64 (M 4), .int .i64 (M 5), .int .i64 (M 6), .int .i64 (M 7)], .pointer (some ⟨O, 0, none⟩)] W fun e w' => e = .returned (.tuple #[]) ∧ ∃ v'', PileC w' O K v'' (L' ++ allF r (u - k) M) ∧ GrewC O W w' v' v'') := fun k M v' L' W hk h1 h2 h3 => by
   have h := ih (by omega) (u - k) M O K v' L' W (by omega) h1 h2 h3
   have e1 : ((u - k : Nat) : Int) = (u : Int) - k := by omega
   have e2 : ((7 - r : Nat) : Int) = (f : Int) + 1 := by omega
   rw [e1, e2] at h
   exact h
  have HLn : Hid (∀ k, k ≤ u + 1 → (L ++ allTo r u N k).length ≤ 1716) := fun k hk => by
   have := len_allTo_le r u N hk
   rw [List.length_append]; omega
  have HAS : Hid (∀ k, L ++ allTo r u N (k + 1) = (L ++ allTo r u N k) ++ allF r (u - k) (putN N f k)) := fun k => by
   rw [allTo_succ, List.append_assoc, show 6 - r = f by omega]
  have HAE : Hid (L ++ allTo r u N (u + 1) = L ++ allF (r + 1) u N) := by unfold Hid; rw [allTo_all]
  have HA0 : Hid (L ++ allTo r u N 0 = L) := by unfold Hid; rw [allTo_zero, List.append_nil]
  obtain ⟨w1, hw1⟩ := nm (w.alloc (.cells #[.int .i64 (N 0), .int .i64 (N 1), .int .i64 (N 2), .int .i64 (N 3), .int .i64 (N 4), .int .i64 (N 5), .int .i64 (N 6), .int .i64 (N 7)] 122))
  have HP1 : Hid (PileC w1 O K v L) := by unfold Hid; rw [hw1]; exact hp.alloc _
  have HG1 : Hid (GrewC O w w1 v v) := by unfold Hid; rw [hw1]; exact GrewC.alloc O w _ v
  have HN1 : Hid (Blk w1 w.heap.size 122 (arr8 N)) := by unfold Hid; rw [hw1]; exact Blk.new _ _ _
  have HOl := hide (hp.box.lt)
  have HKs := hide hK
  have HvB : Hid (∀ g, v.ownBlock = some g → g < w.heap.size) := fun g e => (hp.own.lt g e).2
  have hf' : ((7 - (r + 1) : Nat) : Int) = (f : Int) := by omega
  rw [hf']
  clear ih hf hf' hp hL hK hr
  have hne : ¬ ((f : Int) = 7) := by omega
  go_enter Tryz.func111, Tryz.ntmps111
  go_wp2
  rw [← hw1]
  clear hw1
  (first | rw [show ((f : Int) == 7) = false by simpa using hne] | rw [show decide ((f : Int) = 7) = false by simpa using hne])
  go_loopw [8] (fun i wr => ∃ (k : Nat) (v' : Value) (x : Int), k ≤ u + 1 ∧ i = .int .i64 k ∧ PileC wr O K v' (L ++ allTo r u N k) ∧ GrewC O w wr v v' ∧ (v'.ownBlock ≠ some w.heap.size) ∧ Blk wr w.heap.size 122 (arr8 (putN N f x))) (fun i _ => u + 1 - (intOf i).toNat)
  case atStart =>
   refine ⟨0, v, N f, by omega, rfl, ?_, HG1.out, fun e => by have := HvB.out _ e; omega, ?_⟩
   ·rw [HA0.out]; exact HP1.out
   ·have e : putN N f (N f) = N := by funext g; unfold putN; split <;> simp_all
    rw [e]; exact HN1.out
  case round =>
   obtain ⟨k, v', x, hk, rfl, hp1, hg1, hv1, hn1⟩ := hrel
   have HP2 := hide hp1
   have HG2 := hide hg1
   have HV2 := hide hv1
   have HN2 : Hid (Blk wr w.heap.size 122 (arr8 (putN N f x))) := hn1
   clear hp1 hg1 hv1 hn1
   by_cases hlt : k ≤ u
   ·have hltz : (k : Int) ≤ (u : Int) := by omega
    have c : wr.cell? ⟨w.heap.size, f, none⟩ = some (.int .i64 x) := by rw [HN2.out.cell, arr8_get _ (by omega), putN_same]
    have z := HN2.out.frozen f
    obtain ⟨M, hM⟩ := nm (putN N f k)
    obtain ⟨w2, hw2⟩ := nm (wr.setCell ⟨w.heap.size, f, none⟩ (.int .i64 k))
    have HN3 : Hid (Blk w2 w.heap.size 122 (arr8 M)) := by
     unfold Hid; rw [hw2, hM]
     have := HN2.out.set f (.int .i64 k)
     have e : (arr8 (putN N f x)).setIfInBounds f (.int .i64 k) = arr8 (putN N f k) := by
      rcases eight (show f < 8 by omega) with rfl | rfl | rfl | rfl | rfl | rfl | rfl | rfl <;> simp [arr8, putN]
     rw [e] at this
     exact this
    have HP3 : Hid (PileC w2 O K v' (L ++ allTo r u N k)) := by unfold Hid; rw [hw2]; exact HP2.out.far (by have := HOl.out; omega) HV2.out _ _
    have HG3 : Hid (GrewC O w w2 v v') := by unfold Hid; rw [hw2]; exact HG2.out.set (Nat.le_refl _) _ _
    have HC : Hid (Calls Tryz.prog 111 #[.int .i64 ((u : Int) - k), .int .i64 ((f : Int) + 1), .agg #[.int .i64 (M 0), .int .i64 (M 1), .int .i64 (M 2), .int .i64 (M 3), .int .i64 (M 4), .int .i64 (M 5), .int .i64 (M 6), .int .i64 (M 7)], .pointer (some ⟨O, 0, none⟩)] w2 fun e w' => e = .returned (.tuple #[]) ∧ ∃ v'', PileC w' O K v'' (L ++ allTo r u N (k + 1)) ∧ GrewC O w w' v v'' ∧ v''.ownBlock ≠ some w.heap.size ∧ Blk w' w.heap.size 122 (arr8 (putN N f k))) := by
     refine (HIH.out k M v' (L ++ allTo r u N k) w2 hlt HP3.out (Nat.le_trans HKs.out HG3.out.size) ?_).mono fun e w' h => ?_
     ·have h1 := HLn.out (k + 1) (by omega)
      rw [HAS.out k, List.length_append] at h1
      rw [hM]; exact h1
     ·obtain ⟨he, v'', h1, h2⟩ := h
      have hl := HN3.out.lt
      refine ⟨he, v'', ?_, HG3.out.trans h2, ?_, ?_⟩
      ·rw [HAS.out k, ← hM]; exact h1
      ·rcases h2.home with e | ⟨g, e, hg⟩
       ·rw [e]; exact HV2.out
       ·rw [e]; intro e'; have := Option.some.inj e'; omega
      ·unfold Blk
       rw [h2.rest _ hl (by have := HOl.out; omega) HV2.out, ← hM]; exact HN3.out
    clear hM
    obtain ⟨q0, q1, q2, q3, q4, q5, q6, q7⟩ := HN3.out.cells8
    go_upto_region 8 with fail
    rw [← hw2]
    clear hw2 c z
    go_wp2_with fail
    go_at_call 111
    refine HC.out.mono ?_
    rintro e w3 ⟨rfl, v3, h1, h2, h3, h4⟩
    have HR : Hid (PileC w3 O K v3 (L ++ allTo r u N (k + 1)) ∧ GrewC O w w3 v v3 ∧ v3.ownBlock ≠ some w.heap.size ∧ Blk w3 w.heap.size 122 (arr8 (putN N f k))) := ⟨h1, h2, h3, h4⟩
    clear h1 h2 h3 h4 q0 q1 q2 q3 q4 q5 q6 q7
    go_wp2
    go_roundw
    case rel => exact ⟨k + 1, v3, k, by omega, by go_num, HR.out.1, HR.out.2.1, HR.out.2.2.1, HR.out.2.2.2⟩
    case measure => simp [intOf]; omega
   ·obtain rfl : k = u + 1 := by omega
    have hltz : ¬ (((u + 1 : Nat) : Int) ≤ (u : Int)) := by omega
    have HR : Hid (PileC wr O K v' (L ++ allF (r + 1) u N)) := by
     unfold Hid; rw [← HAE.out]; exact HP2.out
    go_wp2
    (try simp only [Exit.inBlock, Exit.then])
    refine bodyPost_end (results_none rfl _ _ _) rfl ?_
    exact ⟨rfl, v', HR.out, HG2.out⟩
end Go.Proofs.YtjmeakkmfeoigaaGreatDoor
namespace Go.Proofs.YtjmeakkmfeoigaaGreatDoor
open Go.ChangeShapes Go.WideShapes Go.ChangeAt Go.RowKit
set_option maxRecDepth 100000
def CntAt (w : World) (b off : Nat) (N : Nat → Int) : Prop := ∀ f, f < 8 → w.cell? ⟨b, off + f, none⟩ = some (.int .i64 (N f))
def Reads8 (w : World) (v : Value) (L : List (Nat → Int)) : Prop :=
 (∃ ao cap, v = .slice ao 0 cap ∧ L = []) ∨ (∃ b off cap, v = .slice (some ⟨b, off, none⟩) L.length cap ∧ b < w.heap.size ∧ 0 < L.length ∧ (L.length ≤ 9223372036854775807 ∧ L.length ≤ cap) ∧ ∀ i N, L[i]? = some N → CntAt w b (off + i * 8) N)
theorem Reads8.below {w w' : World} {v : Value} {L : List (Nat → Int)} (h : Reads8 w v L) (hb : Below w.heap.size w w') : Reads8 w' v L := by
 rcases h with h | ⟨b, off, cap, h1, h2, h3, h4, h5⟩
 ·exact Or.inl h
 ·exact Or.inr ⟨b, off, cap, h1, Nat.lt_of_lt_of_le h2 hb.size, h3, h4, fun i N hN f hf => by rw [hb.cell h2]; exact h5 i N hN f hf⟩
theorem Reads8.slice {w : World} {v : Value} {L : List (Nat → Int)} (h : Reads8 w v L) : ∃ ao cap, v = .slice ao L.length cap ∧ L.length ≤ 9223372036854775807 := by
 rcases h with ⟨ao, cap, rfl, rfl⟩ | ⟨b, off, cap, rfl, _, _, h, _⟩
 ·exact ⟨ao, cap, rfl, by decide⟩
 ·exact ⟨_, cap, rfl, h.1⟩
theorem cellsC_at (L : List (Nat → Int)) : ∀ (i : Nat) (N : Nat → Int), L[i]? = some N → ∀ f, f < 8 → (cellsC L)[i * 8 + f]? = some (.int .i64 (N f)) := by
 induction L with
 | nil => intro i N h; simp at h
 | cons M L ih =>
  intro i N h f hf
  have e : cellsC (M :: L) = (arr8 M).toList ++ cellsC L := by unfold cellsC; rw [List.flatMap_cons]
  have hl : (arr8 M).toList.length = 8 := rfl
  rw [e]
  cases i with
  | zero =>
   obtain rfl : M = N := by simpa using h
   rw [List.getElem?_append_left (by omega), show 0 * 8 + f = f by omega]
   have := arr8_get M hf
   rw [← Array.getElem?_toList] at this
   exact this
  | succ i =>
   rw [List.getElem?_append_right (by omega), hl, show (i + 1) * 8 + f - 8 = i * 8 + f by omega]
   exact ih i N (by simpa using h) f hf
theorem PileC.reads {w : World} {O K : Nat} {v : Value} {L : List (Nat → Int)} (h : PileC w O K v L) (hL : L.length ≤ 1716) : Reads8 w v L := by
 rcases h.own.2 with ⟨rfl, h0⟩ | ⟨g, cap, cur, rfl, hb, hg, hc, hm, hs, ht⟩
 ·exact Or.inl ⟨none, 0, rfl, List.eq_nil_of_length_eq_zero h0⟩
 ·rcases Nat.eq_zero_or_pos L.length with h0 | h0
  ·have e : L = [] := List.eq_nil_of_length_eq_zero h0
   subst e
   exact Or.inl ⟨_, _, rfl, rfl⟩
  ·refine Or.inr ⟨g, 0, cap, rfl, (Array.getElem?_eq_some_iff.1 hg).1, h0, ⟨by omega, hc⟩, fun i N hN f hf => ?_⟩
   have hi : i < L.length := (List.getElem?_eq_some_iff.1 hN).1
   rw [cell_of_row w g _ cur _ (0, 0) hg]
   have hx := cellsC_at L i N hN f hf
   rw [← ht, List.getElem?_take_of_lt (by omega)] at hx
   rw [show 0 + i * 8 + f = i * 8 + f by omega, ← Array.getElem?_toList]
   exact hx
set_option maxHeartbeats 4000000 in
theorem refAll_any (u : Nat) (hu : u ≤ 6) (w : World) :
    Calls Tryz.prog 71 #[.int .i64 u] w fun e w' => ∃ v, e = .returned v ∧ Reads8 w' v (everyC u) ∧ (∀ g, v.ownBlock = some g → w.heap.size ≤ g) ∧ Below w.heap.size w w' := by
 obtain ⟨w1, hw1⟩ := nm ((w.alloc (.cells #[.slice none 0 0] 119)).alloc (.cells #[.int .i64 0, .int .i64 0, .int .i64 0, .int .i64 0, .int .i64 0, .int .i64 0, .int .i64 0, .int .i64 0] 122))
 have HB1 : Hid (Below w.heap.size w w1) := by unfold Hid; rw [hw1]; exact (below_alloc1 _ _).alloc (by simp) _
 have HO1 : Hid (Blk w1 w.heap.size 119 #[.slice none 0 0]) := by unfold Hid; rw [hw1]; exact (Blk.new _ _ _).old _
 have HN1 : Hid (Blk w1 (w.heap.size + 1) 122 #[.int .i64 0, .int .i64 0, .int .i64 0, .int .i64 0, .int .i64 0, .int .i64 0, .int .i64 0, .int .i64 0]) := by
  unfold Hid; rw [hw1]
  have := Blk.new (w.alloc (.cells #[.slice none 0 0] 119)) 122 #[.int .i64 0, .int .i64 0, .int .i64 0, .int .i64 0, .int .i64 0, .int .i64 0, .int .i64 0, .int .i64 0]
  simp only [World.size_alloc] at this
  exact this
 have HS1 : Hid (w1.heap.size = w.heap.size + 2) := by unfold Hid; rw [hw1]; simp
 have HP : Hid (PileC w1 w.heap.size (w.heap.size + 1) (.slice none 0 0) []) := ⟨HO1.out, World.ownsRow_nil _ _ _ _, by omega⟩
 have HC : Hid (Calls Tryz.prog 111 #[.int .i64 u, .int .i64 0, .agg #[.int .i64 0, .int .i64 0, .int .i64 0, .int .i64 0, .int .i64 0, .int .i64 0, .int .i64 0, .int .i64 0], .pointer (some ⟨w.heap.size, 0, none⟩)] w1 fun e w' => e = .returned (.tuple #[]) ∧ ∃ v, w'.cell? ⟨w.heap.size, 0, none⟩ = some v ∧ Reads8 w' v (everyC u) ∧ (∀ g, v.ownBlock = some g → w.heap.size ≤ g) ∧ Below w.heap.size w w') := by
  have hl := length_everyC hu
  refine Calls.mono (refAll_step 7 (by omega) u (fun _ => 0) w.heap.size (w.heap.size + 1) (.slice none 0 0) [] w1 hu HP.out (by rw [HS1.out]; omega) (by simpa [everyC] using hl)) fun e w' h => ?_
  obtain ⟨he, v, h1, h2⟩ := h
  rw [List.nil_append] at h1
  refine ⟨he, v, h1.box.cell 0, h1.reads hl, fun g e => by have := (h1.own.lt g e).1; omega, HB1.out.trans (h2.below HB1.out.size (Nat.le_refl _) fun g e => by cases e)⟩
 clear HP
 have q0 : w1.cell? ⟨w.heap.size + 1, 0, none⟩ = some (.int .i64 0) := HN1.out.cell 0
 have q1 : w1.cell? ⟨w.heap.size + 1, 1, none⟩ = some (.int .i64 0) := HN1.out.cell 1
 have q2 : w1.cell? ⟨w.heap.size + 1, 2, none⟩ = some (.int .i64 0) := HN1.out.cell 2
 have q3 : w1.cell? ⟨w.heap.size + 1, 3, none⟩ = some (.int .i64 0) := HN1.out.cell 3
 have q4 : w1.cell? ⟨w.heap.size + 1, 4, none⟩ = some (.int .i64 0) := HN1.out.cell 4
 have q5 : w1.cell? ⟨w.heap.size + 1, 5, none⟩ = some (.int .i64 0) := HN1.out.cell 5
 have q6 : w1.cell? ⟨w.heap.size + 1, 6, none⟩ = some (.int .i64 0) := HN1.out.cell 6
 have q7 : w1.cell? ⟨w.heap.size + 1, 7, none⟩ = some (.int .i64 0) := HN1.out.cell 7
 go_enter Tryz.func71, Tryz.ntmps71
 go_upto_region 3 with fail
 rw [← hw1]
 clear hw1
 go_wp2_with fail
 go_at_call 111
 refine HC.out.mono ?_
 rintro e w2 ⟨rfl, v, hc, hr, hg, hb⟩
 have HR : Hid (Reads8 w2 v (everyC u) ∧ (∀ g, v.ownBlock = some g → w.heap.size ≤ g) ∧ Below w.heap.size w w2) := ⟨hr, hg, hb⟩
 clear hr hg hb q0 q1 q2 q3 q4 q5 q6 q7
 go_wp2
 go_ret
 exact ⟨_, rfl, HR.out.1, HR.out.2.1, HR.out.2.2⟩
end Go.Proofs.YtjmeakkmfeoigaaGreatDoor
namespace Go.Proofs.YtjmeakkmfeoigaaGreatDoor
open Go.ChangeShapes Go.WideShapes Go.ChangeAt Go.RowKit
set_option maxRecDepth 100000
theorem ret_i {k : IntKind} {a b : Int} (h : a = b) : Ending.returned (.int k a) = .returned (.int k b) := by rw [h]
theorem ret_b {a b : Bool} (h : a = b) : Ending.returned (.bool a) = .returned (.bool b) := by rw [h]
theorem refPower_any (n : Nat) (hn : n ≤ 62) (w : World) :
    Calls Tryz.prog 113 #[.int .i64 n] w (Sk w (.int .i64 (pw n))) := by
 go_enter Tryz.func113, Tryz.ntmps113
 go_wp2
 go_loop [3, 4] (fun p i => ∃ k : Nat, k ≤ n ∧ i = .int .i64 k ∧ p = .int .i64 (pw k)) (fun _ i => n - (intOf i).toNat)
 case atStart => exact ⟨0, Nat.zero_le _, rfl, rfl⟩
 case round =>
  obtain ⟨k, hk, rfl, rfl⟩ := hrel
  by_cases hlt : k < n
  ·have p1 := pw_pos k
   have p2 := pw_le61 (k := k) (by omega)
   have HS : Hid (pw (k + 1) = 2 * pw k) := pw_succ k
   go_wp2
   go_round
   case rel => exact ⟨k + 1, by omega, by go_num, by rw [HS.out]⟩
   case measure => simp [intOf]; omega
  ·obtain rfl : k = n := by omega
   go_wp2
   go_ret
   exact ⟨rfl, rfl⟩
theorem refHas_any (s : Int) (i : Nat) (hs : 0 ≤ s) (hm : s ≤ 9223372036854775807) (hi : i ≤ 62) (w : World) :
    Calls Tryz.prog 112 #[.int .i64 s, .int .i64 i] w (Sk w (.bool (hasB s i))) := by
 have p1 := pw_pos i
 go_enter Tryz.func112, Tryz.ntmps112
 go_wp2_with (go_at_call 113; refine (refPower_any _ hi _).mono ?_; rintro e w' ⟨rfl, rfl⟩)
 go_ret
 exact ⟨ret_b (has_spell2 s i hs), rfl⟩
end Go.Proofs.YtjmeakkmfeoigaaGreatDoor