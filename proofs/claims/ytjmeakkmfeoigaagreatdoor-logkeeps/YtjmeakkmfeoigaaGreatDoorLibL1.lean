/-
  Facts and contracts that the statement leans on.
-/
import Derived.Test.YtjmeakkmfeoigaaGreatDoorLibA25
import Derived.Test.YtjmeakkmfeoigaaGreatDoorLibA24
import Derived.Maps.OwnIn
import Derived.Deep.AppendLies
import Derived.Deep.Onto
import Derived.Test.YtjmeakkmfeoigaaGreatDoorLibA17
import Derived.Test.YtjmeakkmfeoigaaGreatDoorLibA16
import Derived.Test.YtjmeakkmfeoigaaGreatDoorLibA6
import Derived.Deep.CutRange
namespace Go.Proofs.YtjmeakkmfeoigaaGreatDoor
open Go.ChangeShapes Go.WideShapes Go.ChangeAt Go.RowKit
set_option maxRecDepth 100000
def MadeF (R : Nat → Prop) (K : Nat) (W : World) (v : Value) (fs : List Fm) : Prop :=
 ∃ xs, W.ownsRow K 39 2 v fs.length xs ∧ (∀ b, v.ownBlock = some b → R b) ∧ ∀ i f, fs[i]? = some f → ∃ va vc, xs[i * 2]? = some va ∧ xs[i * 2 + 1]? = some vc ∧ FormOn (fun b => R b ∧ v.ownBlock ≠ some b) W va vc f
theorem madeF_nil (R : Nat → Prop) (K : Nat) (W : World) : MadeF R K W (.slice none 0 0) [] := ⟨[], World.ownsRow_nil _ _ _ _, (fun b e => by cases e), fun i a h => by simp at h⟩
theorem MadeF.keep {R : Nat → Prop} {K : Nat} {W W' : World} {v : Value} {fs : List Fm} (h : MadeF R K W v fs) (hs : ∀ b, R b → b < W.heap.size → W'.heap[b]? = W.heap[b]?) (hz : W.heap.size ≤ W'.heap.size) : MadeF R K W' v fs := by
 obtain ⟨xs, h1, h2, h3⟩ := h
 refine ⟨xs, own_keep h1 fun b e => hs b (h2 b e) (h1.lt b e).2, h2, fun i f hf => ?_⟩
 obtain ⟨va, vc, c0, c1, r⟩ := h3 i f hf
 exact ⟨va, vc, c0, c1, r.step hz (fun b hb hl => hs b hb.1 hl) fun b hb _ => hb⟩
theorem MadeF.below {R : Nat → Prop} {K : Nat} {W W' : World} {v : Value} {fs : List Fm} (h : MadeF R K W v fs) (hb : Below W.heap.size W W') : MadeF R K W' v fs := h.keep (fun b _ hl => hb.block b hl) hb.size
theorem MadeF.slice {R : Nat → Prop} {K : Nat} {W : World} {v : Value} {fs : List Fm} (h : MadeF R K W v fs) : ∃ ao c, v = .slice ao fs.length c := by
 obtain ⟨xs, h1, _⟩ := h
 rcases h1.2 with ⟨rfl, h0⟩ | ⟨g, cap, cur, rfl, _⟩
 ·exact ⟨_, _, by rw [h0]⟩
 ·exact ⟨_, _, rfl⟩
theorem MadeF.reads {R : Nat → Prop} {K : Nat} {W : World} {v : Value} {fs : List Fm} (h : MadeF R K W v fs) : ReadsF W v fs := by
 obtain ⟨xs, h1, _, h3⟩ := h
 rcases h1.2 with ⟨rfl, hn0⟩ | ⟨gb, cap, cur, rfl, hb, hgb, hcp, hmx, hs, ht⟩
 ·exact Or.inl ⟨none, 0, rfl, List.eq_nil_of_length_eq_zero hn0⟩
 ·rcases Nat.eq_zero_or_pos fs.length with hz | hz
  ·rw [hz]; exact Or.inl ⟨_, _, rfl, List.eq_nil_of_length_eq_zero hz⟩
  ·unfold maxLen at hmx
   refine Or.inr ⟨gb, 0, cap, rfl, (Array.getElem?_eq_some_iff.1 hgb).1, hz, ⟨by omega, hcp⟩, fun i f hf => ?_⟩
   have hil : i < fs.length := (List.getElem?_eq_some_iff.1 hf).1
   obtain ⟨va, vc, ca, cc, r⟩ := h3 i f hf
   refine ⟨va, vc, ?_, ?_, r.now.1, r.now.2⟩
   ·rw [cell_of_row W gb _ cur _ (0, 0) hgb, ← Array.getElem?_toList, show 0 + i * 2 = i * 2 by omega]
    rw [← ht, List.getElem?_take_of_lt (by omega)] at ca
    exact ca
   ·rw [cell_of_row W gb _ cur _ (0, 0) hgb, ← Array.getElem?_toList, show 0 + i * 2 + 1 = i * 2 + 1 by omega]
    rw [← ht, List.getElem?_take_of_lt (by omega)] at cc
    exact cc
theorem madeF_more {R R' : Nat → Prop} {K H : Nat} {W W' : World} {v v' : Value} {fs : List Fm} {xs : List Value} {f : Fm} {va vc : Value}
    (hRR : ∀ b, R b → R' b) (hN : ∀ b, H ≤ b → b < W'.heap.size → R' b) (hvH : ∀ b, v.ownBlock = some b → b < H) (hHW : H ≤ W.heap.size)
    (h1 : W.ownsRow K 39 2 v fs.length xs) (h2 : ∀ b, v.ownBlock = some b → R b) (h3 : ∀ i f, fs[i]? = some f → ∃ va vc, xs[i * 2]? = some va ∧ xs[i * 2 + 1]? = some vc ∧ FormOn (fun b => R b ∧ v.ownBlock ≠ some b) W va vc f)
    (hf : FormOn (fun b => H ≤ b) W va vc f)
    (own' : W'.ownsRow K 39 2 v' (fs.length + 1) (xs ++ [va, vc])) (hg : W.grownBy W' v.ownBlock) (hat : v'.ownBlock = v.ownBlock ∨ v'.ownBlock = some W.heap.size) : MadeF R' K W' v' (fs ++ [f]) := by
 have hl : xs.length = fs.length * 2 := h1.1
 have hne : ∀ b, b < W.heap.size → v.ownBlock ≠ some b → v'.ownBlock ≠ some b := fun b hb hn e => by
  rcases hat with h | h
  ·rw [h] at e; exact hn e
  ·rw [h] at e; have := Option.some.inj e; omega
 refine ⟨_, by rw [List.length_append]; exact own', fun b e => ?_, fun i g hi => ?_⟩
 ·rcases hat with h | h
  ·exact hRR b (h2 b (h ▸ e))
  ·have hb := (own'.lt b e).2
   rw [h] at e
   have e2 := Option.some.inj e
   exact hN b (by omega) hb
 ·rcases Nat.lt_or_ge i fs.length with hil | hil
  ·rw [List.getElem?_append_left hil] at hi
   obtain ⟨ua, uc, c0, c1, r⟩ := h3 i g hi
   refine ⟨ua, uc, by rw [List.getElem?_append_left (by omega)]; exact c0, by rw [List.getElem?_append_left (by omega)]; exact c1, ?_⟩
   exact r.step hg.size (fun b hb hl => hg.block b hl fun e => hb.2 e.symm) fun b hb hl => ⟨hRR b hb.1, hne b hl hb.2⟩
  ·rw [List.getElem?_append_right hil] at hi
   have h0 : i = fs.length := by
    rcases Nat.eq_zero_or_pos (i - fs.length) with h | h
    ·omega
    ·rw [List.getElem?_eq_none (by simp; omega)] at hi; cases hi
   subst h0
   rw [Nat.sub_self] at hi
   obtain rfl : f = g := by simpa using hi
   refine ⟨va, vc, ?_, ?_, ?_⟩
   ·rw [List.getElem?_append_right (by omega), hl, Nat.sub_self]; rfl
   ·rw [List.getElem?_append_right (by omega), hl, show fs.length * 2 + 1 - fs.length * 2 = 1 by omega]; rfl
   ·refine hf.step hg.size (fun b hb hl => hg.block b hl fun e => by have := hvH b e.symm; omega) fun b hb hl => ⟨hN b hb (Nat.lt_of_lt_of_le hl hg.size), hne b hl fun e => by have := hvH b e; omega⟩
theorem infoFm : (Tryz.prog.info? 39).isSome = true := by kernel_rfl
theorem zeroFm : (Tryz.prog.info? 39).bind (·.zero) = some (.agg #[.slice none 0 0, .slice none 0 0]) := by kernel_rfl
theorem sizeFm : (Tryz.prog.info? 39).map (·.size) = some 2 := by kernel_rfl
theorem bytesFm : (Tryz.prog.info? 39).map (·.bytes) = some 48 := by kernel_rfl
theorem stepIn_form {F : Fence} {nF : Nat} {w : World} {ops : Array Oper} {o : Oper} {a : Act} {K : Act → World → Prop} {Q : Exit → Act → World → Prop} {E : Prop} (hgd : o.guard = none) (s x : Operand)
    (ho : o.op = .call { callee := .builtin .append, args := #[s, x], argTypes := #[34, 34] }) (B : Nat) (v : Value) (hs : a.eval s = v) (n : Nat) (xs : List Value) (va vc : Value) (hva : va.oneCell' = true) (hvc : vc.oneCell' = true) (G c : Nat) (hx : a.eval x = .slice (some ⟨G, 0, none⟩) 1 c)
    (hown : w.ownsRow B 39 2 v n xs) (hG : w.heap[G]? = some (.cells #[va, vc] 39 (0, 0))) (hB : B ≤ w.heap.size) (h12 : n ≤ 1000000)
    (h : ∀ v' w', w'.ownsRow B 39 2 v' (n + 1) (xs ++ [va, vc]) → w.grownBy w' v.ownBlock → (v'.ownBlock = v.ownBlock ∨ v'.ownBlock = some w.heap.size) → K (a.put o.dst v') w') :
    if Region.wanted o (yielded ops a.tmps) = true then Oper.wpIn F nF Tryz.prog o a w K Q else E := by
 have hw : Region.wanted o (yielded ops a.tmps) = true := by simp [Region.wanted, hgd]
 rw [if_pos hw]
 obtain ⟨i1, hi⟩ : ∃ i, Tryz.prog.info? 39 = some i := Option.isSome_iff_exists.1 infoFm
 have hz0 : i1.zero = some (.agg #[.slice none 0 0, .slice none 0 0]) := by have := zeroFm; rw [hi] at this; simpa using this
 have hz1 : i1.size = 2 := by have := sizeFm; rw [hi] at this; simpa using this
 have hz2 : i1.bytes = 48 := by have := bytesFm; rw [hi] at this; simpa using this
 obtain ⟨v', w', hr, h2, h3, _, h5⟩ := run_append_own_at (P := Tryz.prog) w B 34 o.type 39 i1 _ 2 48 Tryz.underlying34 hi hz0 hz1 hz2 rfl (by decide) v n xs hown ⟨G, 0, none⟩ 1 c [va, vc] rfl (World.news_of_block hG) (by intro u hu; simp at hu; rcases hu with rfl | rfl; exact hva; exact hvc) (by unfold maxLen; omega) (by omega) hB
 unfold Oper.wpIn
 refine ⟨by simp [Oper.about, ho, resolve, Target.leads, Sem.run_pure], ?_⟩
 rw [Oper.semAt_plain F _ _ (by rw [ho]; intro c hc'; cases hc')]
 simp [execOp, ho, resolve, invoke, builtin, hs, hx, hr, Result.andThen]
 exact h v' w' h2 h3 h5
end Go.Proofs.YtjmeakkmfeoigaaGreatDoor
namespace Go.Proofs.YtjmeakkmfeoigaaGreatDoor
open Go.ChangeShapes Go.WideShapes Go.ChangeAt Go.RowKit
set_option maxRecDepth 100000
attribute [local go_sem] Oper.semAt_some
theorem recs_at {ps : List (At × Bool)} {k : Nat} {x : List UInt8} (h : (ps.map recB)[k]? = some x) : ∃ q, ps[k]? = some q ∧ x = recB q := by
 rw [List.getElem?_map] at h
 cases hq : ps[k]? with
 | none => rw [hq] at h; cases h
 | some q => rw [hq] at h; exact ⟨q, rfl, by simpa using h.symm⟩
theorem putFm {G l : Nat} {W : World} {T : TypeId} {cs : Array Value} (h : Blk W G T cs) (o : Obj) (hl : G ≠ l) : Blk (W.putObj l o) G T cs := by
 unfold Blk; rw [World.putObj_heap_other hl]; exact h
theorem loadFs {W : World} {R : Nat} {v : Value} (h : Blk W R 34 #[v]) : (loadVar 34 ⟨R, 0, none⟩).run Tryz.prog W = .ok v W := by
 have hc : W.cell? ⟨R, 0, none⟩ = some v := h.cell 0
 simp [loadVar, Tryz.isAgg34, Result.andThen, hc]
set_option maxHeartbeats 8000000 in
theorem logAll_any (ps : List (At × Bool)) (hps : ∀ q ∈ ps, q.1.fault = 0) (h6 : ps.length ≤ 6) (tail : List UInt8) (ht : plainC 10 tail = true) (ht2 : tail.length ≤ 200) (b : Nat) (u sf z : Int) (st : Bool) (w : World)
    (hB : Blk w b 63 (lgC u (strOf (linesT (ps.map recB) ++ tail)) sf z st)) (hK : KindsLaid w) (hLb : LibLaid w) :
    Calls Tryz.prog 13 #[.pointer (some ⟨b, 0, none⟩)] w fun e w' => ∃ v, e = .returned v ∧ MadeF (fun x => w.heap.size ≤ x) w.heap.size w' v (ps.map aloneP) ∧ Below w.heap.size w w' := by
 have hsm := recs_small hps
 have hL : ∀ x ∈ ps.map recB, plainC 10 x = true := fun x hx => by
  obtain ⟨q, hq, rfl⟩ := List.mem_map.1 hx
  exact rec_plain (hps q hq)
 have HWh : Hid (∀ W, Calls Tryz.prog 33 #[.string (strOf (linesT (ps.map recB) ++ tail))] W (Sk W (.string (strOf (linesT (ps.map recB)))))) := fun W => logWhole_any _ _ ht (by rw [List.length_append]; omega) W
 have HSq : Hid (∀ (Bu : Nat) (W : World), Blk W Bu 9 #[.string (strOf (linesT (ps.map recB)))] → SeqS 2 Tryz.prog 66 #[.pointer (some ⟨Bu, 0, none⟩)] encL (ps.map recB) (fun b => b = Bu) W) := fun Bu W h => lines_iter _ hL (by omega) 2 (by omega) Bu W h
 have HRd : Hid (∀ (k : Nat) (q : At × Bool) (W : World), ps[k]? = some q → Below w.heap.size w W → Calls Tryz.prog 30 #[.string (strOf (recB q ++ [10]))] W fun e w' => ∃ o1 l1 c1 o2 l2 c2, e = .returned (.agg #[.slice o1 l1 c1, .slice o2 l2 c2]) ∧ FormOn (fun b => W.heap.size ≤ b) w' (.slice o1 l1 c1) (.slice o2 l2 c2) (aloneP q) ∧ Below W.heap.size W w') := fun k q W hq hW => logRead_any q.1 q.2 (hps q (List.mem_of_getElem? hq)) W (hK.below hW) (hLb.below hW)
 have HLl : Hid ((ps.map recB).length = ps.length) := List.length_map _
 have H6 := hide h6
 obtain ⟨S0, hS0⟩ := nm (strOf (linesT (ps.map recB)))
 obtain ⟨S1, hS1⟩ := nm (strOf (linesT (ps.map recB) ++ tail))
 rw [← hS0, ← hS1] at HWh
 rw [← hS0] at HSq
 rw [← hS1] at hB
 obtain ⟨L, hLd⟩ := nm (ps.map recB)
 have HLd := hide hLd
 rw [← hLd] at HSq HLl
 have HBg : Hid (Blk w b 63 (lgC u S1 sf z st)) := hB
 clear hS0 hS1 hsm hL hps h6 ht ht2 hK hLb hB hLd
 obtain ⟨w1, hw1⟩ := nm (w.alloc (.cells #[.slice none 0 0] 34))
 obtain ⟨wl, hwl⟩ := nm (w1.alloc (.cells #[.string S0] 9))
 have b1 : Below w.heap.size w w1 := by rw [hw1]; exact below_alloc1 _ _
 have s1 : w1.heap.size = w.heap.size + 1 := by rw [hw1, World.size_alloc]
 have HB0 : Hid (Below w.heap.size w wl) := by unfold Hid; rw [hwl]; exact b1.alloc b1.size _
 have Hsz : Hid (wl.heap.size = w.heap.size + 2) := by unfold Hid; rw [hwl, World.size_alloc, s1]
 have H0 : Hid (Blk wl w.heap.size 34 #[.slice none 0 0]) := by unfold Hid; rw [hwl, hw1]; exact (Blk.new _ _ _).old _
 have H1 : Hid (Blk wl (w.heap.size + 1) 9 #[.string S0]) := by
  unfold Hid; rw [hwl]
  have := Blk.new w1 9 #[.string S0]
  rw [s1] at this; exact this
 have c1 : w1.cell? ⟨b, 1, none⟩ = some (.string S1) := (HBg.out.below b1).cell 1
 clear b1
 refine (callsIn_wide (n := 3)).1 ?_
 refine callsIn_of_wp_marks Tryz.func13 rfl trivial ?_ rfl
 simp only [Tryz.ntmps13, List.size_toArray, List.length_cons, List.length_nil, Nat.reduceAdd, Nat.reduceSub, Array.replicate_succ, Array.replicate_zero, List.push_toArray, List.append_toArray, List.nil_append, List.cons_append]
 gi_upto_region 2 with fail
 rw [← hw1]
 clear hw1
 gi_wp2_with fail
 refine ⟨trivial, ?_⟩
 gi_at_call 33
 refine (callsIn_wide.2 (HWh.out _)).mono ?_
 rintro e w4 ⟨rfl, rfl⟩
 gi_wp2_with fail
 refine ⟨trivial, ?_⟩
 gi_at_call 34
 refine (callsIn_wide.2 (lines_made _ _)).mono ?_
 rintro e w4 ⟨rfl, rfl⟩
 gi_wp2_with fail
 rw [← hwl]
 clear hwl c1 s1
 refine wpIn_range_ownS (by omega) (gf := 66) (lb := #[.pointer (some ⟨w.heap.size + 1, 0, none⟩)]) rfl (enters_of Tryz.func66 (by kernel_rfl) rfl) (encs := encL) (A := L) (S := fun b => b = w.heap.size + 1)
  (fun b hb => by have := Hsz.out; omega) (fun W hW => HSq.out _ W (H1.out.below hW)) (fun _ => rfl)
  (fun k R W => Below w.heap.size w W ∧ (∀ b, R b → w.heap.size + 2 ≤ b) ∧ ∃ v, Blk W w.heap.size 34 #[v] ∧ MadeF R (w.heap.size + 2) W v ((ps.take k).map aloneP))
  (fun _ _ => False)
  (fun k R X Y h hb => by
   obtain ⟨h1, h2, v, h3, h4⟩ := h
   have hz := Hsz.out
   refine ⟨h1.trans ⟨hb.rest.os, hb.rest.tape, hb.rest.output, hb.rest.size, fun b hb' => hb.old b (by omega) (by omega)⟩, h2, v, ?_, h4.keep hb.own hb.rest.size⟩
   unfold Blk; rw [hb.old _ (by omega) (by omega)]; exact h3)
  (fun _ _ _ h _ => h) ⟨HB0.out, fun b h => h.elim, .slice none 0 0, H0.out, madeF_nil _ _ _⟩ ?round ?done ?stop
 case round =>
  intro ln k x R W hx hl1 hl2 hlR ⟨hB, hR2, v, c0, hm⟩
  obtain ⟨q, hq, rfl⟩ := recs_at (by rw [HLd.out] at hx; exact hx)
  have HX := hide hq
  have HkL : Hid (k < ps.length) := (List.getElem?_eq_some_iff.1 hq).1
  have Hl1 : Hid (w.heap.size + 2 ≤ ln) := by unfold Hid; rw [← Hsz.out]; exact hl1
  have HR2 := hide hR2
  unfold encL
  gi_wp2
  refine ⟨OverS.refl _ _ _ _, fun o => ?_⟩
  obtain ⟨W2, hW2⟩ := nm (W.putObj ln o)
  have HB2 : Hid (Below w.heap.size w W2) := by unfold Hid; rw [hW2]; exact hB.trans (below_putS _ _ (by have := Hl1.out; omega))
  have D0 : Hid (Blk W2 w.heap.size 34 #[v]) := by unfold Hid; rw [hW2]; exact putFm c0 _ (by have := Hl1.out; omega)
  have DM : Hid (MadeF R (w.heap.size + 2) W2 v ((ps.take k).map aloneP)) := by unfold Hid; rw [hW2]; exact hm.keep (fun b hb _ => World.putObj_heap_other fun e => hlR (e ▸ hb)) (by simp)
  have HS2 : Hid (w.heap.size + 2 ≤ W2.heap.size) := by unfold Hid; rw [hW2]; have := Hl1.out; simp; omega
  rw [← hW2]
  clear hW2 hx hl1 hl2 hlR hB c0 hR2 hm hq
  have HTk : Hid ((ps.take (k + 1)).map aloneP = (ps.take k).map aloneP ++ [aloneP q]) := by
   unfold Hid; rw [List.take_add_one, HX.out, List.map_append]; rfl
  obtain ⟨l, hl⟩ := nm ((ps.take k).map aloneP)
  have HLn : Hid (l.length ≤ 6) := by unfold Hid; rw [hl, List.length_map, List.length_take]; have := H6.out; omega
  rw [← hl] at DM HTk
  clear hl
  have HPk : Hid (∀ W, Below w.heap.size w W → Calls Tryz.prog 30 #[.string (strOf (recB q ++ [10]))] W fun e w' => ∃ o1 l1 c1 o2 l2 c2, e = .returned (.agg #[.slice o1 l1 c1, .slice o2 l2 c2]) ∧ FormOn (fun b => W.heap.size ≤ b) w' (.slice o1 l1 c1) (.slice o2 l2 c2) (aloneP q) ∧ Below W.heap.size W w') := fun W hW => HRd.out k q W HX.out hW
  obtain ⟨va, vc, hv⟩ := DM.out.slice
  subst hv
  have y2 : W2.drew.cell? ⟨w.heap.size, 0, none⟩ = some (.slice va l.length vc) := D0.out.cell 0
  gi_upto_region 4 with fail
  refine wpIn_region_any (by kernel_rfl) ?_
  change wpAnyIn _ _ _ _ _ _ _ _ _ (World.drew _)
  refine wpAnyIn_ready (rs := [0, 1]) (by kernel_rfl) (by simp) ?_
  refine AllReadyIn.cons rfl (fun K hK => ?pa) (AllReadyIn.cons rfl (fun K hK => ?pb) AllReadyIn.nil)
  case' pa =>
   go_simp
   refine hK _ _ ?_
   clear hK K
   refine wpAnyIn_ready (rs := [1]) (by kernel_rfl) (by simp) ?_
   refine AllReadyIn.cons rfl (fun K hK => ?_) AllReadyIn.nil
   go_simp
   refine hK _ _ ?_
   clear hK K
   refine wpAnyIn_ready (rs := [2]) (by kernel_rfl) (by simp) ?_
   refine AllReadyIn.cons rfl (fun K hK => ?_) AllReadyIn.nil
   go_simp
   refine ⟨trivial, ?_⟩
   refine (CallsIn.inRound ln (callsIn_wide.2 (HPk.out _ HB2.out.drew))).mono ?_
   rintro e W3 ⟨o1, l1, c1, o2, l2, c2, rfl, hf3, hb3⟩
   refine hK _ _ ?_
   have HF3 := hide hf3
   have HB3 : Hid (Below W2.heap.size W2 W3) := (Below.refl _ _).drew.trans hb3
   have y3 : W3.cell? ⟨w.heap.size, 0, none⟩ = some (.slice va l.length vc) := (D0.out.below HB3.out).cell 0
   clear hf3 hb3 hK K
   refine wpAnyIn_ready (rs := [3]) (by kernel_rfl) (by simp) ?_
   refine AllReadyIn.cons rfl (fun K hK => ?_) AllReadyIn.nil
   go_simp
   refine hK _ _ ?_
   clear hK K
  case' pb =>
   go_simp
   refine hK _ _ ?_
   clear hK K
   refine wpAnyIn_ready (rs := [0, 2]) (by kernel_rfl) (by simp) ?_
   refine AllReadyIn.cons rfl (fun K hK => ?pc) (AllReadyIn.cons rfl (fun K hK => ?pd) AllReadyIn.nil)
  case' pc =>
   go_simp
   refine hK _ _ ?_
   clear hK K
   refine wpAnyIn_ready (rs := [2]) (by kernel_rfl) (by simp) ?_
   refine AllReadyIn.cons rfl (fun K hK => ?_) AllReadyIn.nil
   go_simp
   refine ⟨trivial, ?_⟩
   refine (CallsIn.inRound ln (callsIn_wide.2 (HPk.out _ HB2.out.drew))).mono ?_
   rintro e W3 ⟨o1, l1, c1, o2, l2, c2, rfl, hf3, hb3⟩
   refine hK _ _ ?_
   have HF3 := hide hf3
   have HB3 : Hid (Below W2.heap.size W2 W3) := (Below.refl _ _).drew.trans hb3
   have y3 : W3.cell? ⟨w.heap.size, 0, none⟩ = some (.slice va l.length vc) := (D0.out.below HB3.out).cell 0
   clear hf3 hb3 hK K
   refine wpAnyIn_ready (rs := [3]) (by kernel_rfl) (by simp) ?_
   refine AllReadyIn.cons rfl (fun K hK => ?_) AllReadyIn.nil
   go_simp
   refine hK _ _ ?_
   clear hK K
  case' pd =>
   go_simp
   refine ⟨trivial, ?_⟩
   refine (CallsIn.inRound ln (callsIn_wide.2 (HPk.out _ HB2.out.drew))).mono ?_
   rintro e W3 ⟨o1, l1, c1, o2, l2, c2, rfl, hf3, hb3⟩
   refine hK _ _ ?_
   have HF3 := hide hf3
   have HB3 : Hid (Below W2.heap.size W2 W3) := (Below.refl _ _).drew.trans hb3
   have y3 : W3.cell? ⟨w.heap.size, 0, none⟩ = some (.slice va l.length vc) := (D0.out.below HB3.out).cell 0
   clear hf3 hb3 hK K
   refine wpAnyIn_ready (rs := [0, 3]) (by kernel_rfl) (by simp) ?_
   refine AllReadyIn.cons rfl (fun K hK => ?pe) (AllReadyIn.cons rfl (fun K hK => ?pf) AllReadyIn.nil)
  case' pe =>
   go_simp
   refine hK _ _ ?_
   clear hK K
   refine wpAnyIn_ready (rs := [3]) (by kernel_rfl) (by simp) ?_
   refine AllReadyIn.cons rfl (fun K hK => ?_) AllReadyIn.nil
   go_simp
   refine hK _ _ ?_
   clear hK K
  case' pf =>
   go_simp
   refine hK _ _ ?_
   clear hK K
   have y4 : (W3.alloc (.cells #[.slice o1 l1 c1, .slice o2 l2 c2] 39)).cell? ⟨w.heap.size, 0, none⟩ = some (.slice va l.length vc) := ((D0.out.below HB3.out).old _).cell 0
   refine wpAnyIn_ready (rs := [0]) (by kernel_rfl) (by simp) ?_
   refine AllReadyIn.cons rfl (fun K hK => ?_) AllReadyIn.nil
   go_simp
   refine hK _ _ ?_
   clear hK K
  all_goals
   clear y2 y3
   have HM3 := hide (DM.out.below HB3.out)
   obtain ⟨xs, hx1, hx2, hx3⟩ := HM3.out
   have HX1 := hide hx1
   have HX2 : Hid ((∀ b, (Value.slice va l.length vc).ownBlock = some b → R b) ∧ ∀ i f, l[i]? = some f → ∃ va' vc', xs[i * 2]? = some va' ∧ xs[i * 2 + 1]? = some vc' ∧ FormOn (fun b => R b ∧ (Value.slice va l.length vc).ownBlock ≠ some b) W3 va' vc' f) := ⟨hx2, hx3⟩
   clear hx1 hx2 hx3
   have HS3 := hide (HB3.out.size)
   have HvH : Hid (∀ b, (Value.slice va l.length vc).ownBlock = some b → b < W2.heap.size) := by
    obtain ⟨ys, h1, _⟩ := DM.out
    exact fun b e => (h1.lt b e).2
   refine wpAnyIn_ready (rs := [4]) (by kernel_rfl) (by simp) ?_
   refine AllReadyIn.cons rfl (fun K hK => ?_) AllReadyIn.nil
   refine stepIn_form rfl (.tmp 12) (.tmp 15) rfl (w.heap.size + 2) (.slice va l.length vc) rfl l.length xs (.slice o1 l1 c1) (.slice o2 l2 c2) rfl rfl W3.heap.size 1 rfl (HX1.out.alloc _) (heap_alloc_new W3 _) (by have := HS2.out; have := HS3.out; simp; omega) (by have := HLn.out; omega) ?_
   intro v9 W7 hown hgrow hat
   refine hK _ _ ?_
   clear hK K
   obtain ⟨W5, hW5⟩ := nm (W3.alloc (.cells #[.slice o1 l1 c1, .slice o2 l2 c2] 39))
   rw [← hW5] at hgrow
   have hat : v9.ownBlock = (Value.slice va l.length vc).ownBlock ∨ v9.ownBlock = some W5.heap.size := by rw [hW5]; exact hat
   have hb35 : Below W3.heap.size W3 W5 := by rw [hW5]; exact below_alloc1 _ _
   have hb5 : Below W2.heap.size W2 W5 := HB3.out.trans (hb35.mono HB3.out.size)
   have hge : ∀ b, (Value.slice va l.length vc).ownBlock = some b → w.heap.size + 2 ≤ b := fun b e => (HX1.out.lt b e).1
   have hnew : MadeF (fun b => R b ∨ W2.heap.size ≤ b) (w.heap.size + 2) W7 v9 (l ++ [aloneP q]) := by
    refine madeF_more (R := R) (H := W2.heap.size) (W := W5) (fun b h => Or.inl h) (fun b h _ => Or.inr h) HvH.out hb5.size ?_ HX2.out.1 (fun i f hf => ?_) (HF3.out.step hb35.size (fun b _ hl => hb35.block b hl) fun b hb _ => hb) hown hgrow hat
    ·rw [hW5]; exact HX1.out.alloc _
    ·obtain ⟨ua, uc, p0, p1, r⟩ := HX2.out.2 i f hf
     exact ⟨ua, uc, p0, p1, r.step hb35.size (fun b _ hl => hb35.block b hl) fun b hb _ => hb⟩
   have hO7 : OverS R (fun b => b = w.heap.size + 1) wl.heap.size W2 W7 := ⟨Nat.le_trans hb5.size hgrow.size, fun b hb hl hr => by
    rw [hgrow.block b (Nat.lt_of_lt_of_le hl hb5.size) fun e => hr (HX2.out.1 b e.symm)]
    exact hb5.block b hl⟩
   have hB7 : Below w.heap.size w W7 := (HB2.out.trans (hb5.mono HB2.out.size)).grown hgrow (by have := hb5.size; have := HS2.out; omega) fun b e => by have := hge b e; omega
   have hD7 : Blk W7 w.heap.size 34 #[.slice va l.length vc] := by
    have h6 := D0.out.below hb5
    unfold Blk
    rw [hgrow.block _ h6.lt fun e => by have := hge _ e.symm; omega]
    exact h6
   obtain ⟨vo, vn, vx, hv9⟩ : ∃ vo vn vx, v9 = .slice vo vn vx := by
    rcases hown.2 with ⟨rfl, _⟩ | ⟨g, cap, cur, rfl, _⟩
    ·exact ⟨_, _, _, rfl⟩
    ·exact ⟨_, _, _, rfl⟩
   subst hv9
   have H7 : Hid (Below w.heap.size w W7 ∧ Blk W7 w.heap.size 34 #[.slice va l.length vc] ∧ OverS R (fun b => b = w.heap.size + 1) wl.heap.size W2 W7) := ⟨hB7, hD7, hO7⟩
   have HM7 := hide hnew
   clear hown hgrow hat hW5 hb35 hb5 hge hnew hO7 hB7 hD7
   have y7 : W7.cell? ⟨w.heap.size, 0, none⟩ = some (.slice va l.length vc) := H7.out.2.1.cell 0
   have z7 : W7.frozen? ⟨w.heap.size, 0, none⟩ = false := H7.out.2.1.frozen 0
   refine wpAnyIn_ready (rs := [5]) (by kernel_rfl) (by simp) ?_
   refine AllReadyIn.cons rfl (fun K hK => ?_) AllReadyIn.nil
   go_simp
   refine hK _ _ ?_
   clear hK K
   refine wpAnyIn_done (by kernel_rfl) ?_ _
   gi_wp2
   obtain ⟨s0, s1, s2⟩ := H7.out
   have hz := Hsz.out
   have hS := HS2.out
   refine ⟨s2.setCell (by simp; omega) (by simp) _, fun b => R b ∨ W2.heap.size ≤ b, ⟨s0.setCell (Nat.le_refl _) _, fun b h => ?_, _, s1.set 0 _, ?_⟩, fun b h => h⟩
   ·rcases h with h | h
    ·exact HR2.out b h
    ·omega
   ·rw [HTk.out]
    refine HM7.out.keep (fun b hb _ => Below.heap_setCell _ _ _ _ ?_) (by simp [World.setCell])
    have h4 : w.heap.size + 2 ≤ b := by
     rcases hb with h | h
     ·exact HR2.out b h
     ·omega
    simp; omega
 case done =>
  intro D R W hD hDR ⟨hB, hR2, v, c0, hm⟩ hK
  have HD : Hid (w.heap.size + 2 ≤ D) := by unfold Hid; rw [← Hsz.out]; exact hD
  have HK := hide hK
  have HBk := hide hB
  have C0 : Hid (Blk W w.heap.size 34 #[v]) := c0
  have HR2 := hide hR2
  have HDR := hide hDR
  rw [HLl.out, List.take_length] at hm
  have HM := hide hm
  obtain ⟨ao, ac, hv⟩ := hm.slice
  obtain ⟨n, hn⟩ := nm ((ps.map aloneP).length)
  rw [← hn] at hv
  subst hv
  clear hD hB c0 hK hDR hm hR2 hn
  have e0 : W.cell? ⟨w.heap.size, 0, none⟩ = some (.slice ao n ac) := C0.out.cell 0
  gi_wp2
  refine ⟨by simp, .inl ⟨_, _, rfl, run_takeDeferred HK.out, ?_⟩⟩
  have hd := HD.out
  refine ⟨.slice ao n ac, ?res, _, rfl, ?_, HBk.out.trans (below_putS _ _ (by omega))⟩
  case res => exact results_tmp (t := 2) rfl _ _ _
  obtain ⟨xs, h1, h2, h3⟩ := HM.out
  have hR := HR2.out
  have h2' : ∀ b, (Value.slice ao n ac).ownBlock = some b → R b := h2
  have hk : ∀ b, R b → b < W.heap.size → (W.putObj D (.deferred none)).heap[b]? = W.heap[b]? := fun b hb _ => World.putObj_heap_other fun e => HDR.out (e ▸ hb)
  refine ⟨xs, (own_keep h1 fun b e => hk b (h2 b e) (h1.lt b e).2).mono (by omega), fun b e => by have := hR b (h2 b e); show w.heap.size ≤ b; omega, fun i f hf => ?_⟩
  obtain ⟨va, vc, p0, p1, r⟩ := h3 i f hf
  exact ⟨va, vc, p0, p1, r.step (by simp) (fun b hb hl => hk b hb.1 hl) fun b hb _ => ⟨by have := hR b hb.1; omega, hb.2⟩⟩
 case stop => exact fun _ _ _ _ _ h => h.elim
end Go.Proofs.YtjmeakkmfeoigaaGreatDoor
namespace Go.Proofs.YtjmeakkmfeoigaaGreatDoor
open Go.ChangeShapes Go.WideShapes Go.ChangeAt Go.RowKit
set_option maxRecDepth 100000
theorem rec_app (c : UInt8) (l : List UInt8) : (⟨#[c]⟩ : ByteArray) ++ strOf l ++ ⟨#[10]⟩ = strOf (c :: l ++ [10]) := by
 apply strOf_same
 rw [strOf_list]
 simp [ByteArray.data_append, strOf]
set_option maxHeartbeats 4000000 in
theorem logRec_ok (a : At) (h : Bool) (vs vt : Value) (ha : a.fault = 0) (w : World) (hS : Reads w vs a.s) (hT : Reads w vt a.t) (hK : KindsLaid w) (hL : LibLaid w) :
    Calls Tryz.prog 28 #[.agg #[.int .i64 a.k, vs, vt, .int .i64 a.n], .bool h] w (Bk w (.tuple #[.string (strOf (recB (a, h) ++ [10])), .nilIface])) := by
 have HP : Hid (∀ W, Below w.heap.size w W → Calls Tryz.prog 58 #[.agg #[.int .i64 a.k, vs, vt, .int .i64 a.n]] W (Bk W (.tuple #[.string (strOf a.text), .nilIface]))) := fun W hW => by
  have h := aprint_any a.k a.n vs vt a.s a.t W (hS.below hW) (hT.below hW) (hK.below hW) (hL.below hW)
  have e0 : atomFault a.k a.s a.t a.n = 0 := ha
  have e1 : aprintS a.k a.s a.t a.n = strOf a.text := by unfold aprintS; rw [if_pos e0]; rfl
  rw [e0, e1, errV_0] at h
  exact h
 have hl := text_small ha
 obtain ⟨T, hTt⟩ := nm (strOf a.text)
 have HT := hide hTt
 have hz : T.size ≤ 100 := by rw [hTt, strOf_size]; exact hl
 rw [← hTt] at HP
 obtain ⟨R, hR⟩ := nm (strOf (recB (a, h) ++ [10]))
 have HR := hide hR
 rw [← hR]
 obtain ⟨so, sc, rfl, _⟩ := hS.slice
 obtain ⟨tto, tc, rfl, _⟩ := hT.slice
 obtain ⟨w1, hw1⟩ := nm (w.alloc (.cells #[.int .i64 a.k, .slice so a.s.length sc, .slice tto a.t.length tc, .int .i64 a.n] 29))
 have k0 : Blk w1 w.heap.size 29 #[.int .i64 a.k, .slice so a.s.length sc, .slice tto a.t.length tc, .int .i64 a.n] := by rw [hw1]; exact Blk.new _ _ _
 have HB1 : Hid (Below w.heap.size w w1) := by unfold Hid; rw [hw1]; exact below_alloc1 _ _
 have a0 : w1.cell? ⟨w.heap.size, 0, none⟩ = some (.int .i64 a.k) := k0.cell 0
 have a1 : w1.cell? ⟨w.heap.size, 1, none⟩ = some (.slice so a.s.length sc) := k0.cell 1
 have a2 : w1.cell? ⟨w.heap.size, 2, none⟩ = some (.slice tto a.t.length tc) := k0.cell 2
 have a3 : w1.cell? ⟨w.heap.size, 3, none⟩ = some (.int .i64 a.n) := k0.cell 3
 clear k0 hTt hR hl hS hT hK hL ha
 go_enter Tryz.func28, Tryz.ntmps28
 go_upto_region 1 with fail
 rw [← hw1]
 clear hw1
 go_wp2_with fail
 go_at_call 58
 refine (HP.out _ HB1.out).mono ?_
 rintro e w2 ⟨rfl, hb⟩
 have HB2 := hide (HB1.out.trans (hb.mono HB1.out.size))
 clear hb a0 a1 a2 a3
 cases h with
 | true =>
  go_wp2
  go_ret2
  refine ⟨?_, HB2.out⟩
  rw [HR.out, HT.out]
  exact congrArg (fun x => Ending.returned (.tuple #[.string x, .nilIface])) (rec_app 43 a.text)
 | false =>
  go_wp2
  go_ret2
  refine ⟨?_, HB2.out⟩
  rw [HR.out, HT.out]
  exact congrArg (fun x => Ending.returned (.tuple #[.string x, .nilIface])) (rec_app 45 a.text)
set_option maxHeartbeats 4000000 in
theorem logRec_no (a : At) (h : Bool) (vs vt : Value) (ha : ¬ a.fault = 0) (w : World) (hS : Reads w vs a.s) (hT : Reads w vt a.t) (hK : KindsLaid w) (hL : LibLaid w) :
    Calls Tryz.prog 28 #[.agg #[.int .i64 a.k, vs, vt, .int .i64 a.n], .bool h] w (Bk w (.tuple #[.string ⟨#[]⟩, .iface 64 (.int .i64 a.fault)])) := by
 have HP : Hid (∀ W, Below w.heap.size w W → Calls Tryz.prog 58 #[.agg #[.int .i64 a.k, vs, vt, .int .i64 a.n]] W (Bk W (.tuple #[.string ⟨#[]⟩, .iface 64 (.int .i64 a.fault)]))) := fun W hW => by
  have h := aprint_any a.k a.n vs vt a.s a.t W (hS.below hW) (hT.below hW) (hK.below hW) (hL.below hW)
  have e0 : ¬ atomFault a.k a.s a.t a.n = 0 := ha
  have e1 : aprintS a.k a.s a.t a.n = ⟨#[]⟩ := by unfold aprintS; rw [if_neg e0]
  rw [e1, errV_no e0] at h
  exact h
 obtain ⟨F, hF⟩ := nm a.fault
 rw [← hF] at HP ⊢
 obtain ⟨so, sc, rfl, _⟩ := hS.slice
 obtain ⟨tto, tc, rfl, _⟩ := hT.slice
 obtain ⟨w1, hw1⟩ := nm (w.alloc (.cells #[.int .i64 a.k, .slice so a.s.length sc, .slice tto a.t.length tc, .int .i64 a.n] 29))
 have k0 : Blk w1 w.heap.size 29 #[.int .i64 a.k, .slice so a.s.length sc, .slice tto a.t.length tc, .int .i64 a.n] := by rw [hw1]; exact Blk.new _ _ _
 have HB1 : Hid (Below w.heap.size w w1) := by unfold Hid; rw [hw1]; exact below_alloc1 _ _
 have a0 : w1.cell? ⟨w.heap.size, 0, none⟩ = some (.int .i64 a.k) := k0.cell 0
 have a1 : w1.cell? ⟨w.heap.size, 1, none⟩ = some (.slice so a.s.length sc) := k0.cell 1
 have a2 : w1.cell? ⟨w.heap.size, 2, none⟩ = some (.slice tto a.t.length tc) := k0.cell 2
 have a3 : w1.cell? ⟨w.heap.size, 3, none⟩ = some (.int .i64 a.n) := k0.cell 3
 clear k0 hF hS hT hK hL ha
 go_enter Tryz.func28, Tryz.ntmps28
 go_upto_region 1 with fail
 rw [← hw1]
 clear hw1
 go_wp2_with fail
 go_at_call 58
 refine (HP.out _ HB1.out).mono ?_
 rintro e w2 ⟨rfl, hb⟩
 have HB2 := hide (HB1.out.trans (hb.mono HB1.out.size))
 clear hb a0 a1 a2 a3
 go_wp2
 go_ret2
 exact ⟨rfl, HB2.out⟩
set_option maxHeartbeats 4000000 in
theorem logOpen_any (v : Value) (fs : List Fm) (u : Int) (hu : 0 ≤ u ∧ u ≤ 6) (h6 : fs.length ≤ 6) (hf : ∀ f ∈ fs, f.fault = 0) (w : World) (hF : ReadsF w v fs) (hK : KindsLaid w) :
    Calls Tryz.prog 29 #[v, .int .i64 u] w (Bk w (.bool (openN fs u.toNat))) := by
 have hO := coreOpen_any v fs u w hF hK
 obtain ⟨lo, lcap, rfl, _⟩ := hF.slice
 by_cases h0 : fs.length = 0
 ·have e : fs = [] := List.eq_nil_of_length_eq_zero h0
  subst e
  have e1 : openN [] u.toNat = true := open_nil _
  rw [e1]
  clear e1 hO hF hK h6 hf hu h0
  go_enter Tryz.func29, Tryz.ntmps29
  go_wp2
  go_ret
  exact ⟨rfl, Below.refl _ _⟩
 ·have e0 : formsFault fs u = 0 := forms_zero.2 ⟨⟨by omega, h6⟩, hf, hu⟩
  have e1 : openB fs u = openN fs u.toNat := by unfold openB; rw [if_pos e0]
  rw [e0, e1, errV_0] at hO
  have HO := hide hO
  obtain ⟨q, hq⟩ := nm (openN fs u.toNat)
  obtain ⟨n, hn⟩ := nm fs.length
  rw [← hq, ← hn] at HO
  rw [← hq, ← hn]
  have dz : ((n : Int) == 0) = false := by simp; omega
  clear hO e0 e1 hq hn hF hK h6 hf hu h0
  go_enter Tryz.func29, Tryz.ntmps29
  go_wp2_with fail
  go_at_call 59
  refine HO.out.mono ?_
  rintro e w1 ⟨rfl, hb⟩
  have HB := hide hb
  clear hb
  cases q with
  | true =>
   go_wp2
   go_ret
   exact ⟨rfl, HB.out⟩
  | false =>
   go_wp2
   go_ret
   exact ⟨rfl, HB.out⟩
end Go.Proofs.YtjmeakkmfeoigaaGreatDoor
namespace Go.Proofs.YtjmeakkmfeoigaaGreatDoor
open Go.ChangeShapes Go.WideShapes Go.ChangeAt Go.RowKit
set_option maxRecDepth 100000
theorem alone_all {ps : List (At × Bool)} (hps : ∀ q ∈ ps, q.1.fault = 0) : ∀ f ∈ ps.map aloneP, f.fault = 0 := fun f hf => by
 obtain ⟨q, hq, rfl⟩ := List.mem_map.1 hf
 exact alone_right (hps q hq) q.2
set_option maxHeartbeats 4000000 in
theorem logOpenM_any (ps : List (At × Bool)) (hps : ∀ q ∈ ps, q.1.fault = 0) (h6 : ps.length ≤ 6) (tail : List UInt8) (ht : plainC 10 tail = true) (ht2 : tail.length ≤ 200) (b : Nat) (u sf z : Int) (hu : 0 ≤ u ∧ u ≤ 6) (st : Bool) (w : World)
    (hB : Blk w b 63 (lgC u (strOf (linesT (ps.map recB) ++ tail)) sf z st)) (hK : KindsLaid w) (hLb : LibLaid w) :
    Calls Tryz.prog 17 #[.pointer (some ⟨b, 0, none⟩)] w (Bk w (.bool (openN (ps.map aloneP) u.toNat))) := by
 have HB : Hid (Blk w b 63 (lgC u (strOf (linesT (ps.map recB) ++ tail)) sf z st)) := hB
 have HQa : Hid (∀ W, Below w.heap.size w W → Calls Tryz.prog 13 #[.pointer (some ⟨b, 0, none⟩)] W fun e w' => ∃ o l c, e = .returned (.slice o l c) ∧ Hid (∀ X, Below w'.heap.size w' X → ReadsF X (.slice o l c) (ps.map aloneP)) ∧ Hid (Below w.heap.size w w') ∧ w'.cell? ⟨b, 0, none⟩ = some (.int .i64 u)) := fun W hW =>
  (logAll_any ps hps h6 tail ht ht2 b u sf z st W (HB.out.below hW) (hK.below hW) (hLb.below hW)).mono fun e w' ⟨v, h1, h2, h3⟩ => by
   obtain ⟨ao, c, rfl⟩ := h2.slice
   exact ⟨ao, _, c, h1, fun X hX => h2.reads.below hX, hW.trans (h3.mono hW.size), (HB.out.below (hW.trans (h3.mono hW.size))).cell 0⟩
 have HQo : Hid (∀ v W, Below w.heap.size w W → ReadsF W v (ps.map aloneP) → Calls Tryz.prog 29 #[v, .int .i64 u] W fun e w' => e = .returned (.bool (openN (ps.map aloneP) u.toNat)) ∧ Hid (Below w.heap.size w w') ∧ w'.cell? ⟨b, 0, none⟩ = some (.int .i64 u)) := fun v W hW hv =>
  (logOpen_any v _ u hu (by rw [List.length_map]; exact h6) (alone_all hps) W hv (hK.below hW)).mono fun e w' ⟨h1, h3⟩ => ⟨h1, hW.trans (h3.mono hW.size), (HB.out.below (hW.trans (h3.mono hW.size))).cell 0⟩
 have HD0 : Hid (Below w.heap.size w w.drew) := (Below.refl _ _).drew
 have c0 : w.cell? ⟨b, 0, none⟩ = some (.int .i64 u) := hB.cell 0
 clear hB hK hLb hps h6 ht ht2 hu
 obtain ⟨q, hq⟩ := nm (openN (ps.map aloneP) u.toNat)
 rw [← hq] at HQo ⊢
 obtain ⟨fs, hfs⟩ := nm (ps.map aloneP)
 rw [← hfs] at HQa HQo
 clear hq hfs
 go_enter Tryz.func17, Tryz.ntmps17
 go_upto_region 1 with fail
 go_region_held3 (fun w' => w'.cell? ⟨b, 0, none⟩ = some (.int .i64 u)) (go_keep)
  (first | (go_at_call 13; refine (HQa.out _ ?_).mono ?_; (first | (with_reducible exact HD0.out) | (with_reducible exact Below.refl _ _)); rintro e w50 ⟨o50, l50, k50, rfl, hv50, hb50, c50⟩) | (go_at_call 29; refine (HQo.out _ _ ?_ ?_).mono ?_; (first | (with_reducible exact Hid.out hb50) | (with_reducible exact Below.drew (Hid.out hb50))); (first | (with_reducible exact Hid.out hv50 _ (Below.refl _ _)) | (with_reducible exact Hid.out hv50 _ (Below.drew (Below.refl _ _)))); rintro e w51 ⟨rfl, hb51, c51⟩))
 all_goals (try go_wp2)
 all_goals go_ret
 all_goals exact ⟨rfl, hb51.out⟩
end Go.Proofs.YtjmeakkmfeoigaaGreatDoor
namespace Go.Proofs.YtjmeakkmfeoigaaGreatDoor
open Go.ChangeShapes Go.WideShapes Go.ChangeAt Go.RowKit
set_option maxRecDepth 100000
set_option maxHeartbeats 4000000 in
theorem logSay_off (b : Nat) (u sf z : Int) (r : ByteArray) (k n : Int) (so : Option Addr) (sl sc : Nat) (tto : Option Addr) (tl tc : Nat) (h : Bool) (w : World) (hB : Blk w b 63 (lgC u r sf z true)) :
    Calls Tryz.prog 9 #[.pointer (some ⟨b, 0, none⟩), .agg #[.int .i64 k, .slice so sl sc, .slice tto tl tc, .int .i64 n], .bool h] w (Bk w (.iface 64 (.int .i64 6))) := by
 obtain ⟨w1, hw1⟩ := nm (w.alloc (.cells #[.int .i64 k, .slice so sl sc, .slice tto tl tc, .int .i64 n] 29))
 have b1 : Below w.heap.size w w1 := by rw [hw1]; exact below_alloc1 _ _
 have HB1 := hide b1
 have c4 : w1.cell? ⟨b, 4, none⟩ = some (.bool true) := (hB.below b1).cell 4
 clear hB b1
 go_enter Tryz.func9, Tryz.ntmps9
 go_upto_region 1 with fail
 rw [← hw1]
 clear hw1
 go_wp2
 go_ret
 exact ⟨rfl, HB1.out⟩
set_option maxHeartbeats 4000000 in
theorem logSay_no (b : Nat) (u sf z : Int) (r : ByteArray) (a : At) (h : Bool) (vs vt : Value) (ha : ¬ a.fault = 0) (w : World) (hB : Blk w b 63 (lgC u r sf z false)) (hS : Reads w vs a.s) (hT : Reads w vt a.t) (hK : KindsLaid w) (hL : LibLaid w) :
    Calls Tryz.prog 9 #[.pointer (some ⟨b, 0, none⟩), .agg #[.int .i64 a.k, vs, vt, .int .i64 a.n], .bool h] w (Bk w (.iface 64 (.int .i64 a.fault))) := by
 have HR : Hid (∀ W, Below w.heap.size w W → Calls Tryz.prog 28 #[.agg #[.int .i64 a.k, vs, vt, .int .i64 a.n], .bool h] W (Bk W (.tuple #[.string ⟨#[]⟩, .iface 64 (.int .i64 a.fault)]))) := fun W hW => logRec_no a h vs vt ha W (hS.below hW) (hT.below hW) (hK.below hW) (hL.below hW)
 obtain ⟨so, sc, rfl, _⟩ := hS.slice
 obtain ⟨tto, tc, rfl, _⟩ := hT.slice
 obtain ⟨F, hF⟩ := nm a.fault
 rw [← hF] at HR ⊢
 obtain ⟨w1, hw1⟩ := nm (w.alloc (.cells #[.int .i64 a.k, .slice so a.s.length sc, .slice tto a.t.length tc, .int .i64 a.n] 29))
 have b1 : Below w.heap.size w w1 := by rw [hw1]; exact below_alloc1 _ _
 have k0 : Blk w1 w.heap.size 29 #[.int .i64 a.k, .slice so a.s.length sc, .slice tto a.t.length tc, .int .i64 a.n] := by rw [hw1]; exact Blk.new _ _ _
 have HB1 := hide b1
 have c4 : w1.cell? ⟨b, 4, none⟩ = some (.bool false) := (hB.below b1).cell 4
 have a0 : w1.cell? ⟨w.heap.size, 0, none⟩ = some (.int .i64 a.k) := k0.cell 0
 have a1 : w1.cell? ⟨w.heap.size, 1, none⟩ = some (.slice so a.s.length sc) := k0.cell 1
 have a2 : w1.cell? ⟨w.heap.size, 2, none⟩ = some (.slice tto a.t.length tc) := k0.cell 2
 have a3 : w1.cell? ⟨w.heap.size, 3, none⟩ = some (.int .i64 a.n) := k0.cell 3
 clear hB b1 k0 hS hT hK hL ha hF
 go_enter Tryz.func9, Tryz.ntmps9
 go_upto_region 1 with fail
 rw [← hw1]
 clear hw1
 go_wp2_with fail
 go_at_call 28
 refine (HR.out _ HB1.out).mono ?_
 rintro e w2 ⟨rfl, hb⟩
 have HB2 := hide (HB1.out.trans (hb.mono HB1.out.size))
 clear hb a0 a1 a2 a3 c4
 go_wp2
 go_ret
 exact ⟨rfl, HB2.out⟩
def SaidE (ps : List (At × Bool)) (q : At × Bool) (b : Nat) (u sf z : Int) (e : Ending) (w' : World) : Prop :=
 (6 ≤ ps.length ∧ e = .returned (.iface 64 (.int .i64 4)) ∧ Blk w' b 63 (lgC u (strOf (linesT (ps.map recB) ++ [])) sf z false)) ∨
 (¬ 6 ≤ ps.length ∧ openN ((ps ++ [q]).map aloneP) u.toNat = false ∧ e = .returned (.iface 64 (.int .i64 7)) ∧ Blk w' b 63 (lgC u (strOf (linesT (ps.map recB) ++ [])) sf z false)) ∨
 (¬ 6 ≤ ps.length ∧ openN ((ps ++ [q]).map aloneP) u.toNat = true ∧ z = 0 ∧ e = .returned (.iface 64 (.int .i64 6)) ∧ Blk w' b 63 (lgC u (strOf (linesT (ps.map recB) ++ (recB q ++ [10]).take ((recB q ++ [10]).length / 2))) sf z true)) ∨
 (¬ 6 ≤ ps.length ∧ openN ((ps ++ [q]).map aloneP) u.toNat = true ∧ ¬ z = 0 ∧ e = .returned .nilIface ∧ Blk w' b 63 (lgC u (strOf (linesT ((ps ++ [q]).map recB) ++ [])) sf (stepZ z) false))
theorem madeF_next {K : Nat} {w3 w5 w6 : World} {v v' : Value} {l : List Fm} {f : Fm} {xs : List Value} {va vc : Value} (o : Obj) (hK : K ≤ w3.heap.size)
    (own : w3.ownsRow K 39 2 v l.length xs) (h2 : ∀ b, v.ownBlock = some b → K ≤ b) (h3 : ∀ i f, l[i]? = some f → ∃ va vc, xs[i * 2]? = some va ∧ xs[i * 2 + 1]? = some vc ∧ FormOn (fun b => K ≤ b ∧ v.ownBlock ≠ some b) w3 va vc f)
    (hb : Below w3.heap.size w3 w5) (hf : FormOn (fun b => w3.heap.size ≤ b) w5 va vc f)
    (own' : w6.ownsRow K 39 2 v' (l.length + 1) (xs ++ [va, vc])) (hg : (w5.alloc o).grownBy w6 v.ownBlock) (hat : v'.ownBlock = v.ownBlock ∨ v'.ownBlock = some (w5.heap.size + 1)) : MadeF (fun b => K ≤ b) K w6 v' (l ++ [f]) := by
 have hb5 : Below w3.heap.size w3 (w5.alloc o) := hb.alloc hb.size _
 have hb55 : Below w5.heap.size w5 (w5.alloc o) := (Below.refl _ _).alloc (Nat.le_refl _) _
 refine madeF_more (R := fun b => K ≤ b) (H := w3.heap.size) (W := w5.alloc o) (fun b h => h) (fun b h _ => Nat.le_trans hK h) (fun b e => (own.lt b e).2) hb5.size ?_ h2 (fun i f hi => ?_) (hf.step hb55.size (fun b _ hl => hb55.block b hl) fun b hb _ => hb) own' hg ?_
 ·exact own_keep own fun b e => hb5.block b (own.lt b e).2
 ·obtain ⟨ua, uc, p0, p1, r⟩ := h3 i f hi
  exact ⟨ua, uc, p0, p1, r.step hb5.size (fun b _ hl => hb5.block b hl) fun b hb _ => hb⟩
 ·rw [World.size_alloc]; exact hat
set_option maxHeartbeats 8000000 in
theorem logSay_go (ps : List (At × Bool)) (hps : ∀ q ∈ ps, q.1.fault = 0) (h6 : ps.length ≤ 6) (a : At) (h : Bool) (vs vt : Value) (ha : a.fault = 0) (b : Nat) (u sf z : Int) (hu : 0 ≤ u ∧ u ≤ 6) (w : World)
    (hB : Blk w b 63 (lgC u (strOf (linesT (ps.map recB) ++ [])) sf z false)) (hS : Reads w vs a.s) (hT : Reads w vt a.t) (hK : KindsLaid w) (hL : LibLaid w) :
    Calls Tryz.prog 9 #[.pointer (some ⟨b, 0, none⟩), .agg #[.int .i64 a.k, vs, vt, .int .i64 a.n], .bool h] w fun e w' => SaidE ps (a, h) b u sf z e w' ∧ LKeep (fun x => x = b) w w' := by
 have HB : Hid (Blk w b 63 (lgC u (strOf (linesT (ps.map recB) ++ [])) sf z false)) := hB
 have hsm := recs_small hps
 have hrs := rec_small (q := (a, h)) ha
 have HR : Hid (∀ W, Below w.heap.size w W → Calls Tryz.prog 28 #[.agg #[.int .i64 a.k, vs, vt, .int .i64 a.n], .bool h] W (Bk W (.tuple #[.string (strOf (recB (a, h) ++ [10])), .nilIface]))) := fun W hW => logRec_ok a h vs vt ha W (hS.below hW) (hT.below hW) (hK.below hW) (hL.below hW)
 have HAl : Hid (∀ W, Below w.heap.size w W → Calls Tryz.prog 13 #[.pointer (some ⟨b, 0, none⟩)] W fun e w' => ∃ v, e = .returned v ∧ MadeF (fun x => W.heap.size ≤ x) W.heap.size w' v (ps.map aloneP) ∧ Below W.heap.size W w') := fun W hW => logAll_any ps hps h6 [] rfl (by simp) b u sf z false W (HB.out.below hW) (hK.below hW) (hL.below hW)
 have HRd : Hid (∀ W, Below w.heap.size w W → Calls Tryz.prog 30 #[.string (strOf (recB (a, h) ++ [10]))] W fun e w' => ∃ o1 l1 c1 o2 l2 c2, e = .returned (.agg #[.slice o1 l1 c1, .slice o2 l2 c2]) ∧ FormOn (fun b => W.heap.size ≤ b) w' (.slice o1 l1 c1) (.slice o2 l2 c2) (aloneP (a, h)) ∧ Below W.heap.size W w') := fun W hW => logRead_any a h ha W (hK.below hW) (hL.below hW)
 have hall : ∀ q ∈ ps ++ [(a, h)], q.1.fault = 0 := fun q hq => by
  rcases List.mem_append.1 hq with hq | hq
  ·exact hps q hq
  ·obtain rfl : q = (a, h) := by simpa using hq
   exact ha
 have HOp : Hid (¬ 6 ≤ ps.length → ∀ v W, Below w.heap.size w W → ReadsF W v ((ps ++ [(a, h)]).map aloneP) → Calls Tryz.prog 29 #[v, .int .i64 u] W (Bk W (.bool (openN ((ps ++ [(a, h)]).map aloneP) u.toNat)))) := fun h7 v W hW hv => logOpen_any v _ u hu (by rw [List.length_map, List.length_append, List.length_singleton]; omega) (alone_all hall) W hv (hK.below hW)
 have HMa : Hid ((ps ++ [(a, h)]).map aloneP = ps.map aloneP ++ [aloneP (a, h)]) := by unfold Hid; rw [List.map_append]; rfl
 obtain ⟨T, hTt⟩ := nm (strOf (recB (a, h) ++ [10]))
 have HTt := hide hTt
 have hTn : T.size = (recB (a, h) ++ [10]).length := by rw [hTt]; exact strOf_size _
 have HTn := hide hTn
 have hTz : T.size ≤ 102 := by rw [hTn, List.length_append]; simp; omega
 obtain ⟨r, hr⟩ := nm (strOf (linesT (ps.map recB) ++ []))
 have HRr := hide hr
 have hrz : r.size ≤ 612 := by rw [hr, strOf_size]; simp; omega
 rw [← hTt] at HR HRd
 rw [← hr] at HB
 obtain ⟨so, sc, rfl, _⟩ := hS.slice
 obtain ⟨tto, tc, rfl, _⟩ := hT.slice
 obtain ⟨w1, hw1⟩ := nm (w.alloc (.cells #[.int .i64 a.k, .slice so a.s.length sc, .slice tto a.t.length tc, .int .i64 a.n] 29))
 have b1 : Below w.heap.size w w1 := by rw [hw1]; exact below_alloc1 _ _
 have k0 : Blk w1 w.heap.size 29 #[.int .i64 a.k, .slice so a.s.length sc, .slice tto a.t.length tc, .int .i64 a.n] := by rw [hw1]; exact Blk.new _ _ _
 have HB1 := hide b1
 have c4 : w1.cell? ⟨b, 4, none⟩ = some (.bool false) := (HB.out.below b1).cell 4
 have a0 : w1.cell? ⟨w.heap.size, 0, none⟩ = some (.int .i64 a.k) := k0.cell 0
 have a1 : w1.cell? ⟨w.heap.size, 1, none⟩ = some (.slice so a.s.length sc) := k0.cell 1
 have a2 : w1.cell? ⟨w.heap.size, 2, none⟩ = some (.slice tto a.t.length tc) := k0.cell 2
 have a3 : w1.cell? ⟨w.heap.size, 3, none⟩ = some (.int .i64 a.n) := k0.cell 3
 clear hB b1 k0 hS hT hK hL ha hTt hr hall hsm hrs hps hu hTn
 go_enter Tryz.func9, Tryz.ntmps9
 go_upto_region 1 with fail
 rw [← hw1]
 clear hw1
 go_wp2_with fail
 go_at_call 28
 refine (HR.out _ HB1.out).mono ?_
 rintro e w2 ⟨rfl, hb⟩
 have HB2 := hide (HB1.out.trans (hb.mono HB1.out.size))
 clear hb a0 a1 a2 a3 c4
 go_wp2_with fail
 go_at_call 13
 refine (HAl.out _ HB2.out).mono ?_
 rintro e w3 ⟨v, rfl, hm, hb⟩
 have HB3 := hide (HB2.out.trans (hb.mono HB2.out.size))
 have HM3 := hide hm
 have HK3 := hide (hb.size)
 obtain ⟨ao, ac, hv⟩ := hm.slice
 obtain ⟨n, hn⟩ := nm ps.length
 have HN := hide hn
 rw [List.length_map, ← hn] at hv
 rw [← hn] at HOp h6
 subst hv
 have HBl3 := hide (HB.out.below HB3.out)
 clear hb hm hn
 by_cases h7 : 6 ≤ n
 ·have h7' : (6 : Int) ≤ (n : Int) := by omega
  go_wp2
  go_ret
  exact ⟨Or.inl ⟨by rw [← HN.out]; exact h7, rfl, by rw [← HRr.out]; exact HBl3.out⟩, LKeep.of_below HB3.out⟩
 ·have h7' : (n : Int) < 6 := by omega
  have h7n : ¬ (6 : Int) ≤ (n : Int) := by omega
  have HOp7 := hide (HOp.out h7)
  have H7 := hide h7
  clear HOp h6
  obtain ⟨q, hq⟩ := nm (openN ((ps ++ [(a, h)]).map aloneP) u.toNat)
  have HQ := hide hq
  rw [← hq] at HOp7
  clear hq h7
  obtain ⟨xs, hx1, hx2, hx3⟩ := HM3.out
  have hl3 : (ps.map aloneP).length = n := by rw [List.length_map]; exact HN.out.symm
  have HX1 : Hid (w3.ownsRow w2.heap.size 39 2 (.slice ao n ac) n xs) := by unfold Hid; rw [← hl3]; rw [hl3]; rw [hl3] at hx1; exact hx1
  have HX3 : Hid (∀ w5 w6 v' va vc o, Below w3.heap.size w3 w5 → FormOn (fun b => w3.heap.size ≤ b) w5 va vc (aloneP (a, h)) → w6.ownsRow w2.heap.size 39 2 v' (n + 1) (xs ++ [va, vc]) → (w5.alloc o).grownBy w6 (Value.slice ao n ac).ownBlock → (v'.ownBlock = (Value.slice ao n ac).ownBlock ∨ v'.ownBlock = some (w5.heap.size + 1)) → ReadsF w6 v' ((ps ++ [(a, h)]).map aloneP)) := fun w5 w6 v' va vc o h1 h2 h3 h4 h5 => by
   rw [HMa.out]
   rw [← hl3] at h3
   exact (madeF_next o HK3.out hx1 hx2 hx3 h1 h2 h3 h4 h5).reads
  have HXb : Hid (∀ b, (Value.slice ao n ac).ownBlock = some b → w2.heap.size ≤ b) := fun b e => (hx1.lt b e).1
  clear hx1 hx2 hx3 hl3 HM3
  obtain ⟨i0, hi⟩ : ∃ i, Tryz.prog.info? 39 = some i := Option.isSome_iff_exists.1 infoFm
  have hz0 : i0.zero = some (.agg #[.slice none 0 0, .slice none 0 0]) := by have := zeroFm; rw [hi] at this; simpa using this
  have hz1 : i0.size = 2 := by have := sizeFm; rw [hi] at this; simpa using this
  have hz2 : i0.bytes = 48 := by have := bytesFm; rw [hi] at this; simpa using this
  have HQr : Hid (∀ W, Below w3.heap.size w3 W → W.heap.size = w3.heap.size → Calls Tryz.prog 30 #[.string T] W fun e w' => ∃ o1 l1 c1 o2 l2 c2, e = .returned (.agg #[.slice o1 l1 c1, .slice o2 l2 c2]) ∧ Hid (FormOn (fun b => w3.heap.size ≤ b) w' (.slice o1 l1 c1) (.slice o2 l2 c2) (aloneP (a, h))) ∧ Hid (Below w3.heap.size w3 w') ∧ w'.cell? ⟨b, 0, none⟩ = some (.int .i64 u)) := fun W hW hs =>
   (HRd.out W (HB3.out.trans (hW.mono HB3.out.size))).mono fun e w' ⟨o1, l1, c1, o2, l2, c2, h1, h2, h3⟩ => ⟨o1, l1, c1, o2, l2, c2, h1, by rw [hs] at h2; exact h2, hW.trans (h3.mono hW.size), (HBl3.out.below (hW.trans (h3.mono hW.size))).cell 0⟩
  have HQo : Hid (∀ v W, Below w.heap.size w W → ReadsF W v ((ps ++ [(a, h)]).map aloneP) → Calls Tryz.prog 29 #[v, .int .i64 u] W fun e w' => e = .returned (.bool q) ∧ Hid (Below w.heap.size w w') ∧ w'.cell? ⟨b, 0, none⟩ = some (.int .i64 u)) := fun v W hW hv =>
   (HOp7.out v W hW hv).mono fun e w' ⟨h1, h3⟩ => ⟨h1, hW.trans (h3.mono hW.size), (HB.out.below (hW.trans (h3.mono hW.size))).cell 0⟩
  have HD0 : Hid (Below w3.heap.size w3 w3.drew) := (Below.refl _ _).drew
  have HGb : Hid (∀ w5 o w6, Below w3.heap.size w3 w5 → (w5.alloc o).grownBy w6 (Value.slice ao n ac).ownBlock → Below w.heap.size w w6) := fun w5 o w6 h5 h6 => by
   have hb := HB3.out.trans (h5.mono HB3.out.size)
   refine (hb.alloc hb.size _).grown h6 (by have := hb.size; simp; omega) fun b e => ?_
   have h1 := HXb.out b e
   have h2 := HB2.out.size
   omega
  have c0 : w3.cell? ⟨b, 0, none⟩ = some (.int .i64 u) := HBl3.out.cell 0
  have hn6 : n ≤ 5 := by have := H7.out; omega
  go_upto_region 9 with fail
  go_cut [40] from 30 to 40 (fun x wx => x = .bool (!q) ∧ Below w.heap.size w wx)
  case first =>
   go_region_held3 (fun w' => w'.cell? ⟨b, 0, none⟩ = some (.int .i64 u)) (go_keep)
    (first
     | (go_at_call 30; refine (HQr.out _ ?_ ?_).mono ?_; (first | (with_reducible exact HD0.out) | (with_reducible exact Below.refl _ _)); (first | rfl | simp); rintro e w5 ⟨o1, l1, c1, o2, l2, c2, rfl, hf5, hb5, c5⟩)
     | (refine step_append_lies _ (by rfl) _ _ _ (by rfl) w2.heap.size 39 i0 (.agg #[.slice none 0 0, .slice none 0 0]) 2 48 Tryz.underlying34 hi hz0 hz1 hz2 rfl (by decide) (.slice ao n ac) n xs (by rfl) ((own_keep HX1.out fun b e => hb5.out.block b (HX1.out.lt b e).2).alloc _) ⟨w5.heap.size, 0, none⟩ 1 1 [.slice o1 l1 c1, .slice o2 l2 c2] (by rfl) (by rfl) (World.news_of_block (cs := #[.slice o1 l1 c1, .slice o2 l2 c2]) (t := 39) (fr := (0, 0)) (heap_alloc_new w5 _)) (by simp [Value.oneCell']) (by omega) (by unfold maxLen; omega) (by omega) (by have := HK3.out; have := hb5.out.size; simp; omega) (w5.heap.size + 1) (by simp) ?_; intro gg cap1 w6 hown1 hgrow hat hlt1; have hb6 : Hid (Below w.heap.size w w6) := HGb.out _ _ _ hb5.out hgrow; have hr6 : Hid (ReadsF w6 (.slice (some ⟨gg, 0, none⟩) (n + 1) cap1) ((ps ++ [(a, h)]).map aloneP)) := HX3.out w5 w6 _ _ _ _ hb5.out hf5.out hown1 hgrow (by rcases hat with h | h; exact Or.inl h.symm; exact Or.inr (by rw [h]; rfl)); have c6 : w6.cell? ⟨b, 0, none⟩ = some (.int .i64 u) := (HB.out.below hb6.out).cell 0; clear hown1 hgrow hat hlt1)
     | (go_at_call 29; refine (HQo.out _ _ ?_ ?_).mono ?_; (first | (with_reducible exact Hid.out hb6) | (with_reducible exact Below.drew (Hid.out hb6))); (first | (with_reducible exact Hid.out hr6)); rintro e w7 ⟨rfl, hb7, c7⟩))
   all_goals (try go_wp2)
   all_goals go_meet
   all_goals exact ⟨rfl, hb7.out⟩
  case rest =>
  obtain ⟨rfl, hb⟩ := hcut
  obtain ⟨w8, hw8⟩ := nm wc
  rw [← hw8] at hb ⊢
  clear hw8
  have HB8 : Hid (LKeep (fun x => x = b) w w8) := LKeep.of_below hb
  have HBl8 := hide (HB.out.below hb)
  have H7p : Hid (¬ 6 ≤ ps.length) := by unfold Hid; rw [← HN.out]; exact H7.out
  clear hb c0 hi hz0 hz1 hz2 HQr HQo HX1 HX3 HXb HGb HD0 HOp7 HBl3 HAl HRd HR HMa HB1 HB2 HB3 HK3 h7' h7n hn6
  cases q with
  | false =>
   go_wp2
   go_ret
   exact ⟨Or.inr (Or.inl ⟨H7p.out, HQ.out.symm, rfl, by rw [← HRr.out]; exact HBl8.out⟩), HB8.out⟩
  | true =>
   have HSt : Hid (Calls Tryz.prog 31 #[.pointer (some ⟨b, 0, none⟩)] w8 fun e w' => e = .returned (.bool (decide (z = 0))) ∧ Blk w' b 63 (lgC u r sf (stepZ z) (decide (z = 0))) ∧ LKeep (fun x => x = b) w8 w') := logStops_any b u sf z r w8 HBl8.out
   have hrz' : (r.size : Int) ≤ 612 := by omega
   have hTz' : (T.size : Int) ≤ 102 := by omega
   by_cases h0 : z = 0
   ·have e0 : decide (z = 0) = true := decide_eq_true h0
    have es : stepZ z = z := by unfold stepZ; rw [if_neg (by omega)]
    rw [e0, es] at HSt
    have HZ := hide h0
    clear e0 es h0
    go_wp2_with fail
    go_at_call 31
    refine HSt.out.mono ?_
    rintro e w9 ⟨rfl, h1, h2⟩
    have H1 : Hid (Blk w9 b 63 (lgC u r sf z true)) := h1
    have H2 : Hid (LKeep (fun x => x = b) w w9) := HB8.out.trans (Grows.refl _ _) h2
    have c1 : w9.drew.cell? ⟨b, 1, none⟩ = some (.string r) := h1.cell 1
    have f1 : w9.drew.frozen? ⟨b, 1, none⟩ = false := h1.frozen 1
    clear h1 h2 HSt
    go_upto_region 12 with fail
    go_region
    all_goals go_wp2
    all_goals go_ret
    all_goals refine ⟨Or.inr (Or.inr (Or.inl ⟨H7p.out, HQ.out.symm, HZ.out, rfl, ?_⟩)), lkeep_drew (lkeep_set H2.out 1 _)⟩
    all_goals have e1 : T.extract 0 (T.size / 2) = strOf ((recB (a, h) ++ [10]).take ((recB (a, h) ++ [10]).length / 2)) := by rw [HTn.out, HTt.out, strOf_take]
    all_goals have e : strOf (linesT (ps.map recB) ++ (recB (a, h) ++ [10]).take ((recB (a, h) ++ [10]).length / 2)) = r ++ T.extract 0 (T.size / 2) := strOf_same (by rw [e1, ByteArray.data_append, Array.toList_append, strOf_list, HRr.out, strOf_list, strOf_list, List.append_nil])
    all_goals rw [e]
    all_goals exact (H1.out.set 1 _).drew
   ·have e0 : decide (z = 0) = false := decide_eq_false h0
    rw [e0] at HSt
    have HZ := hide h0
    clear e0 h0
    go_wp2_with fail
    go_at_call 31
    refine HSt.out.mono ?_
    rintro e w9 ⟨rfl, h1, h2⟩
    have H1 : Hid (Blk w9 b 63 (lgC u r sf (stepZ z) false)) := h1
    have H2 : Hid (LKeep (fun x => x = b) w w9) := HB8.out.trans (Grows.refl _ _) h2
    have c1 : w9.cell? ⟨b, 1, none⟩ = some (.string r) := h1.cell 1
    have f1 : w9.frozen? ⟨b, 1, none⟩ = false := h1.frozen 1
    clear h1 h2 HSt
    go_wp2
    go_ret
    refine ⟨Or.inr (Or.inr (Or.inr ⟨H7p.out, HQ.out.symm, HZ.out, rfl, ?_⟩)), lkeep_set H2.out 1 _⟩
    have e : strOf (linesT ((ps ++ [(a, h)]).map recB) ++ []) = r ++ T := by
     apply strOf_same
     rw [ByteArray.data_append, Array.toList_append, strOf_list, HRr.out, HTt.out, strOf_list, strOf_list, List.map_append, linesT_app]
     simp [linesT]
    rw [e]
    exact H1.out.set 1 _
end Go.Proofs.YtjmeakkmfeoigaaGreatDoor
namespace Go.Proofs.YtjmeakkmfeoigaaGreatDoor
open Go.ChangeShapes Go.WideShapes Go.ChangeAt Go.RowKit
set_option maxRecDepth 100000
set_option maxHeartbeats 4000000 in
theorem logCrash_any (b : Nat) (u z keep : Int) (s k : Nat) (r T : ByteArray) (st : Bool) (w : World) (h : Blk w b 63 (lgC u r (s : Int) z st)) (hsr : s ≤ r.size) (hr : r.size ≤ 1000000)
    (hk : (k : Int) = if keep < 0 then 0 else if keep < (r.size : Int) - (s : Int) then keep else (r.size : Int) - (s : Int)) (hT : T.size ≤ 1000000)
    (hW : ∀ W, Calls Tryz.prog 33 #[.string (r.extract 0 (s + k))] W (Sk W (.string T))) :
    Calls Tryz.prog 12 #[.pointer (some ⟨b, 0, none⟩), .int .i64 keep] w fun e w' => (∃ v, e = .returned v) ∧ Blk w' b 63 (lgC u T (T.size : Int) (-1) false) ∧ LKeep (fun x => x = b) w w' := by
 have HB : Hid (Blk w b 63 (lgC u r (s : Int) z st)) := h
 have HW : Hid (∀ (m : Nat) W, m = s + k → Calls Tryz.prog 33 #[.string (r.extract 0 m)] W (Sk W (.string T))) := fun m W h => by rw [h]; exact hW W
 have c1 : w.drew.cell? ⟨b, 1, none⟩ = some (.string r) := h.cell 1
 have c2 : w.drew.cell? ⟨b, 2, none⟩ = some (.int .i64 (s : Int)) := h.cell 2
 have d1 : w.cell? ⟨b, 1, none⟩ = some (.string r) := h.cell 1
 have d2 : w.cell? ⟨b, 2, none⟩ = some (.int .i64 (s : Int)) := h.cell 2
 clear h hW
 go_enter Tryz.func12, Tryz.ntmps12
 have hkn : (s : Int) + (k : Int) ≤ (r.size : Int) := by
  have : (s : Int) ≤ (r.size : Int) := by omega
  rw [hk]; split
  ·omega
  ·split <;> omega
 have HMin : Hid (min (max keep 0) ((r.size : Int) - (s : Int)) = (k : Int)) := by
  unfold Hid
  have : (s : Int) ≤ (r.size : Int) := by omega
  rw [hk]; split
  ·omega
  ·split <;> omega
 clear hk
 go_upto_region 0 with fail
 go_cut [4] from 5 to 18 (fun x wx => x = .int .i64 (k : Int) ∧ wx = w.drew)
 case first =>
  go_region
  all_goals (try go_wp2)
  all_goals go_meet
  all_goals exact ⟨by rw [HMin.out], rfl⟩
 case rest =>
 obtain ⟨rfl, h1⟩ := hcut
 subst h1
 have e1 : w.drew.drew.cell? ⟨b, 1, none⟩ = some (.string r) := c1
 have e2 : w.drew.drew.cell? ⟨b, 2, none⟩ = some (.int .i64 (s : Int)) := c2
 have f1 : w.drew.drew.frozen? ⟨b, 1, none⟩ = false := HB.out.frozen 1
 have h0 : (0 : Int) ≤ (s : Int) + (k : Int) := by omega
 have hr' : (r.size : Int) ≤ 1000000 := by omega
 have hw : IntKind.i64.wrap ((s : Int) + (k : Int)) = (s : Int) + (k : Int) := by rw [IntKind.wrap_i64]; omega
 have HT : Hid ((T.size : Int) ≤ 1000000) := by unfold Hid; omega
 clear d1 d2 c1 c2 hT HMin
 go_upto_region 1 with fail
 go_cut [4] from 5 to 33 (fun x wx => x = .int .i64 (k : Int) ∧ wx = w.drew.drew.setCell ⟨b, 1, none⟩ (.string T))
 case first =>
  go_region_with (go_at_call 33; refine (HW.out _ _ (by omega)).mono ?_; rintro e w5 ⟨rfl, rfl⟩)
  all_goals (try go_wp2)
  all_goals go_meet
  all_goals exact ⟨rfl, rfl⟩
 case rest =>
 obtain ⟨rfl, h1⟩ := hcut
 obtain ⟨w3, hw3⟩ := nm (w.drew.drew.setCell ⟨b, 1, none⟩ (.string T))
 rw [← hw3] at h1
 have H3 : Hid (Blk w3 b 63 (lgC u T (s : Int) z st)) := by unfold Hid; rw [hw3]; exact HB.out.drew.drew.set 1 _
 have HL3 : Hid (LKeep (fun x => x = b) w w3) := by unfold Hid; rw [hw3]; exact lkeep_set (lkeep_drew (lkeep_drew (LKeep.refl _ _))) 1 _
 subst wc
 clear hw3 e1 e2 f1
 have g1 : w3.cell? ⟨b, 1, none⟩ = some (.string T) := H3.out.cell 1
 have g2 : w3.cell? ⟨b, 2, none⟩ = some (.int .i64 (s : Int)) := H3.out.cell 2
 have g3 : w3.cell? ⟨b, 3, none⟩ = some (.int .i64 z) := H3.out.cell 3
 have g4 : w3.cell? ⟨b, 4, none⟩ = some (.bool st) := H3.out.cell 4
 have z2 : w3.frozen? ⟨b, 2, none⟩ = false := H3.out.frozen 2
 have z3 : w3.frozen? ⟨b, 3, none⟩ = false := H3.out.frozen 3
 have z4 : w3.frozen? ⟨b, 4, none⟩ = false := H3.out.frozen 4
 go_wp2
 go_end0
 exact ⟨⟨_, rfl⟩, ((H3.out.set 2 _).set 3 _).set 4 _, lkeep_set (lkeep_set (lkeep_set HL3.out 2 _) 3 _) 4 _⟩
end Go.Proofs.YtjmeakkmfeoigaaGreatDoor