/-
  Facts and contracts that the statement leans on.
-/
import Derived.Test.YtjaedfjfcghgcabGreatDoorLibX22
import Derived.Test.YtjaedfjfcghgcabGreatDoorLibX23
import Derived.Test.YtjaedfjfcghgcabGreatDoorLibX3
import Derived.Lib.Strings
import Derived.Lib.Slices
import Derived.Lib.Walk
import Derived.Lib.Builder
import Derived.Lib.AppendStr
import Derived.Lib.UnsafeStr
import Derived.WalkKit
import Derived.Laws.Externs
import Derived.Laws.IdiomCopy
import Derived.Below
import Derived.Test.YtjaedfjfcghgcabGreatDoorLibX20
import Derived.Test.YtjaedfjfcghgcabGreatDoorLibX19
namespace Go.Proofs.YtjaedfjfcghgcabGreatDoor
open Go.ChangeShapes Go.WideShapes Go.ChangeAt Go.RowKit
set_option maxRecDepth 100000
attribute [local go_sem] Oper.semAt_some
def LineOf (l : List UInt8) (W : World) (e : Ending) (w' : World) : Prop :=
 (lineFault l = 0 ∧ ∃ v0 v1, e = .returned (.tuple #[.agg #[.int .i64 (atOf l).k, v0, v1, .int .i64 (atOf l).n], .nilIface]) ∧ Reads w' v0 (atOf l).s ∧ Reads w' v1 (atOf l).t ∧ NewV W.heap.size v0 ∧ NewV W.heap.size v1) ∨
  (¬ lineFault l = 0 ∧ e = .returned (.tuple #[.agg #[.int .i64 0, .slice none 0 0, .slice none 0 0, .int .i64 0], .iface 75 (.int .i64 (lineFault l))]))
theorem line_new (l : List UInt8) (hz : l.length ≤ 9223372036854775806) (w : World) (hK : KindsLaid w) (hL : LibLaid w) :
    Calls Tryz.prog 97 #[.string (strOf l)] w fun e w' => LineOf l w e w' ∧ Below w.heap.size w w' := by
 refine (aparse_new (strOf l) (by rw [strOf_size]; exact hz) w hK hL).mono ?_
 rintro e w' ⟨a, rfl, h1, h2, hb⟩
 refine ⟨?_, hb⟩
 have hc := seen_cut (strOf l)
 rw [strOf_list] at hc
 rcases hc with hc | ⟨h3, h4⟩
 ·rw [hc] at h1 h2 ⊢
  by_cases h0 : wordsFault (cutL l) = 0
  ·obtain ⟨v0, v1, rfl, r0, r1, n0, n1⟩ := h1 h0
   exact Or.inl ⟨h0, v0, v1, by rw [h0]; rfl, r0, r1, n0, n1⟩
  ·obtain rfl := h2 h0
   exact Or.inr ⟨h0, by rw [errV_no h0]; rfl⟩
 ·obtain rfl := h2 (by rw [h3]; decide)
  have e : lineFault l = 2 := h4
  refine Or.inr ⟨by rw [e]; decide, ?_⟩
  rw [h3, e]
  rfl
theorem made_new4 (w : World) (o0 o1 o2 o3 : Obj) :
    ((((w.alloc o0).alloc o1).alloc o2).alloc o3).heap.size = w.heap.size + 4 ∧
    ((((w.alloc o0).alloc o1).alloc o2).alloc o3).heap[w.heap.size]? = some o0 ∧
    ((((w.alloc o0).alloc o1).alloc o2).alloc o3).heap[w.heap.size + 1]? = some o1 ∧
    ((((w.alloc o0).alloc o1).alloc o2).alloc o3).heap[w.heap.size + 1 + 1]? = some o2 ∧
    ((((w.alloc o0).alloc o1).alloc o2).alloc o3).heap[w.heap.size + 1 + 1 + 1]? = some o3 ∧
    Below w.heap.size w ((((w.alloc o0).alloc o1).alloc o2).alloc o3) := by
 have s1 : (w.alloc o0).heap.size = w.heap.size + 1 := World.size_alloc _ _
 have s2 : ((w.alloc o0).alloc o1).heap.size = w.heap.size + 1 + 1 := by rw [World.size_alloc, s1]
 have s3 : (((w.alloc o0).alloc o1).alloc o2).heap.size = w.heap.size + 1 + 1 + 1 := by rw [World.size_alloc, s2]
 refine ⟨by rw [World.size_alloc, s3], ?_, ?_, ?_, ?_, ?_⟩
 ·rw [Below.heap_alloc _ _ _ (by omega), Below.heap_alloc _ _ _ (by omega), Below.heap_alloc _ _ _ (by omega)]; exact World.alloc_heap_new _ _
 ·rw [Below.heap_alloc _ _ _ (by omega), Below.heap_alloc _ _ _ (by omega), ← s1]; exact World.alloc_heap_new _ _
 ·rw [Below.heap_alloc _ _ _ (by omega), ← s2]; exact World.alloc_heap_new _ _
 ·rw [← s3]; exact World.alloc_heap_new _ _
 ·exact ((((Below.refl _ w).alloc (Nat.le_refl _) _).alloc (by omega) _).alloc (by omega) _).alloc (by omega) _
theorem atoms_leaves {w W : World} {D : Nat} {v E : Value} {tmps : Array Value} {Q : Ending → World → Prop} (hD : w.heap.size + 4 ≤ D) (hK : W.heap[D]? = some (.deferred (some []))) (hB : Below w.heap.size w W)
    (c1 : Blk W w.heap.size 22 #[v]) (c2 : Blk W (w.heap.size + 1) 29 #[E])
    (t1 : tmps.getD 2 undef = .pointer (some ⟨w.heap.size, 0, none⟩)) (t2 : tmps.getD 3 undef = .pointer (some ⟨w.heap.size + 1, 0, none⟩))
    (hQ : ∀ W', Below w.heap.size w W' → (∀ b, b ≠ D → W'.heap[b]? = W.heap[b]?) → W.heap.size ≤ W'.heap.size → Q (.returned (.tuple #[v, E])) W') :
    LeavesInM Fence.wide 3 Tryz.prog Tryz.f53 tmps Q [{ target := .collected D, args := #[] }] .returning W := by
 refine ⟨by simp, .inl ⟨_, _, rfl, run_takeDeferred hK, ?_⟩⟩
 have l1 := loadAT (c1.putT (.deferred none) (l := D) (by omega))
 have l2 := loadET (c2.putT (.deferred none) (l := D) (by omega))
 refine ⟨.tuple #[v, E], ?_, hQ _ (hB.trans (below_putS _ _ (by omega))) (fun b hb => World.putObj_heap_other hb) (by simp)⟩
 rw [resultsT rfl, t1, t2]
 simp [asAddr, Result.andThen, l1, l2]
def sevenA (L : List (List UInt8)) (k : Nat) : List At := ((L.take k).map atOf).take 7
theorem atoms_take {L : List (List UInt8)} {k : Nat} {x : List UInt8} (hx : L[k]? = some x) (hk : k ≤ 6) : sevenA L (k + 1) = sevenA L k ++ [atOf x] := by
 obtain ⟨h, rfl⟩ := List.getElem?_eq_some_iff.1 hx
 unfold sevenA
 rw [List.take_of_length_le (l := (L.take (k + 1)).map atOf) (by rw [List.length_map, List.length_take]; omega), List.take_of_length_le (l := (L.take k).map atOf) (by rw [List.length_map, List.length_take]; omega), List.take_succ_eq_append_getElem h, List.map_append]
 rfl
theorem atoms_full {L : List (List UInt8)} {k : Nat} (hl : k < L.length) (hk : 7 ≤ k) : sevenA L (k + 1) = sevenA L k := by
 unfold sevenA
 rw [List.take_succ_eq_append_getElem hl, List.map_append, List.take_append_of_le_length (by rw [List.length_map, List.length_take]; omega)]
theorem atoms_len {L : List (List UInt8)} {k : Nat} (hl : k ≤ L.length) : (sevenA L k).length = min 7 k := by
 unfold sevenA
 rw [List.length_take, List.length_map, List.length_take]; omega
theorem atoms_whole (L : List (List UInt8)) : sevenA L L.length = (L.map atOf).take 7 := by unfold sevenA; rw [List.take_length]
set_option maxHeartbeats 8000000 in
theorem atomsOf_any (L : List (List UInt8)) (hL : ∀ x ∈ L, plainC 10 x = true) (hz : (linesT L).length ≤ 9223372036854775806) (w : World) (hK : KindsLaid w) (hLb : LibLaid w) :
    Calls Tryz.prog 53 #[.string (strOf (linesT L))] w fun e w' => ((linesFault L = 0 ∧ ∃ v, e = .returned (.tuple #[v, .nilIface]) ∧ ReadsA w' v ((L.map atOf).take 7)) ∨ (¬ linesFault L = 0 ∧ e = .returned (.tuple #[.slice none 0 0, .iface 75 (.int .i64 (linesFault L))]))) ∧ Below w.heap.size w w' := by
 have HLz : Hid (∀ (k : Nat) (x : List UInt8), L[k]? = some x → x.length + 1 ≤ 9223372036854775806) := fun k x hx => by
  have e := lines_drop hx
  have h1 : (linesT (L.drop k)).length ≤ (linesT L).length := by
   unfold linesT
   rw [List.map_drop]
   have h2 : ((L.map fun x => x ++ [10]).flatten).length = (((L.map fun x => x ++ [10]).take k).flatten).length + (((L.map fun x => x ++ [10]).drop k).flatten).length := by
    rw [← List.length_append, ← List.flatten_append, List.take_append_drop]
   omega
  rw [e, List.length_append, List.length_append] at h1
  have : ([10] : List UInt8).length = 1 := rfl
  omega
 have HSq : Hid (∀ (Bu : Nat) (W : World), Blk W Bu 9 #[.string (strOf (linesT L))] → SeqS 2 Tryz.prog 122 #[.pointer (some ⟨Bu, 0, none⟩)] encL L (fun b => b = Bu) W) := fun Bu W h => lines_iter L hL hz 2 (by omega) Bu W h
 have HTr : Hid (∀ (k : Nat) (x : List UInt8) (W : World), L[k]? = some x → Calls Tryz.prog 98 #[.string (strOf (x ++ [10])), .string ⟨#[10]⟩] W (Sk W (.string (strOf x)))) := fun k x W hx => trimEnd_hit x (by have := HLz.out k x hx; omega) W
 have HPa : Hid (∀ (k : Nat) (x : List UInt8) (W : World), L[k]? = some x → Below w.heap.size w W → Calls Tryz.prog 97 #[.string (strOf x)] W fun e w' => LineOf x W e w' ∧ Below W.heap.size W w') := fun k x W hx hW => line_new x (by have := HLz.out k x hx; omega) W (hK.below hW) (hLb.below hW)
 clear hK hLb hL hz HLz
 obtain ⟨S0, hS0⟩ := nm (strOf (linesT L))
 rw [← hS0] at HSq ⊢
 clear hS0
 obtain ⟨hs1, b0, b1, b2, b3, hB1⟩ := made_new4 w (.cells #[.slice none 0 0] 22) (.cells #[.nilIface] 29) (.cells #[.slice none 0 0] 22) (.cells #[.string S0] 9)
 obtain ⟨wl, hwl⟩ := nm ((((w.alloc (.cells #[.slice none 0 0] 22)).alloc (.cells #[.nilIface] 29)).alloc (.cells #[.slice none 0 0] 22)).alloc (.cells #[.string S0] 9))
 rw [← hwl] at hs1 b0 b1 b2 b3 hB1
 have HB0 := hide hB1
 have Hsz := hide hs1
 have H0 : Hid (Blk wl w.heap.size 22 #[.slice none 0 0]) := b0
 have H1 : Hid (Blk wl (w.heap.size + 1) 29 #[.nilIface]) := b1
 have H2 : Hid (Blk wl (w.heap.size + 1 + 1) 22 #[.slice none 0 0]) := b2
 have H3 : Hid (Blk wl (w.heap.size + 1 + 1 + 1) 9 #[.string S0]) := b3
 clear hs1 b0 b1 b2 b3 hB1
 refine (callsIn_wide (n := 3)).1 ?_
 refine callsIn_of_wp_marks Tryz.func53 rfl trivial ?_ rfl
 simp only [Tryz.ntmps53, List.size_toArray, List.length_cons, List.length_nil, Nat.reduceAdd, Nat.reduceSub, Array.replicate_succ, Array.replicate_zero, List.push_toArray, List.append_toArray, List.nil_append, List.cons_append]
 gi_wp2_with fail
 refine ⟨trivial, ?_⟩
 gi_at_call 96
 refine (callsIn_wide.2 (lines_made _ _)).mono ?_
 rintro e w4 ⟨rfl, rfl⟩
 gi_wp2_with fail
 rw [← hwl]
 clear hwl
 refine wpIn_range_ownS (by omega) (gf := 122) (lb := #[.pointer (some ⟨w.heap.size + 1 + 1 + 1, 0, none⟩)]) rfl (enters_of Tryz.func122 (by kernel_rfl) rfl) (encs := encL) (A := L) (S := fun b => b = w.heap.size + 1 + 1 + 1)
  (fun b hb => by have := Hsz.out; omega) (fun W hW => HSq.out _ W (H3.out.below hW)) (fun _ => rfl)
  (fun k R W => Below w.heap.size w W ∧ Blk W w.heap.size 22 #[.slice none 0 0] ∧ Blk W (w.heap.size + 1) 29 #[.nilIface] ∧ linesFault (L.take k) = 0 ∧ (∀ b, R b → w.heap.size + 4 ≤ b) ∧ ∃ v, Blk W (w.heap.size + 1 + 1) 22 #[v] ∧ MadeA R (w.heap.size + 4) W v (sevenA L k))
  (fun _ W => Below w.heap.size w W ∧ Blk W w.heap.size 22 #[.slice none 0 0] ∧ Blk W (w.heap.size + 1) 29 #[.iface 75 (.int .i64 (linesFault L))] ∧ ¬ linesFault L = 0)
  (fun k R X Y h hb => by
   obtain ⟨h1, h2, h3, h4, h5, v, h6, h7⟩ := h
   have hz := Hsz.out
   refine ⟨h1.trans ⟨hb.rest.os, hb.rest.tape, hb.rest.output, hb.rest.size, fun b hb' => hb.old b (by omega) (by omega)⟩, ?_, ?_, h4, h5, v, ?_, h7.keep hb.own hb.rest.size⟩
   ·unfold Blk; rw [hb.old _ (by omega) (by omega)]; exact h2
   ·unfold Blk; rw [hb.old _ (by omega) (by omega)]; exact h3
   ·unfold Blk; rw [hb.old _ (by omega) (by omega)]; exact h6)
  (fun k X Y h hb => by
   obtain ⟨h1, h2, h3, h4⟩ := h
   have hz := Hsz.out
   refine ⟨h1.trans (hb.mono (by omega)), ?_, ?_, h4⟩
   ·unfold Blk; rw [hb.block _ (by omega)]; exact h2
   ·unfold Blk; rw [hb.block _ (by omega)]; exact h3)
  ⟨HB0.out, H0.out, H1.out, rfl, fun b h => h.elim, .slice none 0 0, H2.out, made_nil _ _ _⟩ ?round ?done ?stop
 case round =>
  intro ln k x R W hx hl1 hl2 hlR ⟨hB, c0, c1, hf, hR4, v, c2, hm⟩
  have HX := hide hx
  have HkL : Hid (k < L.length) := (List.getElem?_eq_some_iff.1 hx).1
  have Hl1 : Hid (w.heap.size + 4 ≤ ln) := by unfold Hid; rw [← Hsz.out]; exact hl1
  have HF := hide hf
  have HR4 := hide hR4
  unfold encL
  gi_wp2
  refine ⟨OverS.refl _ _ _ _, fun o => ?_⟩
  obtain ⟨W2, hW2⟩ := nm (W.putObj ln o)
  have HB2 : Hid (Below w.heap.size w W2) := by unfold Hid; rw [hW2]; exact hB.trans (below_putS _ _ (by have := Hl1.out; omega))
  have D0 : Hid (Blk W2 w.heap.size 22 #[.slice none 0 0]) := by unfold Hid; rw [hW2]; exact c0.putT _ (by have := Hl1.out; omega)
  have D1 : Hid (Blk W2 (w.heap.size + 1) 29 #[.nilIface]) := by unfold Hid; rw [hW2]; exact c1.putT _ (by have := Hl1.out; omega)
  have D2 : Hid (Blk W2 (w.heap.size + 1 + 1) 22 #[v]) := by unfold Hid; rw [hW2]; exact c2.putT _ (by have := Hl1.out; omega)
  have DM : Hid (MadeA R (w.heap.size + 4) W2 v (sevenA L k)) := by unfold Hid; rw [hW2]; exact hm.keep (fun b hb _ => World.putObj_heap_other fun e => hlR (e ▸ hb)) (by simp)
  have HS2 : Hid (w.heap.size + 4 ≤ W2.heap.size) := by unfold Hid; rw [hW2]; have := Hl1.out; simp; omega
  rw [← hW2]
  clear hW2 hx hl1 hl2 hlR hB c0 c1 hf hR4 c2 hm
  have HTk : Hid (∀ W, Calls Tryz.prog 98 #[.string (strOf (x ++ [10])), .string ⟨#[10]⟩] W (Sk W (.string (strOf x)))) := fun W => HTr.out k x W HX.out
  have HPk := hide (HPa.out k x W2 HX.out HB2.out)
  gi_wp2_with fail
  refine ⟨trivial, ?_⟩
  gi_at_call 98
  refine (CallsIn.inRound ln (callsIn_wide.2 (HTk.out _))).mono ?_
  rintro e w8 ⟨rfl, rfl⟩
  gi_wp2_with fail
  refine ⟨trivial, ?_⟩
  gi_at_call 97
  refine (CallsIn.inRound ln (callsIn_wide.2 HPk.out)).mono ?_
  rintro e W3 ⟨hor, hb3⟩
  have HB3 := hide hb3
  clear hb3
  rcases hor with ⟨hf0, v0, v1, rfl, r0, r1, n0, n1⟩ | ⟨hf1, rfl⟩
  ·have N0 := hide n0
   have N1 := hide n1
   obtain ⟨o0, m0, q0, rfl, _⟩ := n0
   obtain ⟨o1, m1, q1, rfl, _⟩ := n1
   obtain ⟨a, ha⟩ := nm (atOf x)
   rw [← ha] at r0 r1 ⊢
   have HAx := hide ha
   have HF1 : Hid (linesFault (L.take (k + 1)) = 0) := by
    unfold Hid
    obtain ⟨hk, hxk⟩ := List.getElem?_eq_some_iff.1 HX.out
    rw [List.take_succ_eq_append_getElem hk, hxk, lines_more HF.out]
    exact hf0
   clear ha hf0
   obtain ⟨W4, hW4⟩ := nm (W3.alloc (.cells #[.int .i64 a.k, .slice o0 m0 q0, .slice o1 m1 q1, .int .i64 a.n] 50))
   obtain ⟨G4, hG4⟩ := nm W3.heap.size
   have hb34 : Below W3.heap.size W3 W4 := by rw [hW4]; exact below_alloc1 _ _
   have hb4 : Below W2.heap.size W2 W4 := HB3.out.trans (hb34.mono HB3.out.size)
   have HB4 := hide hb4
   have R0 := hide (r0.below hb34)
   have R1 := hide (r1.below hb34)
   have E0 := hide (D0.out.below hb4)
   have E1 := hide (D1.out.below hb4)
   have E2 := hide (D2.out.below hb4)
   have EM := hide (DM.out.below hb4)
   have E4 : Hid (Blk W4 G4 50 #[.int .i64 a.k, .slice o0 m0 q0, .slice o1 m1 q1, .int .i64 a.n]) := by unfold Hid; rw [hW4, hG4]; exact Blk.new _ _ _
   have HvH : Hid (∀ b, v.ownBlock = some b → b < W2.heap.size) := by
    obtain ⟨xs, h1, _⟩ := DM.out
    exact fun b e => (h1.lt b e).2
   clear hb4 hb34 r0 r1
   gi_upto_region 5 with fail
   rw [← hW4, ← hG4]
   clear hW4 hG4
   obtain ⟨l, hl⟩ := nm (sevenA L k)
   have HLl : Hid (l.length = min 7 k) := by unfold Hid; rw [hl]; exact atoms_len (Nat.le_of_lt HkL.out)
   have Hl := hide hl
   rw [← hl] at EM
   clear hl
   obtain ⟨va, vc, hv⟩ := EM.out.slice
   subst hv
   have y2 : W4.cell? ⟨w.heap.size + 1 + 1, 0, none⟩ = some (.slice va l.length vc) := E2.out.cell 0
   have g0 : W4.cell? ⟨G4, 0, none⟩ = some (.int .i64 a.k) := E4.out.cell 0
   have g1 : W4.cell? ⟨G4, 1, none⟩ = some (.slice o0 m0 q0) := E4.out.cell 1
   have g2 : W4.cell? ⟨G4, 2, none⟩ = some (.slice o1 m1 q1) := E4.out.cell 2
   have g3 : W4.cell? ⟨G4, 3, none⟩ = some (.int .i64 a.n) := E4.out.cell 3
   by_cases hk6 : k ≤ 6
   ·have hm6 : (l.length : Int) ≤ 6 := by have := HLl.out; omega
    have hm6' : l.length ≤ 1000000 := by omega
    have HTk1 : Hid (sevenA L (k + 1) = l ++ [a]) := by unfold Hid; rw [Hl.out, HAx.out]; exact atoms_take HX.out hk6
    obtain ⟨xs, h1, h2, h3⟩ := EM.out
    have HO := hide h1
    have HOR : Hid ((∀ b, (Value.slice va l.length vc).ownBlock = some b → R b) ∧ ∀ i a, l[i]? = some a → AtS R W4 xs i a (.slice va l.length vc)) := ⟨h2, h3⟩
    clear h1 h2 h3
    have HK4 : Hid (w.heap.size + 4 ≤ W4.heap.size) := Nat.le_trans HS2.out HB4.out.size
    gi_wp2_with (gi_at_builtin; refine appendIn_atom rfl _ _ rfl (w.heap.size + 4) (.slice va l.length vc) rfl l.length xs a.k a.n (.slice o0 m0 q0) (.slice o1 m1 q1) rfl rfl W4.heap.size 1 rfl (HO.out.alloc _) (heap_alloc_new W4 _) (by have := HK4.out; simp; omega) hm6' ?_)
    intro v9 W7 hown hgrow hat
    obtain ⟨W5, hW5⟩ := nm (W4.alloc (.cells #[.int .i64 a.k, .slice o0 m0 q0, .slice o1 m1 q1, .int .i64 a.n] 50))
    rw [← hW5] at hgrow
    have hat : v9.ownBlock = (Value.slice va l.length vc).ownBlock ∨ v9.ownBlock = some W5.heap.size := by rw [hW5, World.size_alloc]; exact hat
    have hb45 : Below W4.heap.size W4 W5 := by rw [hW5]; exact below_alloc1 _ _
    have hb5 : Below W2.heap.size W2 W5 := HB4.out.trans (hb45.mono HB4.out.size)
    have hge : ∀ b, (Value.slice va l.length vc).ownBlock = some b → w.heap.size + 4 ≤ b := fun b e => (HO.out.lt b e).1
    have hnew : MadeA (fun b => R b ∨ W2.heap.size ≤ b) (w.heap.size + 4) W7 v9 (l ++ [a]) := by
     refine made_more (R := R) (H := W2.heap.size) (W := W5) (fun b h => Or.inl h) (fun b h _ => Or.inr h) HvH.out hb5.size ?_ HOR.out.1 (fun i a' ha => ?_) hown hgrow hat (R0.out.below hb45) (R1.out.below hb45) N0.out N1.out
     ·rw [hW5]; exact HO.out.alloc _
     ·obtain ⟨vs, vt, c, ⟨p1, p2, p3⟩, t1, t2, t3⟩ := HOR.out.2 i a' ha
      exact ⟨vs, vt, c, ⟨p1.below hb45, p2, p3⟩, t1.below hb45, t2, t3⟩
    have keep : ∀ g T cs, Blk W2 g T cs → g < w.heap.size + 4 → Blk W7 g T cs := fun g T cs h hg => by
     have h6 := h.below hb5
     unfold Blk
     rw [hgrow.block g h6.lt fun e => by have := hge g e.symm; omega]
     exact h6
    have hO7 : OverS R (fun b => b = w.heap.size + 1 + 1 + 1) wl.heap.size W2 W7 := ⟨Nat.le_trans hb5.size hgrow.size, fun b hb hl hr => by
     rw [hgrow.block b (Nat.lt_of_lt_of_le hl hb5.size) fun e => hr (HOR.out.1 b e.symm)]
     exact hb5.block b hl⟩
    have hB7 : Below w.heap.size w W7 := (HB2.out.trans (hb5.mono HB2.out.size)).grown hgrow (by have := hb5.size; have := HS2.out; omega) fun b e => by have := hge b e; omega
    obtain ⟨vo, vn, vx, hv9⟩ := own_slice hown
    subst hv9
    have H7 : Hid (Below w.heap.size w W7 ∧ Blk W7 w.heap.size 22 #[.slice none 0 0] ∧ Blk W7 (w.heap.size + 1) 29 #[.nilIface] ∧ Blk W7 (w.heap.size + 1 + 1) 22 #[.slice va l.length vc] ∧ OverS R (fun b => b = w.heap.size + 1 + 1 + 1) wl.heap.size W2 W7) :=
     ⟨hB7, keep _ _ _ D0.out (by omega), keep _ _ _ D1.out (by omega), keep _ _ _ D2.out (by omega), hO7⟩
    have HM7 := hide hnew
    clear hown hgrow hat hW5 hb45 hb5 hge hnew keep hO7 hB7 y2 g0 g1 g2 g3
    have y2 : W7.cell? ⟨w.heap.size + 1 + 1, 0, none⟩ = some (.slice va l.length vc) := H7.out.2.2.2.1.cell 0
    have z2 : W7.frozen? ⟨w.heap.size + 1 + 1, 0, none⟩ = false := H7.out.2.2.2.1.frozen 0
    gi_wp2
    obtain ⟨s0, s1, s2, s3, s4⟩ := H7.out
    have hz := Hsz.out
    have hS := HS2.out
    refine ⟨s4.setCell (by simp; omega) (by simp) _, fun b => R b ∨ W2.heap.size ≤ b, ⟨s0.setCell (by simp; omega) _, s1.far (by omega) _ _, s2.far (by omega) _ _, HF1.out, fun b h => ?_, _, s3.set 0 _, ?_⟩, fun b h => h⟩
    ·rcases h with h | h
     ·exact HR4.out b h
     ·omega
    ·rw [HTk1.out]
     refine HM7.out.keep (fun b hb _ => Below.heap_setCell _ _ _ _ ?_) (by simp [World.setCell])
     have h4 : w.heap.size + 4 ≤ b := by
      rcases hb with h | h
      ·exact HR4.out b h
      ·omega
     simp; omega
   ·have hm6 : ¬ (l.length : Int) ≤ 6 := by have := HLl.out; omega
    have HTk1 : Hid (sevenA L (k + 1) = l) := by unfold Hid; rw [Hl.out]; exact atoms_full HkL.out (by omega)
    gi_wp2
    have hS := HS2.out
    refine ⟨OverS.of_below HB4.out, R, ⟨HB2.out.trans (HB4.out.mono HB2.out.size), E0.out, E1.out, HF1.out, HR4.out, _, E2.out, ?_⟩, fun b h => Or.inl h⟩
    rw [HTk1.out]
    exact EM.out
  ·obtain ⟨F, hFe⟩ := nm (linesFault L)
   have hFx : linesFault L = lineFault x := by
    obtain ⟨hk, hxk⟩ := List.getElem?_eq_some_iff.1 HX.out
    have e : L.getD k [] = x := by rw [List.getD_eq_getElem?_getD, HX.out]; rfl
    have h := lines_stop hk HF.out (by rw [e]; exact hf1)
    rw [e] at h
    exact h
   have HFF : Hid (F = linesFault L ∧ ¬ F = 0) := ⟨hFe, by rw [hFe, hFx]; exact hf1⟩
   rw [← hFx, ← hFe]
   clear hFx hFe hf1
   obtain ⟨W4, hW4⟩ := nm (W3.alloc (.cells #[.int .i64 0, .slice none 0 0, .slice none 0 0, .int .i64 0] 50))
   have hb4 : Below W2.heap.size W2 W4 := by rw [hW4]; exact HB3.out.alloc HB3.out.size _
   have HB4 := hide hb4
   have E0 := hide (D0.out.below hb4)
   have E1 := hide (D1.out.below hb4)
   clear hb4
   gi_upto_region 5 with fail
   rw [← hW4]
   clear hW4
   have y0 : W4.cell? ⟨w.heap.size, 0, none⟩ = some (.slice none 0 0) := E0.out.cell 0
   have y1 : W4.cell? ⟨w.heap.size + 1, 0, none⟩ = some .nilIface := E1.out.cell 0
   have f0 : W4.frozen? ⟨w.heap.size, 0, none⟩ = false := E0.out.frozen 0
   have f1 : W4.frozen? ⟨w.heap.size + 1, 0, none⟩ = false := E1.out.frozen 0
   gi_wp2
   have hz := Hsz.out
   have h2 := HS2.out
   refine ⟨((OverS.of_below HB4.out).setCell (show w.heap.size < wl.heap.size by omega) (show ¬ w.heap.size = w.heap.size + 1 + 1 + 1 by omega) _).setCell (show w.heap.size + 1 < wl.heap.size by omega) (show ¬ w.heap.size + 1 = w.heap.size + 1 + 1 + 1 by omega) _, ((HB2.out.trans (HB4.out.mono (by omega))).setCell (Nat.le_refl w.heap.size) _).setCell (show w.heap.size ≤ w.heap.size + 1 by omega) _, (E0.out.set 0 _).far (by omega) _ _, ?_, by rw [← HFF.out.1]; exact HFF.out.2⟩
   rw [← HFF.out.1]
   exact (E1.out.far (by omega) _ _).set 0 _
 case done =>
  intro D R W hD hDR ⟨hB, c0, c1, hf, hR4, v, c2, hm⟩ hK
  have HD : Hid (w.heap.size + 4 ≤ D) := by unfold Hid; rw [← Hsz.out]; exact hD
  have HK := hide hK
  have HBk := hide hB
  have C0 : Hid (Blk W w.heap.size 22 #[.slice none 0 0]) := c0
  have C1 : Hid (Blk W (w.heap.size + 1) 29 #[.nilIface]) := c1
  have C2 : Hid (Blk W (w.heap.size + 1 + 1) 22 #[v]) := c2
  have HR4 := hide hR4
  have HDR := hide hDR
  rw [List.take_length] at hf
  rw [atoms_whole] at hm
  have HF := hide hf
  have HM := hide hm
  obtain ⟨ao, ac, hv⟩ := hm.slice
  obtain ⟨n, hn⟩ := nm (((L.map atOf).take 7).length)
  rw [← hn] at hv
  subst hv
  clear hD hB c0 c1 c2 hK hDR hf hm hR4 hn
  have e0 : W.cell? ⟨w.heap.size, 0, none⟩ = some (.slice none 0 0) := C0.out.cell 0
  have z0 : W.frozen? ⟨w.heap.size, 0, none⟩ = false := C0.out.frozen 0
  have e1 : W.cell? ⟨w.heap.size + 1, 0, none⟩ = some .nilIface := C1.out.cell 0
  have z1 : W.frozen? ⟨w.heap.size + 1, 0, none⟩ = false := C1.out.frozen 0
  have e2 : W.cell? ⟨w.heap.size + 1 + 1, 0, none⟩ = some (.slice ao n ac) := C2.out.cell 0
  gi_wp2
  have hd := HD.out
  have hK' : ((W.setCell ⟨w.heap.size, 0, none⟩ (.slice ao n ac)).setCell ⟨w.heap.size + 1, 0, none⟩ .nilIface).heap[D]? = some (.deferred (some [])) := by
   rw [Below.heap_setCell _ _ _ _ (show D ≠ w.heap.size + 1 by omega), Below.heap_setCell _ _ _ _ (show D ≠ w.heap.size by omega)]; exact HK.out
  refine atoms_leaves HD.out hK' ((HBk.out.setCell (by simp) _).setCell (by simp) _) ((C0.out.set 0 _).far (by omega) _ _) ((C1.out.far (by omega) _ _).set 0 _) rfl rfl fun W' hW' hs hz => ⟨Or.inl ⟨HF.out, _, rfl, ?_⟩, hW'⟩
  refine MadeA.reads (R := R) (K := w.heap.size + 4) (HM.out.keep (fun b hb _ => ?_) (Nat.le_trans (by simp [World.setCell]) hz)) (by rw [List.length_take]; omega)
  have h4 := HR4.out b hb
  rw [hs b fun e => HDR.out (e ▸ hb), Below.heap_setCell _ _ _ _ (show b ≠ w.heap.size + 1 by omega), Below.heap_setCell _ _ _ _ (show b ≠ w.heap.size by omega)]
 case stop =>
  intro D k W hD _ ⟨hB, c0, c1, hf⟩ hK
  have HD : Hid (w.heap.size + 4 ≤ D) := by unfold Hid; rw [← Hsz.out]; exact hD
  have HK := hide hK
  have HBk := hide hB
  have C0 : Hid (Blk W w.heap.size 22 #[.slice none 0 0]) := c0
  have C1 : Hid (Blk W (w.heap.size + 1) 29 #[.iface 75 (.int .i64 (linesFault L))]) := c1
  have HF := hide hf
  clear hD hB c0 c1 hf hK
  gi_wp2
  exact atoms_leaves HD.out HK.out HBk.out C0.out C1.out rfl rfl (fun W' hW' _ _ => ⟨Or.inr ⟨HF.out, rfl⟩, hW'⟩)
end Go.Proofs.YtjaedfjfcghgcabGreatDoor
namespace Go.Proofs.YtjaedfjfcghgcabGreatDoor
open Go.ChangeShapes Go.WideShapes Go.ChangeAt Go.RowKit
set_option maxRecDepth 100000
theorem infoBld : (Tryz.prog.info? 102).map (·.size) = some 2 := by kernel_rfl
theorem liesBld : liesAt Tryz.prog Tryz.prog.depth 102 (2 / Tryz.prog.cellsOf 102) 0 102 1 = true := by kernel_rfl
theorem infoU8 : (Tryz.prog.info? 5).map (fun i => (i.zero, i.size, i.bytes)) = some (some (.int .u8 0), 1, 1) := by kernel_rfl
theorem cellsU8 : Tryz.prog.cellsOf 5 = 1 := by kernel_rfl
set_option maxHeartbeats 1000000 in
theorem bcheck_used (b : Nat) (w : World) (h0 : w.cell? ⟨b, 0, none⟩ = some (.pointer (some ⟨b, 0, none⟩))) :
    Calls Tryz.prog 90 #[.pointer (some ⟨b, 0, none⟩)] w fun e w' => e = .returned (.tuple #[]) ∧ w' = w := by
 obtain ⟨j, hj, _⟩ := Option.map_eq_some_iff.1 infoBld
 go_enter Tryz.func90, Tryz.ntmps90
 go_wp2
 rw [Lib.run_neq_ptr_same w _ Tryz.underlying99 hj]
 go_wp2
 go_end0
 exact ⟨rfl, rfl⟩
set_option maxHeartbeats 1000000 in
theorem bcheck_fresh (b : Nat) (w : World) (h0 : w.cell? ⟨b, 0, none⟩ = some (.pointer none)) (hsh : w.shape? b = some (102, 2)) (hfz : w.frozen? ⟨b, 0, none⟩ = false) :
    Calls Tryz.prog 90 #[.pointer (some ⟨b, 0, none⟩)] w fun e w' => e = .returned (.tuple #[]) ∧ w' = w.setCell ⟨b, 0, none⟩ (.pointer (some ⟨b, 0, none⟩)) := by
 obtain ⟨j, hj, hjs⟩ := Option.map_eq_some_iff.1 infoBld
 go_enter Tryz.func90, Tryz.ntmps90
 go_wp2
 rw [Lib.run_to_unsafe w ⟨b, 0, none⟩ Tryz.underlying99 Tryz.underlying172 hj (by rw [hjs]; decide) hsh (Nat.zero_lt_succ 1)]
 simp only [Result.andThen]
 rw [Oper.upon_value]
 go_wp2
 rw [run_callFunc_extern Tryz.func118 (by kernel_rfl) (by kernel_rfl) (by kernel_rfl) (e := Extern.AbiNoEscape.same) (by kernel_rfl)]
 rw [Lib.run_noEscape]
 simp only [Result.andThen]
 rw [Oper.upon_value]
 go_wp2
 rw [Lib.run_from_unsafe w ⟨b, 0, none⟩ Tryz.underlying172 Tryz.underlying99 hj hsh liesBld]
 simp only [Result.andThen]
 rw [Oper.upon_value]
 go_wp2
 go_end0
 exact ⟨rfl, rfl⟩
theorem bcheck_any (B b : Nat) (bs : List Value) (w : World) (h : Lib.IsBuilder 102 5 B b bs w) :
    Calls Tryz.prog 90 #[.pointer (some ⟨b, 0, none⟩)] w fun e w' => e = .returned (.tuple #[]) ∧ (Lib.BuilderAt 102 5 B b (.pointer (some ⟨b, 0, none⟩)) bs w' ∧ Below B w w') := by
 rcases h with h | h
 ·refine (bcheck_fresh b w h.cell0 h.shape h.frozen0).mono ?_
  rintro e w' ⟨rfl, rfl⟩
  exact ⟨rfl, h.used _, (Below.refl B w).setCell (p := ⟨b, 0, none⟩) h.1 _⟩
 ·refine (bcheck_used b w h.cell0).mono ?_
  rintro e w' ⟨rfl, rfl⟩
  exact ⟨rfl, h, Below.refl B _⟩
set_option maxHeartbeats 2000000 in
theorem bwrite_any (B b : Nat) (bs : List Value) (s : ByteArray) (w : World) (h : Lib.IsBuilder 102 5 B b bs w) (hlen : bs.length + s.size ≤ 140737488355328) (hBw : B ≤ w.heap.size) :
    Calls Tryz.prog 48 #[.pointer (some ⟨b, 0, none⟩), .string s] w fun e w' => e = .returned (.tuple #[.int .i64 s.size, .nilIface]) ∧ (Lib.BuilderAt 102 5 B b (.pointer (some ⟨b, 0, none⟩)) (bs ++ Lib.strCells s) w' ∧ Below B w w') := by
 obtain ⟨i0, hi, hz0, hz1, hz2⟩ := info_parts infoU8
 have HC : Hid (Calls Tryz.prog 90 #[.pointer (some ⟨b, 0, none⟩)] w fun e w' => e = .returned (.tuple #[]) ∧ (Lib.BuilderAt 102 5 B b (.pointer (some ⟨b, 0, none⟩)) bs w' ∧ Below B w w')) := bcheck_any B b bs w h
 go_enter Tryz.func48, Tryz.ntmps48
 go_wp2_with (go_at_call 90; refine HC.out.mono ?_)
 rintro e w1 ⟨rfl, h1, hb1⟩
 obtain ⟨hB, v, hbk, hown, hne⟩ := h1
 have c0 : w1.cell? ⟨b, 0, none⟩ = some (.pointer (some ⟨b, 0, none⟩)) := by rw [Lib.cell_of_heap hbk]; rfl
 have c1 : w1.cell? ⟨b, 1, none⟩ = some v := by rw [Lib.cell_of_heap hbk]; rfl
 go_wp2_with (at_builtin; refine Lib.wpList_append_own_string _ rfl _ _ 100 9 rfl B 5 i0 Tryz.underlying100 Tryz.underlying9 hi hz0 hz1 hz2 _ _ _ rfl hown s rfl ?c3 ?c4 ?c5 ?_)
 case c3 => unfold maxLen; omega
 case c4 => omega
 case c5 => have := hb1.size; omega
 intro v' w2 hown' hgrow _
 have hlt : b < w1.heap.size := by
  rcases Nat.lt_or_ge b w1.heap.size with h' | h'
  ·exact h'
  ·simp [Array.getElem?_eq_none h'] at hbk
 have hb2 : w2.heap[b]? = some (.cells #[.pointer (some ⟨b, 0, none⟩), v] 102 (0, 0)) := by
  rw [hgrow.block b hlt (fun e => hne e.symm)]
  exact hbk
 have d0 : w2.cell? ⟨b, 0, none⟩ = some (.pointer (some ⟨b, 0, none⟩)) := by rw [Lib.cell_of_heap hb2]; rfl
 have d1 : w2.cell? ⟨b, 1, none⟩ = some v := by rw [Lib.cell_of_heap hb2]; rfl
 have f1 : w2.frozen? ⟨b, 1, none⟩ = false := Lib.frozen_of_heap hb2 1
 obtain ⟨ao, n', cap, rfl⟩ : ∃ ao n' cap, v' = .slice ao n' cap := by
  rcases hown'.2 with ⟨hv, _⟩ | ⟨g, cap, cur, hv, _⟩
  ·exact ⟨_, _, _, hv⟩
  ·exact ⟨_, _, _, hv⟩
 go_wp2
 go_ret2
 refine ⟨rfl, ?_, ?_⟩
 ·exact Lib.BuilderAt.put (T := 102) (e := 5) hB hb2 (bs' := bs ++ Lib.strCells s) (by simpa [Lib.strCells_length] using hown') (by decide)
 ·exact (hb1.grown hgrow (by have := hb1.size; omega) (fun k hk => (hown.lt k hk).1)).setCell (p := ⟨b, 1, none⟩) hB _
set_option maxHeartbeats 1000000 in
theorem bstring_any (B b : Nat) (l : List UInt8) (w : World) (h : Lib.IsBuilder 102 5 B b (Lib.byteCells l) w) (h0 : l ≠ []) :
    Calls Tryz.prog 49 #[.pointer (some ⟨b, 0, none⟩)] w fun e w' => e = .returned (.string ⟨l.toArray⟩) ∧ Below B w w' := by
 obtain ⟨p, hB, v, hbk, hown, hne⟩ : ∃ p, Lib.BuilderAt 102 5 B b p (Lib.byteCells l) w := by
  rcases h with h | h
  ·exact ⟨_, h⟩
  ·exact ⟨_, h⟩
 have hl0 : l.length ≠ 0 := by simpa using h0
 rw [Lib.byteCells_length] at hown
 obtain ⟨g, cap, cur, rfl, hbg, hg, hnc, hcm, hcs, htake⟩ : ∃ g cap cur, v = .slice (some ⟨g, 0, none⟩) l.length cap ∧ B ≤ g ∧ w.heap[g]? = some (.cells cur 5 (0, 0)) ∧ l.length ≤ cap ∧ cap ≤ maxLen ∧ cur.size = cap * 1 ∧ cur.toList.take (l.length * 1) = Lib.byteCells l := by
  rcases hown.2 with ⟨_, hz⟩ | ⟨g, cap, cur, hv, r⟩
  ·exact absurd hz hl0
  ·exact ⟨g, cap, cur, hv, r⟩
 have c1 : w.drew.cell? ⟨b, 1, none⟩ = some (.slice (some ⟨g, 0, none⟩) l.length cap) := by
  have : w.drew.heap[b]? = some (.cells #[p, .slice (some ⟨g, 0, none⟩) l.length cap] 102 (0, 0)) := hbk
  rw [Lib.cell_of_heap this]; rfl
 have hSD : (Builtin.unsafeSliceData_ #[100] 154 #[.slice (some ⟨g, 0, none⟩) l.length cap]).run Tryz.prog w.drew = .ok (.pointer (some ⟨g, 0, none⟩)) w.drew :=
  Lib.run_unsafeSliceData_row _ _ _ _ _ _ (by omega)
 have hUS : (Builtin.unsafeString_ #[154, 3] 9 #[.pointer (some ⟨g, 0, none⟩), .int .i64 l.length]).run Tryz.prog w.drew = .ok (.string ⟨l.toArray⟩) (w.drew.freeze ⟨g, 0, none⟩ l.length) := by
  refine Lib.run_unsafeString_row w.drew 154 3 9 5 Tryz.underlying154 cellsU8 g cur.size (by have hg' : w.drew.heap[g]? = some (.cells cur 5 (0, 0)) := hg; simp [World.shape?, hg']) l h0 (by omega) (by unfold maxLen at hcm; omega) ?_
  intro j x hx
  have := hown.cells (g := g) rfl j (.int .u8 x.toNat) (by simp [Lib.byteCells, hx])
  exact this
 go_enter Tryz.func49, Tryz.ntmps49
 go_wp2
 go_region
 all_goals (go_wp2; go_ret; exact ⟨rfl, Lib.below_freeze (Below.drew (Below.refl B w)) (p := ⟨g, 0, none⟩) hbg _⟩)
end Go.Proofs.YtjaedfjfcghgcabGreatDoor
namespace Go.Proofs.YtjaedfjfcghgcabGreatDoor
open Go.ChangeShapes Go.WideShapes Go.ChangeAt Go.RowKit
set_option maxRecDepth 100000
theorem str_eq {x : ByteArray} {l : List UInt8} (h : x.data.toList = l) : x = strOf l := by rw [← h, strOf_data]
theorem back_str {a b : ByteArray} {v : Value} (h : a = b) : Ending.returned (.tuple #[.string a, v]) = .returned (.tuple #[.string b, v]) := by rw [h]
def BoxA (w : World) (B : Nat) (k n : Int) (vs vt : Value) : Prop := w.cell? ⟨B, 0, none⟩ = some (.int .i64 k) ∧ w.cell? ⟨B, 1, none⟩ = some vs ∧ w.cell? ⟨B, 2, none⟩ = some vt ∧ w.cell? ⟨B, 3, none⟩ = some (.int .i64 n)
theorem BoxA.below {w w' : World} {B K : Nat} {k n : Int} {vs vt : Value} (h : BoxA w B k n vs vt) (hb : Below K w w') (hK : B < K) : BoxA w' B k n vs vt :=
 ⟨(hb.cell hK).trans h.1, (hb.cell hK).trans h.2.1, (hb.cell hK).trans h.2.2.1, (hb.cell hK).trans h.2.2.2⟩
theorem boxA_alloc (w : World) (k n : Int) (vs vt : Value) : BoxA (w.alloc (.cells #[.int .i64 k, vs, vt, .int .i64 n] 50)) w.heap.size k n vs vt := ⟨by simp, by simp, by simp, by simp⟩
theorem aprint_bad (k F : Int) (n : Int) (sao tao : Option Addr) (sl scap tl tcap : Nat) (w : World)
    (hC : ∀ W, Below w.heap.size w W → Calls Tryz.prog 35 #[.agg #[.int .i64 k, .slice sao sl scap, .slice tao tl tcap, .int .i64 n]] W (Bk W (.iface 75 (.int .i64 F)))) :
    Calls Tryz.prog 47 #[.agg #[.int .i64 k, .slice sao sl scap, .slice tao tl tcap, .int .i64 n]] w (Bk w (.tuple #[.string ⟨#[]⟩, (.iface 75 (.int .i64 F))])) := by
 obtain ⟨w1, hw1⟩ := nm (w.alloc (.cells #[.int .i64 k, .slice sao sl scap, .slice tao tl tcap, .int .i64 n] 50))
 have HB1 : Hid (Below w.heap.size w w1) := by unfold Hid; rw [hw1]; exact below_alloc1 w _
 have HX : Hid (BoxA w1 w.heap.size k n (.slice sao sl scap) (.slice tao tl tcap)) := by unfold Hid; rw [hw1]; exact boxA_alloc w _ _ _ _
 have HK1 : Hid (w.heap.size < w1.heap.size) := by unfold Hid; rw [hw1]; simp
 have HC := hide (hC w1 HB1.out)
 clear hC
 obtain ⟨x0, x1, x2, x3⟩ := HX.out
 go_enter Tryz.func47, Tryz.ntmps47
 go_wp2_with fail
 rw [← hw1]
 clear hw1
 go_wp2_with (go_at_call 35; refine HC.out.mono ?_; rintro e w2 ⟨rfl, hb⟩; have HB2 : Hid (Below w.heap.size w w2) := HB1.out.trans (hb.mono HB1.out.size); clear hb)
 go_ret2
 exact ⟨rfl, HB2.out⟩
set_option maxHeartbeats 2000000 in
theorem aprint_two (k : Nat) (h0 : 0 < k) (h6 : k < 6) (Q : ByteArray) (hQ : Q.size ≤ 6) (ls lt : List UInt8) (zs : ls.length ≤ 20) (zt : lt.length ≤ 20) (n : Int) (sao tao : Option Addr) (sl scap tl tcap : Nat) (w : World)
    (HKc : Hid (∀ W, Below w.heap.size w W → W.cell? ⟨2, k * 3, none⟩ = some (.string Q) ∧ W.cell? ⟨2, k * 3 + 1, none⟩ = some (.bool true) ∧ W.cell? ⟨2, k * 3 + 2, none⟩ = some (.bool false)))
    (hC : ∀ W, Below w.heap.size w W → Calls Tryz.prog 35 #[.agg #[.int .i64 (k : Int), .slice sao sl scap, .slice tao tl tcap, .int .i64 n]] W (Bk W .nilIface))
    (hS : ∀ W, Below w.heap.size w W → Calls Tryz.prog 88 #[.slice sao sl scap] W (Bk W (.tuple #[.string (strOf ls), .nilIface])))
    (hT : ∀ W, Below w.heap.size w W → Calls Tryz.prog 88 #[.slice tao tl tcap] W (Bk W (.tuple #[.string (strOf lt), .nilIface])))
    : Calls Tryz.prog 47 #[.agg #[.int .i64 (k : Int), .slice sao sl scap, .slice tao tl tcap, .int .i64 n]] w (Bk w (.tuple #[.string (strOf (Q.data.toList ++ (32 :: ls) ++ (32 :: lt))), .nilIface])) := by
 obtain ⟨w1, hw1⟩ := nm (w.alloc (.cells #[.int .i64 (k : Int), .slice sao sl scap, .slice tao tl tcap, .int .i64 n] 50))
 have HB1 : Hid (Below w.heap.size w w1) := by unfold Hid; rw [hw1]; exact below_alloc1 w _
 have HX : Hid (BoxA w1 w.heap.size (k : Int) n (.slice sao sl scap) (.slice tao tl tcap)) := by unfold Hid; rw [hw1]; exact boxA_alloc w _ _ _ _
 have HK1 : Hid (w.heap.size < w1.heap.size) := by unfold Hid; rw [hw1]; simp
 have HT0 : Hid (∀ W, Below w1.heap.size w1 W → Below w.heap.size w W) := fun W h => HB1.out.trans (h.mono HB1.out.size)
 have HC := hide (hC w1 HB1.out)
 obtain ⟨ps, hps⟩ := nm (strOf ls)
 obtain ⟨pt, hpt⟩ := nm (strOf lt)
 have fs : ps.size ≤ 20 := by rw [hps, strOf_size]; exact zs
 have ft : pt.size ≤ 20 := by rw [hpt, strOf_size]; exact zt
 rw [← hps] at hS
 rw [← hpt] at hT
 have HS : Hid (∀ W, Below w1.heap.size w1 W → Calls Tryz.prog 88 #[.slice sao sl scap] W (Bk W (.tuple #[.string ps, .nilIface]))) := fun W h => hS W (HT0.out W h)
 have HT : Hid (∀ W, Below w1.heap.size w1 W → Calls Tryz.prog 88 #[.slice tao tl tcap] W (Bk W (.tuple #[.string pt, .nilIface]))) := fun W h => hT W (HT0.out W h)
 obtain ⟨R, hR⟩ := nm (strOf (Q.data.toList ++ (32 :: ls) ++ (32 :: lt)))
 rw [← hR]
 have HR : Hid (R.data.toList = Q.data.toList ++ (32 :: ps.data.toList) ++ (32 :: pt.data.toList)) := by
  unfold Hid; rw [hR, hps, hpt]; simp only [strOf_list]
 clear hR hps hpt zs zt hC hS hT
 obtain ⟨x0, x1, x2, x3⟩ := HX.out
 go_enter Tryz.func47, Tryz.ntmps47
 go_wp2_with fail
 rw [← hw1]
 clear hw1
 go_wp2_with fail
 go_at_call 35
 refine HC.out.mono ?_
 rintro e w2 ⟨rfl, hb⟩
 have HZ2 := hide hb
 clear hb x0 x1 x2 x3
 obtain ⟨q0, q1, q2⟩ := HKc.out _ (HT0.out _ HZ2.out)
 obtain ⟨x0, x1, x2, x3⟩ := HX.out.below HZ2.out HK1.out
 go_wp2_with fail
 go_at_call 88
 refine (HS.out _ HZ2.out).mono ?_
 rintro e w3 ⟨rfl, hb⟩
 have HZ3 := hide (HZ2.out.trans (hb.mono HZ2.out.size))
 clear hb x0 x1 x2 x3 q0 q1 q2
 obtain ⟨q0, q1, q2⟩ := HKc.out _ (HT0.out _ HZ3.out)
 obtain ⟨x0, x1, x2, x3⟩ := HX.out.below HZ3.out HK1.out
 go_wp2_with fail
 go_at_call 88
 refine (HT.out _ HZ3.out).mono ?_
 rintro e w4 ⟨rfl, hb⟩
 have HZ4 := hide (HZ3.out.trans (hb.mono HZ3.out.size))
 clear hb x0 x1 x2 x3 q0 q1 q2
 obtain ⟨q0, q1, q2⟩ := HKc.out _ (HT0.out _ HZ4.out)
 obtain ⟨x0, x1, x2, x3⟩ := HX.out.below HZ4.out HK1.out
 go_wp2_with fail
 go_ret2
 refine ⟨back_str ?_, HT0.out _ HZ4.out⟩
 refine (str_eq (l := R.data.toList) ?_).trans (strOf_data R)
 rw [HR.out]
 simp
set_option maxHeartbeats 2000000 in
theorem aprint_num (k : Nat) (h0 : 0 < k) (h6 : k < 6) (Q : ByteArray) (hQ : Q.size ≤ 6) (ls ln : List UInt8) (zs : ls.length ≤ 20) (zn : ln.length ≤ 20) (n : Int) (sao tao : Option Addr) (sl scap tl tcap : Nat) (w : World)
    (HKc : Hid (∀ W, Below w.heap.size w W → W.cell? ⟨2, k * 3, none⟩ = some (.string Q) ∧ W.cell? ⟨2, k * 3 + 1, none⟩ = some (.bool false) ∧ W.cell? ⟨2, k * 3 + 2, none⟩ = some (.bool true)))
    (hC : ∀ W, Below w.heap.size w W → Calls Tryz.prog 35 #[.agg #[.int .i64 (k : Int), .slice sao sl scap, .slice tao tl tcap, .int .i64 n]] W (Bk W .nilIface))
    (hS : ∀ W, Below w.heap.size w W → Calls Tryz.prog 88 #[.slice sao sl scap] W (Bk W (.tuple #[.string (strOf ls), .nilIface])))
    (hN : ∀ W, Below w.heap.size w W → Calls Tryz.prog 89 #[.int .i64 n] W (Bk W (.string (strOf ln))))
    : Calls Tryz.prog 47 #[.agg #[.int .i64 (k : Int), .slice sao sl scap, .slice tao tl tcap, .int .i64 n]] w (Bk w (.tuple #[.string (strOf (Q.data.toList ++ (32 :: ls) ++ (32 :: ln))), .nilIface])) := by
 obtain ⟨w1, hw1⟩ := nm (w.alloc (.cells #[.int .i64 (k : Int), .slice sao sl scap, .slice tao tl tcap, .int .i64 n] 50))
 have HB1 : Hid (Below w.heap.size w w1) := by unfold Hid; rw [hw1]; exact below_alloc1 w _
 have HX : Hid (BoxA w1 w.heap.size (k : Int) n (.slice sao sl scap) (.slice tao tl tcap)) := by unfold Hid; rw [hw1]; exact boxA_alloc w _ _ _ _
 have HK1 : Hid (w.heap.size < w1.heap.size) := by unfold Hid; rw [hw1]; simp
 have HT0 : Hid (∀ W, Below w1.heap.size w1 W → Below w.heap.size w W) := fun W h => HB1.out.trans (h.mono HB1.out.size)
 have HC := hide (hC w1 HB1.out)
 obtain ⟨ps, hps⟩ := nm (strOf ls)
 obtain ⟨pn, hpn⟩ := nm (strOf ln)
 have fs : ps.size ≤ 20 := by rw [hps, strOf_size]; exact zs
 have fn : pn.size ≤ 20 := by rw [hpn, strOf_size]; exact zn
 rw [← hps] at hS
 rw [← hpn] at hN
 have HS : Hid (∀ W, Below w1.heap.size w1 W → Calls Tryz.prog 88 #[.slice sao sl scap] W (Bk W (.tuple #[.string ps, .nilIface]))) := fun W h => hS W (HT0.out W h)
 have HN : Hid (∀ W, Below w1.heap.size w1 W → Calls Tryz.prog 89 #[.int .i64 n] W (Bk W (.string pn))) := fun W h => hN W (HT0.out W h)
 obtain ⟨R, hR⟩ := nm (strOf (Q.data.toList ++ (32 :: ls) ++ (32 :: ln)))
 rw [← hR]
 have HR : Hid (R.data.toList = Q.data.toList ++ (32 :: ps.data.toList) ++ (32 :: pn.data.toList)) := by
  unfold Hid; rw [hR, hps, hpn]; simp only [strOf_list]
 clear hR hps hpn zs zn hC hS hN
 obtain ⟨x0, x1, x2, x3⟩ := HX.out
 go_enter Tryz.func47, Tryz.ntmps47
 go_wp2_with fail
 rw [← hw1]
 clear hw1
 go_wp2_with fail
 go_at_call 35
 refine HC.out.mono ?_
 rintro e w2 ⟨rfl, hb⟩
 have HZ2 := hide hb
 clear hb x0 x1 x2 x3
 obtain ⟨q0, q1, q2⟩ := HKc.out _ (HT0.out _ HZ2.out)
 obtain ⟨x0, x1, x2, x3⟩ := HX.out.below HZ2.out HK1.out
 go_wp2_with fail
 go_at_call 88
 refine (HS.out _ HZ2.out).mono ?_
 rintro e w3 ⟨rfl, hb⟩
 have HZ3 := hide (HZ2.out.trans (hb.mono HZ2.out.size))
 clear hb x0 x1 x2 x3 q0 q1 q2
 obtain ⟨q0, q1, q2⟩ := HKc.out _ (HT0.out _ HZ3.out)
 obtain ⟨x0, x1, x2, x3⟩ := HX.out.below HZ3.out HK1.out
 go_wp2_with fail
 go_at_call 89
 refine (HN.out _ HZ3.out).mono ?_
 rintro e w5 ⟨rfl, hb⟩
 have HZ5 := hide (HZ3.out.trans (hb.mono HZ3.out.size))
 clear hb x0 x1 x2 x3 q0 q1 q2
 go_wp2_with fail
 go_ret2
 refine ⟨back_str ?_, HT0.out _ HZ5.out⟩
 refine (str_eq (l := R.data.toList) ?_).trans (strOf_data R)
 rw [HR.out]
 simp
set_option maxHeartbeats 2000000 in
theorem aprint_all (k : Nat) (h0 : 0 < k) (h6 : k < 6) (Q : ByteArray) (hQ : Q.size ≤ 6) (ls lt ln : List UInt8) (zs : ls.length ≤ 20) (zt : lt.length ≤ 20) (zn : ln.length ≤ 20) (n : Int) (sao tao : Option Addr) (sl scap tl tcap : Nat) (w : World)
    (HKc : Hid (∀ W, Below w.heap.size w W → W.cell? ⟨2, k * 3, none⟩ = some (.string Q) ∧ W.cell? ⟨2, k * 3 + 1, none⟩ = some (.bool true) ∧ W.cell? ⟨2, k * 3 + 2, none⟩ = some (.bool true)))
    (hC : ∀ W, Below w.heap.size w W → Calls Tryz.prog 35 #[.agg #[.int .i64 (k : Int), .slice sao sl scap, .slice tao tl tcap, .int .i64 n]] W (Bk W .nilIface))
    (hS : ∀ W, Below w.heap.size w W → Calls Tryz.prog 88 #[.slice sao sl scap] W (Bk W (.tuple #[.string (strOf ls), .nilIface])))
    (hT : ∀ W, Below w.heap.size w W → Calls Tryz.prog 88 #[.slice tao tl tcap] W (Bk W (.tuple #[.string (strOf lt), .nilIface])))
    (hN : ∀ W, Below w.heap.size w W → Calls Tryz.prog 89 #[.int .i64 n] W (Bk W (.string (strOf ln))))
    : Calls Tryz.prog 47 #[.agg #[.int .i64 (k : Int), .slice sao sl scap, .slice tao tl tcap, .int .i64 n]] w (Bk w (.tuple #[.string (strOf (Q.data.toList ++ (32 :: ls) ++ (32 :: lt) ++ (32 :: ln))), .nilIface])) := by
 obtain ⟨w1, hw1⟩ := nm (w.alloc (.cells #[.int .i64 (k : Int), .slice sao sl scap, .slice tao tl tcap, .int .i64 n] 50))
 have HB1 : Hid (Below w.heap.size w w1) := by unfold Hid; rw [hw1]; exact below_alloc1 w _
 have HX : Hid (BoxA w1 w.heap.size (k : Int) n (.slice sao sl scap) (.slice tao tl tcap)) := by unfold Hid; rw [hw1]; exact boxA_alloc w _ _ _ _
 have HK1 : Hid (w.heap.size < w1.heap.size) := by unfold Hid; rw [hw1]; simp
 have HT0 : Hid (∀ W, Below w1.heap.size w1 W → Below w.heap.size w W) := fun W h => HB1.out.trans (h.mono HB1.out.size)
 have HC := hide (hC w1 HB1.out)
 obtain ⟨ps, hps⟩ := nm (strOf ls)
 obtain ⟨pt, hpt⟩ := nm (strOf lt)
 obtain ⟨pn, hpn⟩ := nm (strOf ln)
 have fs : ps.size ≤ 20 := by rw [hps, strOf_size]; exact zs
 have ft : pt.size ≤ 20 := by rw [hpt, strOf_size]; exact zt
 have fn : pn.size ≤ 20 := by rw [hpn, strOf_size]; exact zn
 rw [← hps] at hS
 rw [← hpt] at hT
 rw [← hpn] at hN
 have HS : Hid (∀ W, Below w1.heap.size w1 W → Calls Tryz.prog 88 #[.slice sao sl scap] W (Bk W (.tuple #[.string ps, .nilIface]))) := fun W h => hS W (HT0.out W h)
 have HT : Hid (∀ W, Below w1.heap.size w1 W → Calls Tryz.prog 88 #[.slice tao tl tcap] W (Bk W (.tuple #[.string pt, .nilIface]))) := fun W h => hT W (HT0.out W h)
 have HN : Hid (∀ W, Below w1.heap.size w1 W → Calls Tryz.prog 89 #[.int .i64 n] W (Bk W (.string pn))) := fun W h => hN W (HT0.out W h)
 obtain ⟨R, hR⟩ := nm (strOf (Q.data.toList ++ (32 :: ls) ++ (32 :: lt) ++ (32 :: ln)))
 rw [← hR]
 have HR : Hid (R.data.toList = Q.data.toList ++ (32 :: ps.data.toList) ++ (32 :: pt.data.toList) ++ (32 :: pn.data.toList)) := by
  unfold Hid; rw [hR, hps, hpt, hpn]; simp only [strOf_list]
 clear hR hps hpt hpn zs zt zn hC hS hT hN
 obtain ⟨x0, x1, x2, x3⟩ := HX.out
 go_enter Tryz.func47, Tryz.ntmps47
 go_wp2_with fail
 rw [← hw1]
 clear hw1
 go_wp2_with fail
 go_at_call 35
 refine HC.out.mono ?_
 rintro e w2 ⟨rfl, hb⟩
 have HZ2 := hide hb
 clear hb x0 x1 x2 x3
 obtain ⟨q0, q1, q2⟩ := HKc.out _ (HT0.out _ HZ2.out)
 obtain ⟨x0, x1, x2, x3⟩ := HX.out.below HZ2.out HK1.out
 go_wp2_with fail
 go_at_call 88
 refine (HS.out _ HZ2.out).mono ?_
 rintro e w3 ⟨rfl, hb⟩
 have HZ3 := hide (HZ2.out.trans (hb.mono HZ2.out.size))
 clear hb x0 x1 x2 x3 q0 q1 q2
 obtain ⟨q0, q1, q2⟩ := HKc.out _ (HT0.out _ HZ3.out)
 obtain ⟨x0, x1, x2, x3⟩ := HX.out.below HZ3.out HK1.out
 go_wp2_with fail
 go_at_call 88
 refine (HT.out _ HZ3.out).mono ?_
 rintro e w4 ⟨rfl, hb⟩
 have HZ4 := hide (HZ3.out.trans (hb.mono HZ3.out.size))
 clear hb x0 x1 x2 x3 q0 q1 q2
 obtain ⟨q0, q1, q2⟩ := HKc.out _ (HT0.out _ HZ4.out)
 obtain ⟨x0, x1, x2, x3⟩ := HX.out.below HZ4.out HK1.out
 go_wp2_with fail
 go_at_call 89
 refine (HN.out _ HZ4.out).mono ?_
 rintro e w5 ⟨rfl, hb⟩
 have HZ5 := hide (HZ4.out.trans (hb.mono HZ4.out.size))
 clear hb x0 x1 x2 x3 q0 q1 q2
 go_wp2_with fail
 go_ret2
 refine ⟨back_str ?_, HT0.out _ HZ5.out⟩
 refine (str_eq (l := R.data.toList) ?_).trans (strOf_data R)
 rw [HR.out]
 simp
theorem digits_length (u : Nat) : (digitsN u).length ≤ 2 := by unfold digitsN; split <;> simp
theorem numText_length (n : Int) : (numText n).length ≤ 3 := by
 unfold numText
 split
 ·have := digits_length n.natAbs; simp; omega
 ·have := digits_length n.toNat; omega
def aprintS (k : Int) (s t : List Int) (n : Int) : ByteArray := if atomFault k s t n = 0 then strOf (atomText k s t n) else ⟨#[]⟩
theorem aprint_any (k n : Int) (vs vt : Value) (s t : List Int) (w : World) (hS : Reads w vs s) (hT : Reads w vt t) (hK : KindsLaid w) (hL : LibLaid w) :
    Calls Tryz.prog 47 #[.agg #[.int .i64 k, vs, vt, .int .i64 n]] w (Bk w (.tuple #[.string (aprintS k s t n), errV (atomFault k s t n)])) := by
 have hC : ∀ W, Below w.heap.size w W → _ := fun W hW => acheck_any k n vs vt s t W (hS.below hW) (hT.below hW) (hK.below hW)
 have hPS : ∀ W, Below w.heap.size w W → _ := fun W hW => print_any s vs W (hS.below hW)
 have hPT : ∀ W, Below w.heap.size w W → _ := fun W hW => print_any t vt W (hT.below hW)
 obtain ⟨sao, scap, rfl, _⟩ := hS.slice
 obtain ⟨tao, tcap, rfl, _⟩ := hT.slice
 by_cases hf : atomFault k s t n = 0
 ·obtain ⟨hk, hs, ht, n0, n1⟩ := atomFault_zero.1 hf
  have e0 : aprintS k s t n = strOf (atomText k s t n) := by unfold aprintS; rw [if_pos hf]
  have hm : mostN k ≤ 20 := by unfold mostN; split <;> omega
  rw [e0, hf, errV_0]
  rw [hf, errV_0] at hC
  have es : printS s = strOf (textN s) := by unfold printS; rw [if_pos hs]
  rw [es, hs, errV_0] at hPS
  have zs : (textN s).length ≤ 20 := by have := (fault_zero.1 hs).2.1; simp [textN]; omega
  have hsec : secondB k = true → (∀ W, Below w.heap.size w W → Calls Tryz.prog 88 #[.slice tao t.length tcap] W (Bk W (.tuple #[.string (strOf (textN t)), .nilIface]))) ∧ (textN t).length ≤ 20 := by
   intro h
   have h0 := second_reads ht h
   have et : printS t = strOf (textN t) := by unfold printS; rw [if_pos h0]
   rw [et, h0, errV_0] at hPT
   exact ⟨hPT, by have := (fault_zero.1 h0).2.1; simp [textN]; omega⟩
  have zn : (numText n).length ≤ 20 := by have := numText_length n; omega
  have hN : ∀ W, Below w.heap.size w W → Calls Tryz.prog 89 #[.int .i64 n] W (Bk W (.string (strOf (numText n)))) := fun W h => itoa_any n (by omega) (by omega) W (hL.below h)
  have hL := fun W (h : Below w.heap.size w W) => hK.below h
  rcases five hk.1 hk.2 with rfl | rfl | rfl | rfl | rfl
  ·obtain ⟨g1, g2⟩ := hsec (by decide)
   have := aprint_two 1 (by decide) (by decide) ⟨#[115, 117, 98]⟩ (by decide) (textN s) (textN t) zs g2 n sao tao _ scap _ tcap w (fun W h => ⟨hL W h _ (by decide), hL W h _ (by decide), hL W h _ (by decide)⟩) hC hPS g1
   simpa [atomText, kindWord, secondB, numberB] using this
  ·obtain ⟨g1, g2⟩ := hsec (by decide)
   have := aprint_two 2 (by decide) (by decide) ⟨#[115, 97, 109, 101]⟩ (by decide) (textN s) (textN t) zs g2 n sao tao _ scap _ tcap w (fun W h => ⟨hL W h _ (by decide), hL W h _ (by decide), hL W h _ (by decide)⟩) hC hPS g1
   simpa [atomText, kindWord, secondB, numberB] using this
  ·have := aprint_num 3 (by decide) (by decide) ⟨#[108, 101, 97, 115, 116]⟩ (by decide) (textN s) (numText n) zs zn n sao tao _ scap _ tcap w (fun W h => ⟨hL W h _ (by decide), hL W h _ (by decide), hL W h _ (by decide)⟩) hC hPS hN
   simpa [atomText, kindWord, secondB, numberB] using this
  ·have := aprint_num 4 (by decide) (by decide) ⟨#[109, 111, 115, 116]⟩ (by decide) (textN s) (numText n) zs zn n sao tao _ scap _ tcap w (fun W h => ⟨hL W h _ (by decide), hL W h _ (by decide), hL W h _ (by decide)⟩) hC hPS hN
   simpa [atomText, kindWord, secondB, numberB] using this
  ·obtain ⟨g1, g2⟩ := hsec (by decide)
   have := aprint_all 5 (by decide) (by decide) ⟨#[110, 111, 109, 111, 114, 101]⟩ (by decide) (textN s) (textN t) (numText n) zs g2 zn n sao tao _ scap _ tcap w (fun W h => ⟨hL W h _ (by decide), hL W h _ (by decide), hL W h _ (by decide)⟩) hC hPS g1 hN
   simpa [atomText, kindWord, secondB, numberB] using this
 ·have e0 : aprintS k s t n = ⟨#[]⟩ := by unfold aprintS; rw [if_neg hf]
  rw [e0, errV_no hf]
  rw [errV_no hf] at hC
  exact aprint_bad k _ n sao tao _ scap _ tcap w hC
end Go.Proofs.YtjaedfjfcghgcabGreatDoor