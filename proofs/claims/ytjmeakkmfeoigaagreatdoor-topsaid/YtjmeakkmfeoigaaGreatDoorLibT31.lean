/-
  Facts and contracts that the statement leans on.
-/
import Derived.Test.YtjmeakkmfeoigaaGreatDoorLibT30
import Derived.Test.YtjmeakkmfeoigaaGreatDoorLibT12
import Derived.Maps.OwnIn
import Derived.Test.YtjmeakkmfeoigaaGreatDoorLibT27
import Derived.Test.YtjmeakkmfeoigaaGreatDoorLibT29
import Derived.Test.YtjmeakkmfeoigaaGreatDoorLibT9
namespace Go.Proofs.YtjmeakkmfeoigaaGreatDoor
open Go.ChangeShapes Go.WideShapes Go.ChangeAt Go.RowKit
set_option maxRecDepth 100000
attribute [local go_sem] Oper.semAt_some
theorem held_new (w : World) (o0 o1 o2 : Obj) :
    (((w.alloc o0).alloc o1).alloc o2).heap.size = w.heap.size + 3 ∧
    (((w.alloc o0).alloc o1).alloc o2).heap[w.heap.size]? = some o0 ∧
    (((w.alloc o0).alloc o1).alloc o2).heap[w.heap.size + 1]? = some o1 ∧
    (((w.alloc o0).alloc o1).alloc o2).heap[w.heap.size + 1 + 1]? = some o2 ∧
    Below w.heap.size w (((w.alloc o0).alloc o1).alloc o2) := by
 have s1 : (w.alloc o0).heap.size = w.heap.size + 1 := World.size_alloc _ _
 have s2 : ((w.alloc o0).alloc o1).heap.size = w.heap.size + 1 + 1 := by rw [World.size_alloc, s1]
 refine ⟨by rw [World.size_alloc, s2], ?_, ?_, ?_, ?_⟩
 ·rw [Below.heap_alloc _ _ _ (by omega), Below.heap_alloc _ _ _ (by omega)]; exact World.alloc_heap_new _ _
 ·rw [Below.heap_alloc _ _ _ (by omega), ← s1]; exact World.alloc_heap_new _ _
 ·rw [← s2]; exact World.alloc_heap_new _ _
 ·exact (((Below.refl _ w).alloc (Nat.le_refl _) _).alloc (by omega) _).alloc (by omega) _
theorem held_slice {X : World} {K n size : Nat} {e : TypeId} {v : Value} {xs : List Value} (h : X.ownsRow K e size v n xs) : ∃ ao l cap, v = .slice ao l cap := by
 rcases h.2 with ⟨rfl, _⟩ | ⟨g, cap, cur, rfl, _⟩
 ·exact ⟨_, _, _, rfl⟩
 ·exact ⟨_, _, _, rfl⟩
theorem appendIn_long {F : Fence} {nF : Nat} {w : World} {ops : Array Oper} {rest : List Oper} {o : Oper} {a : Act} {Q : Exit → Act → World → Prop} (hgd : o.guard = none) (s x : Operand)
    (ho : o.op = .call { callee := .builtin .append, args := #[s, x], argTypes := #[27, 27] }) (K : Nat) (v : Value) (hs : a.eval s = v) (l : List Int) (r : Int) (B c : Nat) (hx : a.eval x = .slice (some ⟨B, 0, none⟩) 1 c)
    (hown : w.ownsRow K 3 1 v l.length (l.map (Value.int .i64))) (hB : w.heap[B]? = some (.cells #[.int .i64 r] 3 (0, 0))) (hK : K ≤ w.heap.size) (h12 : l.length ≤ 1000000)
    (h : ∀ v' w', w'.ownsRow K 3 1 v' (l.length + 1) ((l ++ [r]).map (Value.int .i64)) → w.grownBy w' v.ownBlock → (v'.ownBlock = v.ownBlock ∨ v'.ownBlock = some w.heap.size) → wpListIn F nF Tryz.prog ops Q rest (a.put o.dst v') w') :
    wpListIn F nF Tryz.prog ops Q (o :: rest) a w := by
 obtain ⟨i1, hi⟩ : ∃ i, Tryz.prog.info? 3 = some i := Option.isSome_iff_exists.1 infoH
 have hz0 : i1.zero = some (.int .i64 0) := by have := zeroH; rw [hi] at this; simpa using this
 have hz1 : i1.size = 1 := by have := sizeH; rw [hi] at this; simpa using this
 have hz2 : i1.bytes = 8 := by have := bytesH; rw [hi] at this; simpa using this
 refine wpListIn_append_own_at w hgd s x 27 ho K 3 i1 _ 1 8 Tryz.underlying27 hi hz0 hz1 hz2 rfl (by decide) v l.length (l.map (Value.int .i64)) hs hown ⟨B, 0, none⟩ 1 c [.int .i64 r] hx rfl (World.news_of_block hB) (by simp [Value.oneCell']) (by unfold maxLen; omega) (by omega) hK ?_
 intro v' w' h1 h2 _ h5
 refine h v' w' ?_ h2 h5
 rw [List.map_append]
 exact h1
theorem loadS {W : World} {R : Nat} {v : Value} (h : Blk W R 27 #[v]) : (loadVar 27 ⟨R, 0, none⟩).run Tryz.prog W = .ok v W := by
 have hc : W.cell? ⟨R, 0, none⟩ = some v := h.cell 0
 simp [loadVar, Tryz.isAgg27, Result.andThen, hc]
set_option maxHeartbeats 8000000 in
theorem held_right (lo : Option Addr) (ll lcap : Nat) (n : Nat) (hn : n ≤ 6) (p : (Nat → Int) → Int) (w : World)
    (hC : ∀ W, Below w.heap.size w W → Calls Tryz.prog 76 #[.slice lo ll lcap, .int .i64 n] W (Bk W .nilIface))
    (hW : ∀ (M : Nat → Int) W, M ∈ everyC n → Calls Tryz.prog 78 #[.agg #[.int .i64 (M 0), .int .i64 (M 1), .int .i64 (M 2), .int .i64 (M 3), .int .i64 (M 4), .int .i64 (M 5), .int .i64 (M 6), .int .i64 (M 7)]] W (Bk W (.tuple #[.agg #[.int .i64 (madeN M 8).u, .int .i64 (madeN M 8).a, .int .i64 (madeN M 8).b, .int .i64 (madeN M 8).c], .nilIface])))
    (hH : ∀ (M : Nat → Int) W, M ∈ everyC n → Below w.heap.size w W → Calls Tryz.prog 129 #[.slice lo ll lcap, .agg #[.int .i64 (madeN M 8).u, .int .i64 (madeN M 8).a, .int .i64 (madeN M 8).b, .int .i64 (madeN M 8).c]] W (Bk W (.tuple #[.int .i64 (p M), .nilIface]))) :
    Calls Tryz.prog 91 #[.slice lo ll lcap, .int .i64 n] w fun e w' => (∃ v, e = .returned (.tuple #[v, .nilIface]) ∧ Reads w' v ((everyC n).map p)) ∧ Below w.heap.size w w' := by
 obtain ⟨A, hA⟩ := nm (everyC n)
 have HC := hide hC
 have HWo : Hid (∀ (k : Nat) (M : Nat → Int) W, A[k]? = some M → Calls Tryz.prog 78 #[.agg #[.int .i64 (M 0), .int .i64 (M 1), .int .i64 (M 2), .int .i64 (M 3), .int .i64 (M 4), .int .i64 (M 5), .int .i64 (M 6), .int .i64 (M 7)]] W (Bk W (.tuple #[.agg #[.int .i64 (madeN M 8).u, .int .i64 (madeN M 8).a, .int .i64 (madeN M 8).b, .int .i64 (madeN M 8).c], .nilIface]))) := fun k M W hM => hW M W (by rw [hA] at hM; exact List.mem_of_getElem? hM)
 have HH : Hid (∀ (k : Nat) (M : Nat → Int) W, A[k]? = some M → Below w.heap.size w W → Calls Tryz.prog 129 #[.slice lo ll lcap, .agg #[.int .i64 (madeN M 8).u, .int .i64 (madeN M 8).a, .int .i64 (madeN M 8).b, .int .i64 (madeN M 8).c]] W (Bk W (.tuple #[.int .i64 (p M), .nilIface]))) := fun k M W hM hW' => hH M W (by rw [hA] at hM; exact List.mem_of_getElem? hM) hW'
 have HS : Hid (∀ Bu W, W.cell? ⟨Bu, 0, none⟩ = some (.int .i64 n) → SeqR 2 Tryz.prog 115 #[.pointer (some ⟨Bu, 0, none⟩)] enc8 A W) := fun Bu W hB => by rw [hA]; exact iter_anyR n hn 2 (by omega) Bu W hB
 have HLn : Hid (A.length ≤ 1716) := by unfold Hid; rw [hA]; exact length_everyC hn
 rw [← hA]
 clear hA hn hC hH hW
 obtain ⟨hs1, b0, b1, b2, hB1⟩ := held_new w (.cells #[.slice lo ll lcap] 34) (.cells #[.slice none 0 0] 27) (.cells #[.nilIface] 24)
 obtain ⟨w1, hw1⟩ := nm (((w.alloc (.cells #[.slice lo ll lcap] 34)).alloc (.cells #[.slice none 0 0] 27)).alloc (.cells #[.nilIface] 24))
 rw [← hw1] at hs1 b0 b1 b2 hB1
 have HB1 := hide hB1
 have Hs1 := hide hs1
 have I0 : Hid (Blk w1 w.heap.size 34 #[.slice lo ll lcap]) := b0
 have I1 : Hid (Blk w1 (w.heap.size + 1) 27 #[.slice none 0 0]) := b1
 have I2 : Hid (Blk w1 (w.heap.size + 1 + 1) 24 #[.nilIface]) := b2
 clear hs1 b0 b1 b2 hB1
 refine (callsIn_wide (n := 3)).1 ?_
 refine callsIn_of_wp_marks Tryz.func91 rfl trivial ?_ rfl
 simp only [Tryz.ntmps91, List.size_toArray, List.length_cons, List.length_nil, Nat.reduceAdd, Nat.reduceSub, Array.replicate_succ, Array.replicate_zero, List.push_toArray, List.append_toArray, List.nil_append, List.cons_append]
 gi_upto_region 1 with fail
 rw [← hw1]
 clear hw1
 have i0 : w1.cell? ⟨w.heap.size, 0, none⟩ = some (.slice lo ll lcap) := I0.out.cell 0
 gi_wp2_with fail
 refine ⟨trivial, ?_⟩
 gi_at_call 76
 refine (callsIn_wide.2 (HC.out _ HB1.out)).mono ?_
 rintro e w2 ⟨rfl, hb2⟩
 have HB2 := hide (HB1.out.trans (hb2.mono HB1.out.size))
 have J0 := hide (I0.out.below hb2)
 have J1 := hide (I1.out.below hb2)
 have J2 := hide (I2.out.below hb2)
 obtain ⟨G, hG⟩ := nm w2.heap.size
 have HG : Hid (w.heap.size + 3 ≤ G) := by unfold Hid; rw [hG, ← Hs1.out]; exact hb2.size
 clear hb2 i0
 gi_wp2_with fail
 refine ⟨trivial, ?_⟩
 gi_at_call 77
 refine (callsIn_wide.2 (fitAll_any _ _)).mono ?_
 rintro e w4 ⟨rfl, rfl⟩
 gi_wp2_with fail
 obtain ⟨wl, hwl⟩ := nm ((w2.alloc (.cells #[.slice none 0 0] 27)).alloc (.cells #[.int .i64 n] 3))
 have HB0 : Hid (Below w.heap.size w wl) := by unfold Hid; rw [hwl]; exact (HB2.out.alloc HB2.out.size _).alloc (by rw [World.size_alloc]; exact Nat.le_succ_of_le HB2.out.size) _
 have Hsz : Hid (wl.heap.size = G + 2) := by unfold Hid; rw [hwl, hG, World.size_alloc, World.size_alloc]
 have H0 : Hid (Blk wl w.heap.size 34 #[.slice lo ll lcap]) := by unfold Hid; rw [hwl]; exact (J0.out.old _).old _
 have H1 : Hid (Blk wl (w.heap.size + 1) 27 #[.slice none 0 0]) := by unfold Hid; rw [hwl]; exact (J1.out.old _).old _
 have H2 : Hid (Blk wl (w.heap.size + 1 + 1) 24 #[.nilIface]) := by unfold Hid; rw [hwl]; exact (J2.out.old _).old _
 have H3 : Hid (Blk wl G 27 #[.slice none 0 0]) := by unfold Hid; rw [hwl, hG]; exact (Blk.new _ _ _).old _
 have H4 : Hid (Blk wl (G + 1) 3 #[.int .i64 n]) := by
  unfold Hid; rw [hwl, hG]
  have := Blk.new (w2.alloc (.cells #[.slice none 0 0] 27)) 3 #[.int .i64 n]
  rw [World.size_alloc] at this
  exact this
 rw [← hwl, ← hG]
 clear hwl hG
 refine wpIn_range_ownR (by omega) (gf := 115) (lb := #[.pointer (some ⟨G + 1, 0, none⟩)]) rfl (enters_of Tryz.func115 (by kernel_rfl) rfl) (encs := enc8) (A := A)
  (fun W hW => HS.out _ W ((hW.cell (by rw [Hsz.out]; simp)).trans (H4.out.cell 0))) (fun _ => rfl)
  (fun k R W => Below w.heap.size w W ∧ Blk W w.heap.size 34 #[.slice lo ll lcap] ∧ Blk W (w.heap.size + 1) 27 #[.slice none 0 0] ∧ Blk W (w.heap.size + 1 + 1) 24 #[.nilIface] ∧ ∃ v, Blk W G 27 #[v] ∧ W.ownsRow (G + 2) 3 1 v ((A.take k).map p).length (((A.take k).map p).map (Value.int .i64)) ∧ ∀ b, v.ownBlock = some b → R b)
  (fun _ _ => False)
  (fun k R X Y h hb => by
   obtain ⟨h1, h2, h3, h4, v, h5, h6, h7⟩ := h
   have hg := HG.out
   have hz := Hsz.out
   refine ⟨h1.trans (hb.below.mono (by omega)), h2.keep hb.below (by omega), h3.keep hb.below (by omega), h4.keep hb.below (by omega), v, h5.keep hb.below (by omega), own_keep h6 fun b e => hb.own b (h7 b e) (h6.lt b e).2, h7⟩)
  (fun _ _ _ h _ => h) ⟨HB0.out, H0.out, H1.out, H2.out, .slice none 0 0, H3.out, World.ownsRow_nil _ _ _ _, fun b e => by cases e⟩ ?round ?done ?stop
 case round =>
  intro ln k x R W hx hl1 hl2 hlR ⟨hB, c0, c1, c2, v, c3, c4, c5⟩
  have HX := hide hx
  have HkL : Hid (k < A.length) := (List.getElem?_eq_some_iff.1 hx).1
  have Hl1 : Hid (G + 2 ≤ ln) := by unfold Hid; rw [← Hsz.out]; exact hl1
  have Hl2 := hide hl2
  have HlR := hide hlR
  have HBk := hide hB
  have C0 : Hid (Blk W w.heap.size 34 #[.slice lo ll lcap]) := c0
  have C1 : Hid (Blk W (w.heap.size + 1) 27 #[.slice none 0 0]) := c1
  have C2 : Hid (Blk W (w.heap.size + 1 + 1) 24 #[.nilIface]) := c2
  have C3 : Hid (Blk W G 27 #[v]) := c3
  have C5 := hide c5
  obtain ⟨l, hl⟩ := nm ((A.take k).map p)
  have HLl : Hid (l.length = k) := by unfold Hid; rw [hl, List.length_map, List.length_take]; have := HkL.out; omega
  have HLs : Hid ((A.take (k + 1)).map p = l ++ [p x]) := by
   unfold Hid; rw [List.take_add_one, hx, List.map_append, ← hl]; rfl
  rw [← hl] at c4
  have C4 := hide c4
  clear hx hl1 hl2 hlR hB c0 c1 c2 c3 c4 c5 hl
  unfold enc8
  gi_wp2
  refine ⟨(Over.refl _ _).alloc _, fun o => ?_⟩
  obtain ⟨W2, hW2⟩ := nm ((W.alloc (.cells #[.int .i64 (x 0), .int .i64 (x 1), .int .i64 (x 2), .int .i64 (x 3), .int .i64 (x 4), .int .i64 (x 5), .int .i64 (x 6), .int .i64 (x 7)] 122)).putObj ln o)
  obtain ⟨Gx, hGx⟩ := nm W.heap.size
  have HB2 : Hid (Below w.heap.size w W2) := by unfold Hid; rw [hW2]; exact (HBk.out.alloc HBk.out.size _).trans (below_putObj _ _ (by have := Hl1.out; have := HG.out; omega))
  have D0 : Hid (Blk W2 w.heap.size 34 #[.slice lo ll lcap]) := by unfold Hid; rw [hW2]; exact (C0.out.old _).putO _ (by have := Hl1.out; have := HG.out; omega)
  have D1 : Hid (Blk W2 (w.heap.size + 1) 27 #[.slice none 0 0]) := by unfold Hid; rw [hW2]; exact (C1.out.old _).putO _ (by have := Hl1.out; have := HG.out; omega)
  have D2 : Hid (Blk W2 (w.heap.size + 1 + 1) 24 #[.nilIface]) := by unfold Hid; rw [hW2]; exact (C2.out.old _).putO _ (by have := Hl1.out; have := HG.out; omega)
  have D3 : Hid (Blk W2 G 27 #[v]) := by unfold Hid; rw [hW2]; exact (C3.out.old _).putO _ (by have := Hl1.out; omega)
  have D4 : Hid (W2.ownsRow (G + 2) 3 1 v l.length (l.map (Value.int .i64))) := by
   unfold Hid; rw [hW2]
   refine own_keep (C4.out.alloc _) fun b e => World.putObj_heap_other fun e' => HlR.out (C5.out _ (e' ▸ e))
  have D8 : Hid (Blk W2 Gx 122 (arr8 x)) := by unfold Hid; rw [hW2, hGx]; exact (Blk.new _ _ _).putO _ (by have := Hl2.out; omega)
  have HS2 : Hid (G + 2 ≤ W2.heap.size) := by unfold Hid; rw [hW2]; have := Hl1.out; have := Hl2.out; simp; omega
  rw [← hW2, ← hGx]
  clear hW2 hGx
  have HWk := hide (HWo.out k x W2 HX.out)
  have HHk : Hid (∀ W, Below w.heap.size w W → Calls Tryz.prog 129 #[.slice lo ll lcap, .agg #[.int .i64 (madeN x 8).u, .int .i64 (madeN x 8).a, .int .i64 (madeN x 8).b, .int .i64 (madeN x 8).c]] W (Bk W (.tuple #[.int .i64 (p x), .nilIface]))) := fun W hW => HH.out k x W HX.out hW
  obtain ⟨D, hD⟩ := nm (madeN x 8)
  obtain ⟨q, hq⟩ := nm (p x)
  rw [← hD] at HWk HHk
  rw [← hq] at HHk HLs
  clear hD hq
  obtain ⟨x0, x1, x2, x3, x4, x5, x6, x7⟩ := D8.out.cells8
  gi_wp2_with fail
  refine ⟨trivial, ?_⟩
  gi_at_call 78
  refine (CallsIn.inRound ln (callsIn_wide.2 HWk.out)).mono ?_
  rintro e W3 ⟨rfl, hb3⟩
  obtain ⟨W4, hW4⟩ := nm (W3.alloc (.cells #[.int .i64 D.u, .int .i64 D.a, .int .i64 D.b, .int .i64 D.c] 55))
  obtain ⟨Gw, hGw⟩ := nm W3.heap.size
  have hb4 : Below W2.heap.size W2 W4 := by rw [hW4]; exact hb3.alloc hb3.size _
  have HB4 := hide (HB2.out.trans (hb4.mono HB2.out.size))
  have E0 := hide (D0.out.below hb4)
  have E1 := hide (D1.out.below hb4)
  have E2 := hide (D2.out.below hb4)
  have E3 := hide (D3.out.below hb4)
  have E4 : Hid (W4.ownsRow (G + 2) 3 1 v l.length (l.map (Value.int .i64))) := ownsRow_below D4.out hb4
  have E9 : Hid (Blk W4 Gw 55 #[.int .i64 D.u, .int .i64 D.a, .int .i64 D.b, .int .i64 D.c]) := by unfold Hid; rw [hW4, hGw]; exact Blk.new _ _ _
  have HO4 := hide hb4
  clear hb3 hb4 x0 x1 x2 x3 x4 x5 x6 x7
  gi_upto_region 10 with fail
  rw [← hW4, ← hGw]
  clear hW4 hGw
  have y0 : W4.cell? ⟨w.heap.size, 0, none⟩ = some (.slice lo ll lcap) := E0.out.cell 0
  have z0 : W4.cell? ⟨Gw, 0, none⟩ = some (.int .i64 D.u) := E9.out.cell 0
  have z1 : W4.cell? ⟨Gw, 1, none⟩ = some (.int .i64 D.a) := E9.out.cell 1
  have z2 : W4.cell? ⟨Gw, 2, none⟩ = some (.int .i64 D.b) := E9.out.cell 2
  have z3 : W4.cell? ⟨Gw, 3, none⟩ = some (.int .i64 D.c) := E9.out.cell 3
  gi_wp2_with fail
  refine ⟨trivial, ?_⟩
  gi_at_call 129
  refine (CallsIn.inRound ln (callsIn_wide.2 (HHk.out _ HB4.out))).mono ?_
  rintro e W5 ⟨rfl, hb5⟩
  have HB5 := hide (HB4.out.trans (hb5.mono HB4.out.size))
  have F0 := hide (E0.out.below hb5)
  have F1 := hide (E1.out.below hb5)
  have F2 := hide (E2.out.below hb5)
  have F3 := hide (E3.out.below hb5)
  have F4 : Hid (W5.ownsRow (G + 2) 3 1 v l.length (l.map (Value.int .i64))) := ownsRow_below E4.out hb5
  have HO5 := hide (HO4.out.trans (hb5.mono HO4.out.size))
  clear hb5 y0 z0 z1 z2 z3
  have y3 : W5.cell? ⟨G, 0, none⟩ = some v := F3.out.cell 0
  have hl12 : l.length ≤ 1000000 := by have := HLl.out; have := HkL.out; have := HLn.out; omega
  have HS5 : Hid (G + 2 ≤ W5.heap.size) := Nat.le_trans HS2.out HO5.out.size
  gi_wp2_with (gi_at_builtin; refine appendIn_long rfl _ _ rfl (G + 2) v rfl l q W5.heap.size 1 rfl (F4.out.alloc _) (heap_alloc_new W5 _) (by have := HS5.out; simp; omega) hl12 ?_)
  intro v9 W7 hown hgrow hat
  obtain ⟨vo, vn, vc, hv9⟩ := held_slice hown
  subst hv9
  obtain ⟨v9, hv9⟩ := nm (Value.slice vo vn vc)
  rw [← hv9] at hown hat
  obtain ⟨W6, hW6⟩ := nm (W5.alloc (.cells #[.int .i64 q] 3))
  rw [← hW6] at hgrow
  have hb6 : Below W2.heap.size W2 W6 := by rw [hW6]; exact HO5.out.alloc HO5.out.size _
  have hB6 : Below w.heap.size w W6 := HB2.out.trans (hb6.mono HB2.out.size)
  have hge : ∀ b, v.ownBlock = some b → G + 2 ≤ b := fun b e => (F4.out.lt b e).1
  have hB7 : Below w.heap.size w W7 := hB6.grown hgrow hB6.size fun b e => by have := hge b e; have := HG.out; omega
  have keep : ∀ g T cs, Blk W2 g T cs → g < G + 2 → Blk W7 g T cs := fun g T cs h hg => by
   have h6 := h.below hb6
   unfold Blk
   rw [hgrow.block g h6.lt fun e => by have := hge g e.symm; omega]
   exact h6
  have hO7 : OverR R wl.heap.size W2 W7 := ⟨Nat.le_trans hb6.size hgrow.size, fun b hb hl hr => by
   rw [hgrow.block b (Nat.lt_of_lt_of_le hl hb6.size) fun e => hr (C5.out b e.symm)]
   exact hb6.block b hl⟩
  have hat' : ∀ b, v9.ownBlock = some b → R b ∨ W2.heap.size ≤ b := fun b e => by
   rcases hat with h | h
   ·exact Or.inl (C5.out b (h ▸ e))
   ·rw [h] at e
    have := Option.some.inj e
    have := HO5.out.size
    right; omega
  have H7 : Hid (Below w.heap.size w W7 ∧ Blk W7 w.heap.size 34 #[.slice lo ll lcap] ∧ Blk W7 (w.heap.size + 1) 27 #[.slice none 0 0] ∧ Blk W7 (w.heap.size + 1 + 1) 24 #[.nilIface] ∧ Blk W7 G 27 #[v] ∧ OverR R wl.heap.size W2 W7 ∧ ∀ b, v9.ownBlock = some b → R b ∨ W2.heap.size ≤ b) :=
   ⟨hB7, keep _ _ _ D0.out (by have := HG.out; omega), keep _ _ _ D1.out (by have := HG.out; omega), keep _ _ _ D2.out (by have := HG.out; omega), keep _ _ _ D3.out (by omega), hO7, hat'⟩
  have H9 : Hid (W7.ownsRow (G + 2) 3 1 v9 ((A.take (k + 1)).map p).length (((A.take (k + 1)).map p).map (Value.int .i64))) := by
   unfold Hid; rw [HLs.out, List.length_append, List.map_append]; exact hown
  clear hown hgrow hat hW6 hb6 hB6 hge hB7 keep hO7 hat' y3
  have y3 : W7.cell? ⟨G, 0, none⟩ = some v := H7.out.2.2.2.2.1.cell 0
  have z3 : W7.frozen? ⟨G, 0, none⟩ = false := H7.out.2.2.2.2.1.frozen 0
  have HV9 := hide hv9
  clear hv9
  gi_wp2
  rw [← HV9.out]
  obtain ⟨q0, q1, q2, q3, q4, q5, q6⟩ := H7.out
  have hg := HG.out
  have hz := Hsz.out
  refine ⟨q5.trans (OverR.of ((Over.refl _ _).setCell (by rw [hz]; simp) _)), fun b => v9.ownBlock = some b, ⟨q0.setCell (by simp; omega) _, q1.far (by omega) _ _, q2.far (by omega) _ _, q3.far (by omega) _ _, v9, ?_, ?_, fun b e => e⟩, q6⟩
  ·exact q4.set 0 v9
  ·refine own_keep H9.out fun b e => Below.heap_setCell _ _ _ _ ?_
   have := (H9.out.lt b e).1
   simp; omega
 case done =>
  intro D R W hD hDR ⟨hB, c0, c1, c2, v, c3, c4, c5⟩ hK
  obtain ⟨vo, vn, vc, rfl⟩ := held_slice c4
  have HD : Hid (G + 2 ≤ D) := by unfold Hid; rw [← Hsz.out]; exact hD
  have HK := hide hK
  have HBk := hide hB
  rw [List.take_length] at c4
  have C1 : Hid (Blk W (w.heap.size + 1) 27 #[.slice none 0 0]) := c1
  have C2 : Hid (Blk W (w.heap.size + 1 + 1) 24 #[.nilIface]) := c2
  have C3 : Hid (Blk W G 27 #[.slice vo vn vc]) := c3
  have C4 := hide c4
  have HDR : Hid ((Value.slice vo vn vc).ownBlock ≠ some D) := fun e => hDR (c5 D e)
  clear hD hB c0 c1 c2 c3 c4 c5 hK hDR
  have e1 : W.cell? ⟨w.heap.size + 1, 0, none⟩ = some (.slice none 0 0) := C1.out.cell 0
  have z1 : W.frozen? ⟨w.heap.size + 1, 0, none⟩ = false := C1.out.frozen 0
  have e2 : W.cell? ⟨w.heap.size + 1 + 1, 0, none⟩ = some .nilIface := C2.out.cell 0
  have z2 : W.frozen? ⟨w.heap.size + 1 + 1, 0, none⟩ = false := C2.out.frozen 0
  have e3 : W.cell? ⟨G, 0, none⟩ = some (.slice vo vn vc) := C3.out.cell 0
  gi_wp2
  have hd := HD.out
  have hg := HG.out
  have hK' : ((W.setCell ⟨w.heap.size + 1, 0, none⟩ (.slice vo vn vc)).setCell ⟨w.heap.size + 1 + 1, 0, none⟩ .nilIface).heap[D]? = some (.deferred (some [])) := by
   rw [Below.heap_setCell _ _ _ _ (by simp; omega), Below.heap_setCell _ _ _ _ (by simp; omega)]; exact HK.out
  have r1 : Blk ((W.setCell ⟨w.heap.size + 1, 0, none⟩ (.slice vo vn vc)).setCell ⟨w.heap.size + 1 + 1, 0, none⟩ .nilIface) (w.heap.size + 1) 27 #[.slice vo vn vc] := (C1.out.set 0 _).far (by omega) _ _
  have r2 : Blk ((W.setCell ⟨w.heap.size + 1, 0, none⟩ (.slice vo vn vc)).setCell ⟨w.heap.size + 1 + 1, 0, none⟩ .nilIface) (w.heap.size + 1 + 1) 24 #[.nilIface] := (C2.out.far (by omega) _ _).set 0 _
  refine ⟨by simp, .inl ⟨_, _, rfl, run_takeDeferred hK', ?_⟩⟩
  have l1 := loadS (r1.putO (.deferred none) (l := D) (by omega))
  have l2 := loadE (r2.putO (.deferred none) (l := D) (by omega))
  refine ⟨.tuple #[.slice vo vn vc, .nilIface], ?_, ⟨_, rfl, ?_⟩, ?_⟩
  ·rw [results_two rfl]
   simp [asAddr, Result.andThen, l1, l2]
  ·refine own_readsL (own_keep C4.out fun b e => ?_) (by rw [List.length_map]; have := HLn.out; omega)
   have hge := (C4.out.lt b e).1
   rw [World.putObj_heap_other (show b ≠ D from fun e' => HDR.out (e' ▸ e)), Below.heap_setCell _ _ _ _ (by simp; omega), Below.heap_setCell _ _ _ _ (by simp; omega)]
  ·exact ((HBk.out.setCell (by simp) _).setCell (by simp; omega) _).trans (below_putObj _ _ (by omega))
 case stop => exact fun _ _ _ _ _ h => h.elim
set_option maxHeartbeats 4000000 in
theorem held_wrong (lo : Option Addr) (ll lcap : Nat) (u F : Int) (w : World)
    (hC : ∀ W, Below w.heap.size w W → Calls Tryz.prog 76 #[.slice lo ll lcap, .int .i64 u] W (Bk W (.iface 64 (.int .i64 F)))) :
    Calls Tryz.prog 91 #[.slice lo ll lcap, .int .i64 u] w (Bk w (.tuple #[.slice none 0 0, .iface 64 (.int .i64 F)])) := by
 have HC := hide hC
 clear hC
 obtain ⟨hs1, b0, b1, b2, hB1⟩ := held_new w (.cells #[.slice lo ll lcap] 34) (.cells #[.slice none 0 0] 27) (.cells #[.nilIface] 24)
 obtain ⟨w1, hw1⟩ := nm (((w.alloc (.cells #[.slice lo ll lcap] 34)).alloc (.cells #[.slice none 0 0] 27)).alloc (.cells #[.nilIface] 24))
 rw [← hw1] at hs1 b0 b1 b2 hB1
 have HB1 := hide hB1
 have I0 : Hid (Blk w1 w.heap.size 34 #[.slice lo ll lcap]) := b0
 have I1 : Hid (Blk w1 (w.heap.size + 1) 27 #[.slice none 0 0]) := b1
 have I2 : Hid (Blk w1 (w.heap.size + 1 + 1) 24 #[.nilIface]) := b2
 clear hs1 b0 b1 b2 hB1
 go_enter Tryz.func91, Tryz.ntmps91
 go_upto_region 1 with fail
 rw [← hw1]
 clear hw1
 have i0 : w1.cell? ⟨w.heap.size, 0, none⟩ = some (.slice lo ll lcap) := I0.out.cell 0
 go_wp2_with fail
 go_at_call 76
 refine (HC.out _ HB1.out).mono ?_
 rintro e w2 ⟨rfl, hb2⟩
 have HB2 := hide (HB1.out.trans (hb2.mono HB1.out.size))
 have J1 := hide (I1.out.below hb2)
 have J2 := hide (I2.out.below hb2)
 clear hb2 i0
 have e1 : w2.cell? ⟨w.heap.size + 1, 0, none⟩ = some (.slice none 0 0) := J1.out.cell 0
 have z1 : w2.frozen? ⟨w.heap.size + 1, 0, none⟩ = false := J1.out.frozen 0
 have e2 : w2.cell? ⟨w.heap.size + 1 + 1, 0, none⟩ = some .nilIface := J2.out.cell 0
 have z2 : w2.frozen? ⟨w.heap.size + 1 + 1, 0, none⟩ = false := J2.out.frozen 0
 go_wp2
 have r1 : Blk ((w2.setCell ⟨w.heap.size + 1, 0, none⟩ (.slice none 0 0)).setCell ⟨w.heap.size + 1 + 1, 0, none⟩ (.iface 64 (.int .i64 F))) (w.heap.size + 1) 27 #[.slice none 0 0] := (J1.out.set 0 _).far (by omega) _ _
 have r2 : Blk ((w2.setCell ⟨w.heap.size + 1, 0, none⟩ (.slice none 0 0)).setCell ⟨w.heap.size + 1 + 1, 0, none⟩ (.iface 64 (.int .i64 F))) (w.heap.size + 1 + 1) 24 #[.iface 64 (.int .i64 F)] := (J2.out.far (by omega) _ _).set 0 _
 have l1 := loadS r1
 have l2 := loadE r2
 refine bodyPost_ret (v := .tuple #[.slice none 0 0, .iface 64 (.int .i64 F)]) ?_ rfl ⟨rfl, ?_⟩
 ·rw [results_two rfl]
  simp [asAddr, Result.andThen, l1, l2]
 ·exact (HB2.out.setCell (by simp) _).setCell (by simp; omega) _
theorem heldIn_any (v : Value) (fs : List Fm) (u : Int) (w : World) (hF : ReadsF w v fs) (hK : KindsLaid w) :
    Calls Tryz.prog 91 #[v, .int .i64 u] w fun e w' => (∃ x, e = .returned (.tuple #[x, errV (formsFault fs u)]) ∧ Reads w' x (if formsFault fs u = 0 then heldL fs u.toNat else [])) ∧ Below w.heap.size w w' := by
 have hC := fun W hW => coreCheck_any v fs u W (hF.below hW) (hK.below hW)
 have hH := fun h1 h2 (D : Wd) h3 W hW => holding_any v fs h1 h2 D h3 W (hF.below hW) (hK.below hW)
 obtain ⟨lo, lcap, rfl, _⟩ := hF.slice
 by_cases hf : formsFault fs u = 0
 ·obtain ⟨⟨_, h6⟩, hg, hu⟩ := forms_zero.1 hf
  obtain ⟨n, rfl⟩ := Int.eq_ofNat_of_zero_le hu.1
  rw [hf] at hC ⊢
  rw [if_pos rfl, Int.toNat_natCast]
  refine held_right lo _ lcap n (by omega) (fun N => maskTo (holdsAt fs (madeN N 8)) fs.length) w hC (fun M W hM => ?_) fun M W hM hW => hH hg h6 (madeN M 8) (made_ok (everyC_right (by omega) hM)) W hW
  have h0 : countsFault M = 0 := everyC_right (by omega) hM
  have h := fworld_any M W
  have e : madeW M = madeN M 8 := by unfold madeW; rw [if_pos h0]
  rw [h0, e] at h
  exact h
 ·have e : errV (formsFault fs u) = .iface 64 (.int .i64 (formsFault fs u)) := by unfold errV; rw [if_neg hf]
  rw [e] at hC ⊢
  rw [if_neg hf]
  exact (held_wrong lo _ lcap u _ w hC).mono fun e w' ⟨h1, h2⟩ => ⟨⟨_, h1, Or.inl ⟨none, 0, rfl, rfl⟩⟩, h2⟩
end Go.Proofs.YtjmeakkmfeoigaaGreatDoor
namespace Go.Proofs.YtjmeakkmfeoigaaGreatDoor
open Go.ChangeShapes Go.WideShapes Go.ChangeAt Go.RowKit
set_option maxRecDepth 100000
theorem open_bits {fs : List Fm} (h6 : fs.length ≤ 6) (u : Nat) : ((heldL fs u).any fun h => decide (bits .and .i64 h (maskTo (fun _ => true) fs.length) = maskTo (fun _ => true) fs.length)) = openN fs u := by
 have h := held_open h6 u (fun _ => false)
 rw [left_all] at h
 exact h
set_option maxHeartbeats 4000000 in
theorem coreOpen_any (v : Value) (fs : List Fm) (u : Int) (w : World) (hF : ReadsF w v fs) (hK : KindsLaid w) :
    Calls Tryz.prog 59 #[v, .int .i64 u] w (Bk w (.tuple #[.bool (openB fs u), errV (formsFault fs u)])) := by
 have hH := heldIn_any v fs u w hF hK
 obtain ⟨lo, lcap, rfl, _⟩ := hF.slice
 by_cases hf : formsFault fs u = 0
 ·obtain ⟨⟨_, h6⟩, _, _⟩ := forms_zero.1 hf
  have e : openB fs u = openN fs u.toNat := by unfold openB; rw [if_pos hf]
  rw [hf, if_pos rfl] at hH
  rw [hf, e]
  have HH : Hid (Calls Tryz.prog 91 #[.slice lo fs.length lcap, .int .i64 u] w fun e w' => (∃ x, e = .returned (.tuple #[x, .nilIface]) ∧ Reads w' x (heldL fs u.toNat)) ∧ Below w.heap.size w w') := hH
  have HAl : Hid (∀ W, Calls Tryz.prog 93 #[.slice lo fs.length lcap] W (Sk W (.int .i64 (maskTo (fun _ => true) fs.length)))) := fun W => coreAll_any lo _ lcap h6 W
  have HOp : Hid (∀ x W, Reads W x (heldL fs u.toNat) → Calls Tryz.prog 92 #[x, .int .i64 (maskTo (fun _ => true) fs.length)] W (Bk W (.bool (openN fs u.toNat)))) := fun x W hx => by
   have h := isOpen_any x _ (maskTo (fun _ => true) fs.length) W hx
   rw [open_bits h6] at h
   exact h
  obtain ⟨n, hn⟩ := nm fs.length
  obtain ⟨m, hm⟩ := nm (maskTo (fun _ => true) fs.length)
  obtain ⟨t, ht⟩ := nm (heldL fs u.toNat)
  obtain ⟨q, hq⟩ := nm (openN fs u.toNat)
  rw [← hm] at HAl HOp
  rw [← hn] at HH HAl ⊢
  rw [← ht] at HH HOp
  rw [← hq] at HOp ⊢
  clear hH hf h6 e hn hm ht hq hF hK
  go_enter Tryz.func59, Tryz.ntmps59
  go_wp2_with fail
  go_at_call 91
  refine HH.out.mono ?_
  rintro e w1 ⟨⟨x, rfl, hr⟩, hb⟩
  have HB1 := hide hb
  have HO1 := hide (HOp.out x w1 hr)
  obtain ⟨xo, xn, xc, rfl⟩ : ∃ xo xn xc, x = .slice xo xn xc := by
   rcases hr with ⟨ao, cap, rfl, _⟩ | ⟨b, off, cap, rfl, _⟩
   ·exact ⟨_, _, _, rfl⟩
   ·exact ⟨_, _, _, rfl⟩
  clear hb hr
  go_wp2_with fail
  go_at_call 93
  refine (HAl.out _).mono ?_
  rintro e w2 ⟨rfl, rfl⟩
  go_wp2_with fail
  go_at_call 92
  refine HO1.out.mono ?_
  rintro e w2 ⟨rfl, hb⟩
  have HB2 := hide (HB1.out.trans (hb.mono HB1.out.size))
  clear hb
  go_wp2
  go_ret2
  exact ⟨rfl, HB2.out⟩
 ·have e : openB fs u = false := by unfold openB; rw [if_neg hf]
  have e2 : errV (formsFault fs u) = .iface 64 (.int .i64 (formsFault fs u)) := by unfold errV; rw [if_neg hf]
  rw [if_neg hf, e2] at hH
  rw [e, e2]
  obtain ⟨F, hFd⟩ := nm (formsFault fs u)
  obtain ⟨n, hn⟩ := nm fs.length
  rw [← hFd, ← hn] at hH
  rw [← hFd, ← hn]
  have HH : Hid (Calls Tryz.prog 91 #[.slice lo n lcap, .int .i64 u] w fun e w' => (∃ x, e = .returned (.tuple #[x, .iface 64 (.int .i64 F)]) ∧ Reads w' x []) ∧ Below w.heap.size w w') := hH
  clear hH hf e e2 hFd hn hF hK
  go_enter Tryz.func59, Tryz.ntmps59
  go_wp2_with fail
  go_at_call 91
  refine HH.out.mono ?_
  rintro e w1 ⟨⟨x, rfl, hr⟩, hb⟩
  have HB1 := hide hb
  obtain ⟨xo, xn, xc, rfl⟩ : ∃ xo xn xc, x = .slice xo xn xc := by
   rcases hr with ⟨ao, cap, rfl, _⟩ | ⟨b, off, cap, rfl, _⟩
   ·exact ⟨_, _, _, rfl⟩
   ·exact ⟨_, _, _, rfl⟩
  clear hb hr
  go_wp2
  go_ret2
  exact ⟨rfl, HB1.out⟩
end Go.Proofs.YtjmeakkmfeoigaaGreatDoor
namespace Go.Proofs.YtjmeakkmfeoigaaGreatDoor
open Go.ChangeShapes Go.WideShapes Go.ChangeAt Go.RowKit
set_option maxRecDepth 100000
theorem rec_app (c : UInt8) (l : List UInt8) : (⟨#[c]⟩ : ByteArray) ++ strOf l ++ ⟨#[10]⟩ = strOf (c :: l ++ [10]) := by
 apply strOf_same
 rw [strOf_list]
 simp [ByteArray.data_append, strOf]
set_option maxHeartbeats 4000000 in
theorem logRec_ok (a : At) (h : Bool) (vs vt : Value) (ha : a.fault = 0) (w : World) (hS : Reads w vs a.s) (hT : Reads w vt a.t) (hK : KindsLaid w) (hL : LibLaid w) :
    Calls Tryz.prog 28 #[.agg #[.int .i64 a.k, vs, vt, .int .i64 a.n], .bool h] w (Bk w (.tuple #[.string (strOf (recB (a, h) ++ [10])), .nilIface])) := by
 have HP : Hid (∀ W, Below w.heap.size w W → Calls Tryz.prog 58 #[.agg #[.int .i64 a.k, vs, vt, .int .i64 a.n]] W (Bk W (.tuple #[.string (strOf a.text), .nilIface]))) := fun W hW => by
  have h := aprint_any a.k a.n vs vt a.s a.t W (hS.below hW) (hT.below hW) (hK.below hW) (hL.below hW)
  have e0 : atomFault a.k a.s a.t a.n = 0 := ha
  have e1 : aprintS a.k a.s a.t a.n = strOf a.text := by unfold aprintS; rw [if_pos e0]; rfl
  rw [e0, e1, errV_0] at h
  exact h
 have hl := text_small ha
 obtain ⟨T, hTt⟩ := nm (strOf a.text)
 have HT := hide hTt
 have hz : T.size ≤ 100 := by rw [hTt, strOf_size]; exact hl
 rw [← hTt] at HP
 obtain ⟨R, hR⟩ := nm (strOf (recB (a, h) ++ [10]))
 have HR := hide hR
 rw [← hR]
 obtain ⟨so, sc, rfl, _⟩ := hS.slice
 obtain ⟨tto, tc, rfl, _⟩ := hT.slice
 obtain ⟨w1, hw1⟩ := nm (w.alloc (.cells #[.int .i64 a.k, .slice so a.s.length sc, .slice tto a.t.length tc, .int .i64 a.n] 29))
 have k0 : Blk w1 w.heap.size 29 #[.int .i64 a.k, .slice so a.s.length sc, .slice tto a.t.length tc, .int .i64 a.n] := by rw [hw1]; exact Blk.new _ _ _
 have HB1 : Hid (Below w.heap.size w w1) := by unfold Hid; rw [hw1]; exact below_alloc1 _ _
 have a0 : w1.cell? ⟨w.heap.size, 0, none⟩ = some (.int .i64 a.k) := k0.cell 0
 have a1 : w1.cell? ⟨w.heap.size, 1, none⟩ = some (.slice so a.s.length sc) := k0.cell 1
 have a2 : w1.cell? ⟨w.heap.size, 2, none⟩ = some (.slice tto a.t.length tc) := k0.cell 2
 have a3 : w1.cell? ⟨w.heap.size, 3, none⟩ = some (.int .i64 a.n) := k0.cell 3
 clear k0 hTt hR hl hS hT hK hL ha
 go_enter Tryz.func28, Tryz.ntmps28
 go_upto_region 1 with fail
 rw [← hw1]
 clear hw1
 go_wp2_with fail
 go_at_call 58
 refine (HP.out _ HB1.out).mono ?_
 rintro e w2 ⟨rfl, hb⟩
 have HB2 := hide (HB1.out.trans (hb.mono HB1.out.size))
 clear hb a0 a1 a2 a3
 cases h with
 | true =>
  go_wp2
  go_ret2
  refine ⟨?_, HB2.out⟩
  rw [HR.out, HT.out]
  exact congrArg (fun x => Ending.returned (.tuple #[.string x, .nilIface])) (rec_app 43 a.text)
 | false =>
  go_wp2
  go_ret2
  refine ⟨?_, HB2.out⟩
  rw [HR.out, HT.out]
  exact congrArg (fun x => Ending.returned (.tuple #[.string x, .nilIface])) (rec_app 45 a.text)
set_option maxHeartbeats 4000000 in
theorem logRec_no (a : At) (h : Bool) (vs vt : Value) (ha : ¬ a.fault = 0) (w : World) (hS : Reads w vs a.s) (hT : Reads w vt a.t) (hK : KindsLaid w) (hL : LibLaid w) :
    Calls Tryz.prog 28 #[.agg #[.int .i64 a.k, vs, vt, .int .i64 a.n], .bool h] w (Bk w (.tuple #[.string ⟨#[]⟩, .iface 64 (.int .i64 a.fault)])) := by
 have HP : Hid (∀ W, Below w.heap.size w W → Calls Tryz.prog 58 #[.agg #[.int .i64 a.k, vs, vt, .int .i64 a.n]] W (Bk W (.tuple #[.string ⟨#[]⟩, .iface 64 (.int .i64 a.fault)]))) := fun W hW => by
  have h := aprint_any a.k a.n vs vt a.s a.t W (hS.below hW) (hT.below hW) (hK.below hW) (hL.below hW)
  have e0 : ¬ atomFault a.k a.s a.t a.n = 0 := ha
  have e1 : aprintS a.k a.s a.t a.n = ⟨#[]⟩ := by unfold aprintS; rw [if_neg e0]
  rw [e1, errV_no e0] at h
  exact h
 obtain ⟨F, hF⟩ := nm a.fault
 rw [← hF] at HP ⊢
 obtain ⟨so, sc, rfl, _⟩ := hS.slice
 obtain ⟨tto, tc, rfl, _⟩ := hT.slice
 obtain ⟨w1, hw1⟩ := nm (w.alloc (.cells #[.int .i64 a.k, .slice so a.s.length sc, .slice tto a.t.length tc, .int .i64 a.n] 29))
 have k0 : Blk w1 w.heap.size 29 #[.int .i64 a.k, .slice so a.s.length sc, .slice tto a.t.length tc, .int .i64 a.n] := by rw [hw1]; exact Blk.new _ _ _
 have HB1 : Hid (Below w.heap.size w w1) := by unfold Hid; rw [hw1]; exact below_alloc1 _ _
 have a0 : w1.cell? ⟨w.heap.size, 0, none⟩ = some (.int .i64 a.k) := k0.cell 0
 have a1 : w1.cell? ⟨w.heap.size, 1, none⟩ = some (.slice so a.s.length sc) := k0.cell 1
 have a2 : w1.cell? ⟨w.heap.size, 2, none⟩ = some (.slice tto a.t.length tc) := k0.cell 2
 have a3 : w1.cell? ⟨w.heap.size, 3, none⟩ = some (.int .i64 a.n) := k0.cell 3
 clear k0 hF hS hT hK hL ha
 go_enter Tryz.func28, Tryz.ntmps28
 go_upto_region 1 with fail
 rw [← hw1]
 clear hw1
 go_wp2_with fail
 go_at_call 58
 refine (HP.out _ HB1.out).mono ?_
 rintro e w2 ⟨rfl, hb⟩
 have HB2 := hide (HB1.out.trans (hb.mono HB1.out.size))
 clear hb a0 a1 a2 a3
 go_wp2
 go_ret2
 exact ⟨rfl, HB2.out⟩
set_option maxHeartbeats 4000000 in
theorem logOpen_any (v : Value) (fs : List Fm) (u : Int) (hu : 0 ≤ u ∧ u ≤ 6) (h6 : fs.length ≤ 6) (hf : ∀ f ∈ fs, f.fault = 0) (w : World) (hF : ReadsF w v fs) (hK : KindsLaid w) :
    Calls Tryz.prog 29 #[v, .int .i64 u] w (Bk w (.bool (openN fs u.toNat))) := by
 have hO := coreOpen_any v fs u w hF hK
 obtain ⟨lo, lcap, rfl, _⟩ := hF.slice
 by_cases h0 : fs.length = 0
 ·have e : fs = [] := List.eq_nil_of_length_eq_zero h0
  subst e
  have e1 : openN [] u.toNat = true := open_nil _
  rw [e1]
  clear e1 hO hF hK h6 hf hu h0
  go_enter Tryz.func29, Tryz.ntmps29
  go_wp2
  go_ret
  exact ⟨rfl, Below.refl _ _⟩
 ·have e0 : formsFault fs u = 0 := forms_zero.2 ⟨⟨by omega, h6⟩, hf, hu⟩
  have e1 : openB fs u = openN fs u.toNat := by unfold openB; rw [if_pos e0]
  rw [e0, e1, errV_0] at hO
  have HO := hide hO
  obtain ⟨q, hq⟩ := nm (openN fs u.toNat)
  obtain ⟨n, hn⟩ := nm fs.length
  rw [← hq, ← hn] at HO
  rw [← hq, ← hn]
  have dz : ((n : Int) == 0) = false := by simp; omega
  clear hO e0 e1 hq hn hF hK h6 hf hu h0
  go_enter Tryz.func29, Tryz.ntmps29
  go_wp2_with fail
  go_at_call 59
  refine HO.out.mono ?_
  rintro e w1 ⟨rfl, hb⟩
  have HB := hide hb
  clear hb
  cases q with
  | true =>
   go_wp2
   go_ret
   exact ⟨rfl, HB.out⟩
  | false =>
   go_wp2
   go_ret
   exact ⟨rfl, HB.out⟩
end Go.Proofs.YtjmeakkmfeoigaaGreatDoor
namespace Go.Proofs.YtjmeakkmfeoigaaGreatDoor
open Go.ChangeShapes Go.WideShapes Go.ChangeAt Go.RowKit
set_option maxRecDepth 100000
theorem alone_all {ps : List (At × Bool)} (hps : ∀ q ∈ ps, q.1.fault = 0) : ∀ f ∈ ps.map aloneP, f.fault = 0 := fun f hf => by
 obtain ⟨q, hq, rfl⟩ := List.mem_map.1 hf
 exact alone_right (hps q hq) q.2
set_option maxHeartbeats 4000000 in
theorem logOpenM_any (ps : List (At × Bool)) (hps : ∀ q ∈ ps, q.1.fault = 0) (h6 : ps.length ≤ 6) (tail : List UInt8) (ht : plainC 10 tail = true) (ht2 : tail.length ≤ 200) (b : Nat) (u sf z : Int) (hu : 0 ≤ u ∧ u ≤ 6) (st : Bool) (w : World)
    (hB : Blk w b 63 (lgC u (strOf (linesT (ps.map recB) ++ tail)) sf z st)) (hK : KindsLaid w) (hLb : LibLaid w) :
    Calls Tryz.prog 17 #[.pointer (some ⟨b, 0, none⟩)] w (Bk w (.bool (openN (ps.map aloneP) u.toNat))) := by
 have HB : Hid (Blk w b 63 (lgC u (strOf (linesT (ps.map recB) ++ tail)) sf z st)) := hB
 have HQa : Hid (∀ W, Below w.heap.size w W → Calls Tryz.prog 13 #[.pointer (some ⟨b, 0, none⟩)] W fun e w' => ∃ o l c, e = .returned (.slice o l c) ∧ Hid (∀ X, Below w'.heap.size w' X → ReadsF X (.slice o l c) (ps.map aloneP)) ∧ Hid (Below w.heap.size w w') ∧ w'.cell? ⟨b, 0, none⟩ = some (.int .i64 u)) := fun W hW =>
  (logAll_any ps hps h6 tail ht ht2 b u sf z st W (HB.out.below hW) (hK.below hW) (hLb.below hW)).mono fun e w' ⟨v, h1, h2, h3⟩ => by
   obtain ⟨ao, c, rfl⟩ := h2.slice
   exact ⟨ao, _, c, h1, fun X hX => h2.reads.below hX, hW.trans (h3.mono hW.size), (HB.out.below (hW.trans (h3.mono hW.size))).cell 0⟩
 have HQo : Hid (∀ v W, Below w.heap.size w W → ReadsF W v (ps.map aloneP) → Calls Tryz.prog 29 #[v, .int .i64 u] W fun e w' => e = .returned (.bool (openN (ps.map aloneP) u.toNat)) ∧ Hid (Below w.heap.size w w') ∧ w'.cell? ⟨b, 0, none⟩ = some (.int .i64 u)) := fun v W hW hv =>
  (logOpen_any v _ u hu (by rw [List.length_map]; exact h6) (alone_all hps) W hv (hK.below hW)).mono fun e w' ⟨h1, h3⟩ => ⟨h1, hW.trans (h3.mono hW.size), (HB.out.below (hW.trans (h3.mono hW.size))).cell 0⟩
 have HD0 : Hid (Below w.heap.size w w.drew) := (Below.refl _ _).drew
 have c0 : w.cell? ⟨b, 0, none⟩ = some (.int .i64 u) := hB.cell 0
 clear hB hK hLb hps h6 ht ht2 hu
 obtain ⟨q, hq⟩ := nm (openN (ps.map aloneP) u.toNat)
 rw [← hq] at HQo ⊢
 obtain ⟨fs, hfs⟩ := nm (ps.map aloneP)
 rw [← hfs] at HQa HQo
 clear hq hfs
 go_enter Tryz.func17, Tryz.ntmps17
 go_upto_region 1 with fail
 go_region_held3 (fun w' => w'.cell? ⟨b, 0, none⟩ = some (.int .i64 u)) (go_keep)
  (first | (go_at_call 13; refine (HQa.out _ ?_).mono ?_; (first | (with_reducible exact HD0.out) | (with_reducible exact Below.refl _ _)); rintro e w50 ⟨o50, l50, k50, rfl, hv50, hb50, c50⟩) | (go_at_call 29; refine (HQo.out _ _ ?_ ?_).mono ?_; (first | (with_reducible exact Hid.out hb50) | (with_reducible exact Below.drew (Hid.out hb50))); (first | (with_reducible exact Hid.out hv50 _ (Below.refl _ _)) | (with_reducible exact Hid.out hv50 _ (Below.drew (Below.refl _ _)))); rintro e w51 ⟨rfl, hb51, c51⟩))
 all_goals (try go_wp2)
 all_goals go_ret
 all_goals exact ⟨rfl, hb51.out⟩
end Go.Proofs.YtjmeakkmfeoigaaGreatDoor
namespace Go.Proofs.YtjmeakkmfeoigaaGreatDoor
open Go.ChangeShapes Go.WideShapes Go.ChangeAt Go.RowKit
set_option maxRecDepth 100000
set_option maxHeartbeats 4000000 in
theorem logSay_off (b : Nat) (u sf z : Int) (r : ByteArray) (k n : Int) (so : Option Addr) (sl sc : Nat) (tto : Option Addr) (tl tc : Nat) (h : Bool) (w : World) (hB : Blk w b 63 (lgC u r sf z true)) :
    Calls Tryz.prog 9 #[.pointer (some ⟨b, 0, none⟩), .agg #[.int .i64 k, .slice so sl sc, .slice tto tl tc, .int .i64 n], .bool h] w (Bk w (.iface 64 (.int .i64 6))) := by
 obtain ⟨w1, hw1⟩ := nm (w.alloc (.cells #[.int .i64 k, .slice so sl sc, .slice tto tl tc, .int .i64 n] 29))
 have b1 : Below w.heap.size w w1 := by rw [hw1]; exact below_alloc1 _ _
 have HB1 := hide b1
 have c4 : w1.cell? ⟨b, 4, none⟩ = some (.bool true) := (hB.below b1).cell 4
 clear hB b1
 go_enter Tryz.func9, Tryz.ntmps9
 go_upto_region 1 with fail
 rw [← hw1]
 clear hw1
 go_wp2
 go_ret
 exact ⟨rfl, HB1.out⟩
set_option maxHeartbeats 4000000 in
theorem logSay_no (b : Nat) (u sf z : Int) (r : ByteArray) (a : At) (h : Bool) (vs vt : Value) (ha : ¬ a.fault = 0) (w : World) (hB : Blk w b 63 (lgC u r sf z false)) (hS : Reads w vs a.s) (hT : Reads w vt a.t) (hK : KindsLaid w) (hL : LibLaid w) :
    Calls Tryz.prog 9 #[.pointer (some ⟨b, 0, none⟩), .agg #[.int .i64 a.k, vs, vt, .int .i64 a.n], .bool h] w (Bk w (.iface 64 (.int .i64 a.fault))) := by
 have HR : Hid (∀ W, Below w.heap.size w W → Calls Tryz.prog 28 #[.agg #[.int .i64 a.k, vs, vt, .int .i64 a.n], .bool h] W (Bk W (.tuple #[.string ⟨#[]⟩, .iface 64 (.int .i64 a.fault)]))) := fun W hW => logRec_no a h vs vt ha W (hS.below hW) (hT.below hW) (hK.below hW) (hL.below hW)
 obtain ⟨so, sc, rfl, _⟩ := hS.slice
 obtain ⟨tto, tc, rfl, _⟩ := hT.slice
 obtain ⟨F, hF⟩ := nm a.fault
 rw [← hF] at HR ⊢
 obtain ⟨w1, hw1⟩ := nm (w.alloc (.cells #[.int .i64 a.k, .slice so a.s.length sc, .slice tto a.t.length tc, .int .i64 a.n] 29))
 have b1 : Below w.heap.size w w1 := by rw [hw1]; exact below_alloc1 _ _
 have k0 : Blk w1 w.heap.size 29 #[.int .i64 a.k, .slice so a.s.length sc, .slice tto a.t.length tc, .int .i64 a.n] := by rw [hw1]; exact Blk.new _ _ _
 have HB1 := hide b1
 have c4 : w1.cell? ⟨b, 4, none⟩ = some (.bool false) := (hB.below b1).cell 4
 have a0 : w1.cell? ⟨w.heap.size, 0, none⟩ = some (.int .i64 a.k) := k0.cell 0
 have a1 : w1.cell? ⟨w.heap.size, 1, none⟩ = some (.slice so a.s.length sc) := k0.cell 1
 have a2 : w1.cell? ⟨w.heap.size, 2, none⟩ = some (.slice tto a.t.length tc) := k0.cell 2
 have a3 : w1.cell? ⟨w.heap.size, 3, none⟩ = some (.int .i64 a.n) := k0.cell 3
 clear hB b1 k0 hS hT hK hL ha hF
 go_enter Tryz.func9, Tryz.ntmps9
 go_upto_region 1 with fail
 rw [← hw1]
 clear hw1
 go_wp2_with fail
 go_at_call 28
 refine (HR.out _ HB1.out).mono ?_
 rintro e w2 ⟨rfl, hb⟩
 have HB2 := hide (HB1.out.trans (hb.mono HB1.out.size))
 clear hb a0 a1 a2 a3 c4
 go_wp2
 go_ret
 exact ⟨rfl, HB2.out⟩
def SaidE (ps : List (At × Bool)) (q : At × Bool) (b : Nat) (u sf z : Int) (e : Ending) (w' : World) : Prop :=
 (6 ≤ ps.length ∧ e = .returned (.iface 64 (.int .i64 4)) ∧ Blk w' b 63 (lgC u (strOf (linesT (ps.map recB) ++ [])) sf z false)) ∨
 (¬ 6 ≤ ps.length ∧ openN ((ps ++ [q]).map aloneP) u.toNat = false ∧ e = .returned (.iface 64 (.int .i64 7)) ∧ Blk w' b 63 (lgC u (strOf (linesT (ps.map recB) ++ [])) sf z false)) ∨
 (¬ 6 ≤ ps.length ∧ openN ((ps ++ [q]).map aloneP) u.toNat = true ∧ z = 0 ∧ e = .returned (.iface 64 (.int .i64 6)) ∧ Blk w' b 63 (lgC u (strOf (linesT (ps.map recB) ++ (recB q ++ [10]).take ((recB q ++ [10]).length / 2))) sf z true)) ∨
 (¬ 6 ≤ ps.length ∧ openN ((ps ++ [q]).map aloneP) u.toNat = true ∧ ¬ z = 0 ∧ e = .returned .nilIface ∧ Blk w' b 63 (lgC u (strOf (linesT ((ps ++ [q]).map recB) ++ [])) sf (stepZ z) false))
theorem madeF_next {K : Nat} {w3 w5 w6 : World} {v v' : Value} {l : List Fm} {f : Fm} {xs : List Value} {va vc : Value} (o : Obj) (hK : K ≤ w3.heap.size)
    (own : w3.ownsRow K 39 2 v l.length xs) (h2 : ∀ b, v.ownBlock = some b → K ≤ b) (h3 : ∀ i f, l[i]? = some f → ∃ va vc, xs[i * 2]? = some va ∧ xs[i * 2 + 1]? = some vc ∧ FormOn (fun b => K ≤ b ∧ v.ownBlock ≠ some b) w3 va vc f)
    (hb : Below w3.heap.size w3 w5) (hf : FormOn (fun b => w3.heap.size ≤ b) w5 va vc f)
    (own' : w6.ownsRow K 39 2 v' (l.length + 1) (xs ++ [va, vc])) (hg : (w5.alloc o).grownBy w6 v.ownBlock) (hat : v'.ownBlock = v.ownBlock ∨ v'.ownBlock = some (w5.heap.size + 1)) : MadeF (fun b => K ≤ b) K w6 v' (l ++ [f]) := by
 have hb5 : Below w3.heap.size w3 (w5.alloc o) := hb.alloc hb.size _
 have hb55 : Below w5.heap.size w5 (w5.alloc o) := (Below.refl _ _).alloc (Nat.le_refl _) _
 refine madeF_more (R := fun b => K ≤ b) (H := w3.heap.size) (W := w5.alloc o) (fun b h => h) (fun b h _ => Nat.le_trans hK h) (fun b e => (own.lt b e).2) hb5.size ?_ h2 (fun i f hi => ?_) (hf.step hb55.size (fun b _ hl => hb55.block b hl) fun b hb _ => hb) own' hg ?_
 ·exact own_keep own fun b e => hb5.block b (own.lt b e).2
 ·obtain ⟨ua, uc, p0, p1, r⟩ := h3 i f hi
  exact ⟨ua, uc, p0, p1, r.step hb5.size (fun b _ hl => hb5.block b hl) fun b hb _ => hb⟩
 ·rw [World.size_alloc]; exact hat
set_option maxHeartbeats 8000000 in
theorem logSay_go (ps : List (At × Bool)) (hps : ∀ q ∈ ps, q.1.fault = 0) (h6 : ps.length ≤ 6) (a : At) (h : Bool) (vs vt : Value) (ha : a.fault = 0) (b : Nat) (u sf z : Int) (hu : 0 ≤ u ∧ u ≤ 6) (w : World)
    (hB : Blk w b 63 (lgC u (strOf (linesT (ps.map recB) ++ [])) sf z false)) (hS : Reads w vs a.s) (hT : Reads w vt a.t) (hK : KindsLaid w) (hL : LibLaid w) :
    Calls Tryz.prog 9 #[.pointer (some ⟨b, 0, none⟩), .agg #[.int .i64 a.k, vs, vt, .int .i64 a.n], .bool h] w fun e w' => SaidE ps (a, h) b u sf z e w' ∧ LKeep (fun x => x = b) w w' := by
 have HB : Hid (Blk w b 63 (lgC u (strOf (linesT (ps.map recB) ++ [])) sf z false)) := hB
 have hsm := recs_small hps
 have hrs := rec_small (q := (a, h)) ha
 have HR : Hid (∀ W, Below w.heap.size w W → Calls Tryz.prog 28 #[.agg #[.int .i64 a.k, vs, vt, .int .i64 a.n], .bool h] W (Bk W (.tuple #[.string (strOf (recB (a, h) ++ [10])), .nilIface]))) := fun W hW => logRec_ok a h vs vt ha W (hS.below hW) (hT.below hW) (hK.below hW) (hL.below hW)
 have HAl : Hid (∀ W, Below w.heap.size w W → Calls Tryz.prog 13 #[.pointer (some ⟨b, 0, none⟩)] W fun e w' => ∃ v, e = .returned v ∧ MadeF (fun x => W.heap.size ≤ x) W.heap.size w' v (ps.map aloneP) ∧ Below W.heap.size W w') := fun W hW => logAll_any ps hps h6 [] rfl (by simp) b u sf z false W (HB.out.below hW) (hK.below hW) (hL.below hW)
 have HRd : Hid (∀ W, Below w.heap.size w W → Calls Tryz.prog 30 #[.string (strOf (recB (a, h) ++ [10]))] W fun e w' => ∃ o1 l1 c1 o2 l2 c2, e = .returned (.agg #[.slice o1 l1 c1, .slice o2 l2 c2]) ∧ FormOn (fun b => W.heap.size ≤ b) w' (.slice o1 l1 c1) (.slice o2 l2 c2) (aloneP (a, h)) ∧ Below W.heap.size W w') := fun W hW => logRead_any a h ha W (hK.below hW) (hL.below hW)
 have hall : ∀ q ∈ ps ++ [(a, h)], q.1.fault = 0 := fun q hq => by
  rcases List.mem_append.1 hq with hq | hq
  ·exact hps q hq
  ·obtain rfl : q = (a, h) := by simpa using hq
   exact ha
 have HOp : Hid (¬ 6 ≤ ps.length → ∀ v W, Below w.heap.size w W → ReadsF W v ((ps ++ [(a, h)]).map aloneP) → Calls Tryz.prog 29 #[v, .int .i64 u] W (Bk W (.bool (openN ((ps ++ [(a, h)]).map aloneP) u.toNat)))) := fun h7 v W hW hv => logOpen_any v _ u hu (by rw [List.length_map, List.length_append, List.length_singleton]; omega) (alone_all hall) W hv (hK.below hW)
 have HMa : Hid ((ps ++ [(a, h)]).map aloneP = ps.map aloneP ++ [aloneP (a, h)]) := by unfold Hid; rw [List.map_append]; rfl
 obtain ⟨T, hTt⟩ := nm (strOf (recB (a, h) ++ [10]))
 have HTt := hide hTt
 have hTn : T.size = (recB (a, h) ++ [10]).length := by rw [hTt]; exact strOf_size _
 have HTn := hide hTn
 have hTz : T.size ≤ 102 := by rw [hTn, List.length_append]; simp; omega
 obtain ⟨r, hr⟩ := nm (strOf (linesT (ps.map recB) ++ []))
 have HRr := hide hr
 have hrz : r.size ≤ 612 := by rw [hr, strOf_size]; simp; omega
 rw [← hTt] at HR HRd
 rw [← hr] at HB
 obtain ⟨so, sc, rfl, _⟩ := hS.slice
 obtain ⟨tto, tc, rfl, _⟩ := hT.slice
 obtain ⟨w1, hw1⟩ := nm (w.alloc (.cells #[.int .i64 a.k, .slice so a.s.length sc, .slice tto a.t.length tc, .int .i64 a.n] 29))
 have b1 : Below w.heap.size w w1 := by rw [hw1]; exact below_alloc1 _ _
 have k0 : Blk w1 w.heap.size 29 #[.int .i64 a.k, .slice so a.s.length sc, .slice tto a.t.length tc, .int .i64 a.n] := by rw [hw1]; exact Blk.new _ _ _
 have HB1 := hide b1
 have c4 : w1.cell? ⟨b, 4, none⟩ = some (.bool false) := (HB.out.below b1).cell 4
 have a0 : w1.cell? ⟨w.heap.size, 0, none⟩ = some (.int .i64 a.k) := k0.cell 0
 have a1 : w1.cell? ⟨w.heap.size, 1, none⟩ = some (.slice so a.s.length sc) := k0.cell 1
 have a2 : w1.cell? ⟨w.heap.size, 2, none⟩ = some (.slice tto a.t.length tc) := k0.cell 2
 have a3 : w1.cell? ⟨w.heap.size, 3, none⟩ = some (.int .i64 a.n) := k0.cell 3
 clear hB b1 k0 hS hT hK hL ha hTt hr hall hsm hrs hps hu hTn
 go_enter Tryz.func9, Tryz.ntmps9
 go_upto_region 1 with fail
 rw [← hw1]
 clear hw1
 go_wp2_with fail
 go_at_call 28
 refine (HR.out _ HB1.out).mono ?_
 rintro e w2 ⟨rfl, hb⟩
 have HB2 := hide (HB1.out.trans (hb.mono HB1.out.size))
 clear hb a0 a1 a2 a3 c4
 go_wp2_with fail
 go_at_call 13
 refine (HAl.out _ HB2.out).mono ?_
 rintro e w3 ⟨v, rfl, hm, hb⟩
 have HB3 := hide (HB2.out.trans (hb.mono HB2.out.size))
 have HM3 := hide hm
 have HK3 := hide (hb.size)
 obtain ⟨ao, ac, hv⟩ := hm.slice
 obtain ⟨n, hn⟩ := nm ps.length
 have HN := hide hn
 rw [List.length_map, ← hn] at hv
 rw [← hn] at HOp h6
 subst hv
 have HBl3 := hide (HB.out.below HB3.out)
 clear hb hm hn
 by_cases h7 : 6 ≤ n
 ·have h7' : (6 : Int) ≤ (n : Int) := by omega
  go_wp2
  go_ret
  exact ⟨Or.inl ⟨by rw [← HN.out]; exact h7, rfl, by rw [← HRr.out]; exact HBl3.out⟩, LKeep.of_below HB3.out⟩
 ·have h7' : (n : Int) < 6 := by omega
  have h7n : ¬ (6 : Int) ≤ (n : Int) := by omega
  have HOp7 := hide (HOp.out h7)
  have H7 := hide h7
  clear HOp h6
  obtain ⟨q, hq⟩ := nm (openN ((ps ++ [(a, h)]).map aloneP) u.toNat)
  have HQ := hide hq
  rw [← hq] at HOp7
  clear hq h7
  obtain ⟨xs, hx1, hx2, hx3⟩ := HM3.out
  have hl3 : (ps.map aloneP).length = n := by rw [List.length_map]; exact HN.out.symm
  have HX1 : Hid (w3.ownsRow w2.heap.size 39 2 (.slice ao n ac) n xs) := by unfold Hid; rw [← hl3]; rw [hl3]; rw [hl3] at hx1; exact hx1
  have HX3 : Hid (∀ w5 w6 v' va vc o, Below w3.heap.size w3 w5 → FormOn (fun b => w3.heap.size ≤ b) w5 va vc (aloneP (a, h)) → w6.ownsRow w2.heap.size 39 2 v' (n + 1) (xs ++ [va, vc]) → (w5.alloc o).grownBy w6 (Value.slice ao n ac).ownBlock → (v'.ownBlock = (Value.slice ao n ac).ownBlock ∨ v'.ownBlock = some (w5.heap.size + 1)) → ReadsF w6 v' ((ps ++ [(a, h)]).map aloneP)) := fun w5 w6 v' va vc o h1 h2 h3 h4 h5 => by
   rw [HMa.out]
   rw [← hl3] at h3
   exact (madeF_next o HK3.out hx1 hx2 hx3 h1 h2 h3 h4 h5).reads
  have HXb : Hid (∀ b, (Value.slice ao n ac).ownBlock = some b → w2.heap.size ≤ b) := fun b e => (hx1.lt b e).1
  clear hx1 hx2 hx3 hl3 HM3
  obtain ⟨i0, hi⟩ : ∃ i, Tryz.prog.info? 39 = some i := Option.isSome_iff_exists.1 infoFm
  have hz0 : i0.zero = some (.agg #[.slice none 0 0, .slice none 0 0]) := by have := zeroFm; rw [hi] at this; simpa using this
  have hz1 : i0.size = 2 := by have := sizeFm; rw [hi] at this; simpa using this
  have hz2 : i0.bytes = 48 := by have := bytesFm; rw [hi] at this; simpa using this
  have HQr : Hid (∀ W, Below w3.heap.size w3 W → W.heap.size = w3.heap.size → Calls Tryz.prog 30 #[.string T] W fun e w' => ∃ o1 l1 c1 o2 l2 c2, e = .returned (.agg #[.slice o1 l1 c1, .slice o2 l2 c2]) ∧ Hid (FormOn (fun b => w3.heap.size ≤ b) w' (.slice o1 l1 c1) (.slice o2 l2 c2) (aloneP (a, h))) ∧ Hid (Below w3.heap.size w3 w') ∧ w'.cell? ⟨b, 0, none⟩ = some (.int .i64 u)) := fun W hW hs =>
   (HRd.out W (HB3.out.trans (hW.mono HB3.out.size))).mono fun e w' ⟨o1, l1, c1, o2, l2, c2, h1, h2, h3⟩ => ⟨o1, l1, c1, o2, l2, c2, h1, by rw [hs] at h2; exact h2, hW.trans (h3.mono hW.size), (HBl3.out.below (hW.trans (h3.mono hW.size))).cell 0⟩
  have HQo : Hid (∀ v W, Below w.heap.size w W → ReadsF W v ((ps ++ [(a, h)]).map aloneP) → Calls Tryz.prog 29 #[v, .int .i64 u] W fun e w' => e = .returned (.bool q) ∧ Hid (Below w.heap.size w w') ∧ w'.cell? ⟨b, 0, none⟩ = some (.int .i64 u)) := fun v W hW hv =>
   (HOp7.out v W hW hv).mono fun e w' ⟨h1, h3⟩ => ⟨h1, hW.trans (h3.mono hW.size), (HB.out.below (hW.trans (h3.mono hW.size))).cell 0⟩
  have HD0 : Hid (Below w3.heap.size w3 w3.drew) := (Below.refl _ _).drew
  have HGb : Hid (∀ w5 o w6, Below w3.heap.size w3 w5 → (w5.alloc o).grownBy w6 (Value.slice ao n ac).ownBlock → Below w.heap.size w w6) := fun w5 o w6 h5 h6 => by
   have hb := HB3.out.trans (h5.mono HB3.out.size)
   refine (hb.alloc hb.size _).grown h6 (by have := hb.size; simp; omega) fun b e => ?_
   have h1 := HXb.out b e
   have h2 := HB2.out.size
   omega
  have c0 : w3.cell? ⟨b, 0, none⟩ = some (.int .i64 u) := HBl3.out.cell 0
  have hn6 : n ≤ 5 := by have := H7.out; omega
  go_upto_region 9 with fail
  go_cut [40] from 30 to 40 (fun x wx => x = .bool (!q) ∧ Below w.heap.size w wx)
  case first =>
   go_region_held3 (fun w' => w'.cell? ⟨b, 0, none⟩ = some (.int .i64 u)) (go_keep)
    (first
     | (go_at_call 30; refine (HQr.out _ ?_ ?_).mono ?_; (first | (with_reducible exact HD0.out) | (with_reducible exact Below.refl _ _)); (first | rfl | simp); rintro e w5 ⟨o1, l1, c1, o2, l2, c2, rfl, hf5, hb5, c5⟩)
     | (refine step_append_lies _ (by rfl) _ _ _ (by rfl) w2.heap.size 39 i0 (.agg #[.slice none 0 0, .slice none 0 0]) 2 48 Tryz.underlying34 hi hz0 hz1 hz2 rfl (by decide) (.slice ao n ac) n xs (by rfl) ((own_keep HX1.out fun b e => hb5.out.block b (HX1.out.lt b e).2).alloc _) ⟨w5.heap.size, 0, none⟩ 1 1 [.slice o1 l1 c1, .slice o2 l2 c2] (by rfl) (by rfl) (World.news_of_block (cs := #[.slice o1 l1 c1, .slice o2 l2 c2]) (t := 39) (fr := (0, 0)) (heap_alloc_new w5 _)) (by simp [Value.oneCell']) (by omega) (by unfold maxLen; omega) (by omega) (by have := HK3.out; have := hb5.out.size; simp; omega) (w5.heap.size + 1) (by simp) ?_; intro gg cap1 w6 hown1 hgrow hat hlt1; have hb6 : Hid (Below w.heap.size w w6) := HGb.out _ _ _ hb5.out hgrow; have hr6 : Hid (ReadsF w6 (.slice (some ⟨gg, 0, none⟩) (n + 1) cap1) ((ps ++ [(a, h)]).map aloneP)) := HX3.out w5 w6 _ _ _ _ hb5.out hf5.out hown1 hgrow (by rcases hat with h | h; exact Or.inl h.symm; exact Or.inr (by rw [h]; rfl)); have c6 : w6.cell? ⟨b, 0, none⟩ = some (.int .i64 u) := (HB.out.below hb6.out).cell 0; clear hown1 hgrow hat hlt1)
     | (go_at_call 29; refine (HQo.out _ _ ?_ ?_).mono ?_; (first | (with_reducible exact Hid.out hb6) | (with_reducible exact Below.drew (Hid.out hb6))); (first | (with_reducible exact Hid.out hr6)); rintro e w7 ⟨rfl, hb7, c7⟩))
   all_goals (try go_wp2)
   all_goals go_meet
   all_goals exact ⟨rfl, hb7.out⟩
  case rest =>
  obtain ⟨rfl, hb⟩ := hcut
  obtain ⟨w8, hw8⟩ := nm wc
  rw [← hw8] at hb ⊢
  clear hw8
  have HB8 : Hid (LKeep (fun x => x = b) w w8) := LKeep.of_below hb
  have HBl8 := hide (HB.out.below hb)
  have H7p : Hid (¬ 6 ≤ ps.length) := by unfold Hid; rw [← HN.out]; exact H7.out
  clear hb c0 hi hz0 hz1 hz2 HQr HQo HX1 HX3 HXb HGb HD0 HOp7 HBl3 HAl HRd HR HMa HB1 HB2 HB3 HK3 h7' h7n hn6
  cases q with
  | false =>
   go_wp2
   go_ret
   exact ⟨Or.inr (Or.inl ⟨H7p.out, HQ.out.symm, rfl, by rw [← HRr.out]; exact HBl8.out⟩), HB8.out⟩
  | true =>
   have HSt : Hid (Calls Tryz.prog 31 #[.pointer (some ⟨b, 0, none⟩)] w8 fun e w' => e = .returned (.bool (decide (z = 0))) ∧ Blk w' b 63 (lgC u r sf (stepZ z) (decide (z = 0))) ∧ LKeep (fun x => x = b) w8 w') := logStops_any b u sf z r w8 HBl8.out
   have hrz' : (r.size : Int) ≤ 612 := by omega
   have hTz' : (T.size : Int) ≤ 102 := by omega
   by_cases h0 : z = 0
   ·have e0 : decide (z = 0) = true := decide_eq_true h0
    have es : stepZ z = z := by unfold stepZ; rw [if_neg (by omega)]
    rw [e0, es] at HSt
    have HZ := hide h0
    clear e0 es h0
    go_wp2_with fail
    go_at_call 31
    refine HSt.out.mono ?_
    rintro e w9 ⟨rfl, h1, h2⟩
    have H1 : Hid (Blk w9 b 63 (lgC u r sf z true)) := h1
    have H2 : Hid (LKeep (fun x => x = b) w w9) := HB8.out.trans (Grows.refl _ _) h2
    have c1 : w9.drew.cell? ⟨b, 1, none⟩ = some (.string r) := h1.cell 1
    have f1 : w9.drew.frozen? ⟨b, 1, none⟩ = false := h1.frozen 1
    clear h1 h2 HSt
    go_upto_region 12 with fail
    go_region
    all_goals go_wp2
    all_goals go_ret
    all_goals refine ⟨Or.inr (Or.inr (Or.inl ⟨H7p.out, HQ.out.symm, HZ.out, rfl, ?_⟩)), lkeep_drew (lkeep_set H2.out 1 _)⟩
    all_goals have e1 : T.extract 0 (T.size / 2) = strOf ((recB (a, h) ++ [10]).take ((recB (a, h) ++ [10]).length / 2)) := by rw [HTn.out, HTt.out, strOf_take]
    all_goals have e : strOf (linesT (ps.map recB) ++ (recB (a, h) ++ [10]).take ((recB (a, h) ++ [10]).length / 2)) = r ++ T.extract 0 (T.size / 2) := strOf_same (by rw [e1, ByteArray.data_append, Array.toList_append, strOf_list, HRr.out, strOf_list, strOf_list, List.append_nil])
    all_goals rw [e]
    all_goals exact (H1.out.set 1 _).drew
   ·have e0 : decide (z = 0) = false := decide_eq_false h0
    rw [e0] at HSt
    have HZ := hide h0
    clear e0 h0
    go_wp2_with fail
    go_at_call 31
    refine HSt.out.mono ?_
    rintro e w9 ⟨rfl, h1, h2⟩
    have H1 : Hid (Blk w9 b 63 (lgC u r sf (stepZ z) false)) := h1
    have H2 : Hid (LKeep (fun x => x = b) w w9) := HB8.out.trans (Grows.refl _ _) h2
    have c1 : w9.cell? ⟨b, 1, none⟩ = some (.string r) := h1.cell 1
    have f1 : w9.frozen? ⟨b, 1, none⟩ = false := h1.frozen 1
    clear h1 h2 HSt
    go_wp2
    go_ret
    refine ⟨Or.inr (Or.inr (Or.inr ⟨H7p.out, HQ.out.symm, HZ.out, rfl, ?_⟩)), lkeep_set H2.out 1 _⟩
    have e : strOf (linesT ((ps ++ [(a, h)]).map recB) ++ []) = r ++ T := by
     apply strOf_same
     rw [ByteArray.data_append, Array.toList_append, strOf_list, HRr.out, HTt.out, strOf_list, strOf_list, List.map_append, linesT_app]
     simp [linesT]
    rw [e]
    exact H1.out.set 1 _
end Go.Proofs.YtjmeakkmfeoigaaGreatDoor