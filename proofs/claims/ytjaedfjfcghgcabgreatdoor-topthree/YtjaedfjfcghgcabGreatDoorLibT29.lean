/-
  Proved: what core.heldIn returns, of any formulas and any number of things; what was in memory is as it was (a contract that the statements of chapter 13 lean on).
  Proved: what core.Open and core.Of return, of any formulas and any number of things; what was in memory is as it was (contracts that the statements of chapter 13 lean on).
  Plain facts on how many worlds are alike, as they are counted one thing behind the other (chapter 11). No program is read here.
  Proved: what worlds.check, worlds.All and worlds.alike return, of any number of things, and of right counts; what was in memory is as it was (contracts that the statements lean on).
-/
import Derived.Test.YtjaedfjfcghgcabGreatDoorLibT28
import Derived.Test.YtjaedfjfcghgcabGreatDoorLibT17
import Derived.Maps.OwnIn
import Derived.Test.YtjaedfjfcghgcabGreatDoorLibT14
import Derived.Test.YtjaedfjfcghgcabGreatDoorLibT9
import Derived.Test.YtjaedfjfcghgcabGreatDoorLibT11
namespace Go.Proofs.YtjaedfjfcghgcabGreatDoor
open Go.ChangeShapes Go.WideShapes Go.ChangeAt Go.RowKit
set_option maxRecDepth 100000
attribute [local go_sem] Oper.semAt_some

theorem held_new (w : World) (o0 o1 o2 : Obj) :
    (((w.alloc o0).alloc o1).alloc o2).heap.size = w.heap.size + 3 ∧
    (((w.alloc o0).alloc o1).alloc o2).heap[w.heap.size]? = some o0 ∧
    (((w.alloc o0).alloc o1).alloc o2).heap[w.heap.size + 1]? = some o1 ∧
    (((w.alloc o0).alloc o1).alloc o2).heap[w.heap.size + 1 + 1]? = some o2 ∧
    Below w.heap.size w (((w.alloc o0).alloc o1).alloc o2) := by
  have s1 : (w.alloc o0).heap.size = w.heap.size + 1 := World.size_alloc _ _
  have s2 : ((w.alloc o0).alloc o1).heap.size = w.heap.size + 1 + 1 := by rw [World.size_alloc, s1]
  refine ⟨by rw [World.size_alloc, s2], ?_, ?_, ?_, ?_⟩
  · rw [Below.heap_alloc _ _ _ (by omega), Below.heap_alloc _ _ _ (by omega)]; exact World.alloc_heap_new _ _
  · rw [Below.heap_alloc _ _ _ (by omega), ← s1]; exact World.alloc_heap_new _ _
  · rw [← s2]; exact World.alloc_heap_new _ _
  · exact (((Below.refl _ w).alloc (Nat.le_refl _) _).alloc (by omega) _).alloc (by omega) _
/-- a row lies as it lay where its own block does. -/
theorem own_keep {X Y : World} {K n size : Nat} {e : TypeId} {v : Value} {xs : List Value} (h : X.ownsRow K e size v n xs) (hs : ∀ b, v.ownBlock = some b → Y.heap[b]? = X.heap[b]?) : Y.ownsRow K e size v n xs := by
  refine ⟨h.1, ?_⟩
  rcases h.2 with h0 | ⟨g, cap, cur, hv, hb, hg, rest⟩
  · exact Or.inl h0
  · exact Or.inr ⟨g, cap, cur, hv, hb, (hs g (by rw [hv]; rfl)).trans hg, rest⟩
theorem held_slice {X : World} {K n size : Nat} {e : TypeId} {v : Value} {xs : List Value} (h : X.ownsRow K e size v n xs) : ∃ ao l cap, v = .slice ao l cap := by
  rcases h.2 with ⟨rfl, _⟩ | ⟨g, cap, cur, rfl, _⟩
  · exact ⟨_, _, _, rfl⟩
  · exact ⟨_, _, _, rfl⟩
theorem appendIn_long {F : Fence} {nF : Nat} {w : World} {ops : Array Oper} {rest : List Oper} {o : Oper} {a : Act} {Q : Exit → Act → World → Prop} (hgd : o.guard = none) (s x : Operand)
    (ho : o.op = .call { callee := .builtin .append, args := #[s, x], argTypes := #[23, 23] }) (K : Nat) (v : Value) (hs : a.eval s = v) (l : List Int) (r : Int) (B c : Nat) (hx : a.eval x = .slice (some ⟨B, 0, none⟩) 1 c)
    (hown : w.ownsRow K 3 1 v l.length (l.map (Value.int .i64))) (hB : w.heap[B]? = some (.cells #[.int .i64 r] 3 (0, 0))) (hK : K ≤ w.heap.size) (h12 : l.length ≤ 1000000)
    (h : ∀ v' w', w'.ownsRow K 3 1 v' (l.length + 1) ((l ++ [r]).map (Value.int .i64)) → w.grownBy w' v.ownBlock → (v'.ownBlock = v.ownBlock ∨ v'.ownBlock = some w.heap.size) → wpListIn F nF Tryz.prog ops Q rest (a.put o.dst v') w') :
    wpListIn F nF Tryz.prog ops Q (o :: rest) a w := by
  obtain ⟨i1, hi⟩ : ∃ i, Tryz.prog.info? 3 = some i := Option.isSome_iff_exists.1 infoH
  have hz0 : i1.zero = some (.int .i64 0) := by have := zeroH; rw [hi] at this; simpa using this
  have hz1 : i1.size = 1 := by have := sizeH; rw [hi] at this; simpa using this
  have hz2 : i1.bytes = 8 := by have := bytesH; rw [hi] at this; simpa using this
  refine wpListIn_append_own_at w hgd s x 23 ho K 3 i1 _ 1 8 Tryz.underlying23 hi hz0 hz1 hz2 rfl (by decide) v l.length (l.map (Value.int .i64)) hs hown ⟨B, 0, none⟩ 1 c [.int .i64 r] hx rfl (World.news_of_block hB) (by simp [Value.oneCell']) (by unfold maxLen; omega) (by omega) hK ?_
  intro v' w' h1 h2 _ h5
  refine h v' w' ?_ h2 h5
  rw [List.map_append]
  exact h1
theorem loadS {W : World} {R : Nat} {v : Value} (h : Blk W R 23 #[v]) : (loadVar 23 ⟨R, 0, none⟩).run Tryz.prog W = .ok v W := by
  have hc : W.cell? ⟨R, 0, none⟩ = some v := h.cell 0
  simp [loadVar, Tryz.isAgg23, Result.andThen, hc]

set_option maxHeartbeats 8000000 in
theorem held_right (lo : Option Addr) (ll lcap : Nat) (n : Nat) (hn : n ≤ 6) (p : (Nat → Int) → Int) (w : World)
    (hC : ∀ W, Below w.heap.size w W → Calls Tryz.prog 77 #[.slice lo ll lcap, .int .i64 n] W fun e w' => e = .returned .nilIface ∧ Below W.heap.size W w')
    (hW : ∀ (M : Nat → Int) W, M ∈ everyC n → Calls Tryz.prog 72 #[.agg #[.int .i64 (M 0), .int .i64 (M 1), .int .i64 (M 2), .int .i64 (M 3), .int .i64 (M 4), .int .i64 (M 5), .int .i64 (M 6), .int .i64 (M 7)]] W fun e w' => e = .returned (.tuple #[.agg #[.int .i64 (madeN M 8).u, .int .i64 (madeN M 8).a, .int .i64 (madeN M 8).b, .int .i64 (madeN M 8).c], .nilIface]) ∧ Below W.heap.size W w')
    (hH : ∀ (M : Nat → Int) W, M ∈ everyC n → Below w.heap.size w W → Calls Tryz.prog 78 #[.slice lo ll lcap, .agg #[.int .i64 (madeN M 8).u, .int .i64 (madeN M 8).a, .int .i64 (madeN M 8).b, .int .i64 (madeN M 8).c]] W fun e w' => e = .returned (.tuple #[.int .i64 (p M), .nilIface]) ∧ Below W.heap.size W w') :
    Calls Tryz.prog 31 #[.slice lo ll lcap, .int .i64 n] w fun e w' => (∃ v, e = .returned (.tuple #[v, .nilIface]) ∧ Reads w' v ((everyC n).map p)) ∧ Below w.heap.size w w' := by
  obtain ⟨A, hA⟩ : ∃ A, A = everyC n := ⟨_, rfl⟩
  have HC : Hid (∀ W, Below w.heap.size w W → Calls Tryz.prog 77 #[.slice lo ll lcap, .int .i64 n] W fun e w' => e = .returned .nilIface ∧ Below W.heap.size W w') := hC
  have HWo : Hid (∀ (k : Nat) (M : Nat → Int) W, A[k]? = some M → Calls Tryz.prog 72 #[.agg #[.int .i64 (M 0), .int .i64 (M 1), .int .i64 (M 2), .int .i64 (M 3), .int .i64 (M 4), .int .i64 (M 5), .int .i64 (M 6), .int .i64 (M 7)]] W fun e w' => e = .returned (.tuple #[.agg #[.int .i64 (madeN M 8).u, .int .i64 (madeN M 8).a, .int .i64 (madeN M 8).b, .int .i64 (madeN M 8).c], .nilIface]) ∧ Below W.heap.size W w') := fun k M W hM => hW M W (by rw [hA] at hM; exact List.mem_of_getElem? hM)
  have HH : Hid (∀ (k : Nat) (M : Nat → Int) W, A[k]? = some M → Below w.heap.size w W → Calls Tryz.prog 78 #[.slice lo ll lcap, .agg #[.int .i64 (madeN M 8).u, .int .i64 (madeN M 8).a, .int .i64 (madeN M 8).b, .int .i64 (madeN M 8).c]] W fun e w' => e = .returned (.tuple #[.int .i64 (p M), .nilIface]) ∧ Below W.heap.size W w') := fun k M W hM hW' => hH M W (by rw [hA] at hM; exact List.mem_of_getElem? hM) hW'
  have HS : Hid (∀ Bu W, W.cell? ⟨Bu, 0, none⟩ = some (.int .i64 n) → SeqR 2 Tryz.prog 74 #[.pointer (some ⟨Bu, 0, none⟩)] enc8 A W) := fun Bu W hB => by rw [hA]; exact iter_anyR n hn 2 (by omega) Bu W hB
  have HLn : Hid (A.length ≤ 1716) := by unfold Hid; rw [hA]; exact length_everyC hn
  rw [← hA]
  clear hA hn hC hH hW
  obtain ⟨hs1, b0, b1, b2, hB1⟩ := held_new w (.cells #[.slice lo ll lcap] 41) (.cells #[.slice none 0 0] 23) (.cells #[.nilIface] 29)
  obtain ⟨w1, hw1⟩ : ∃ x, x = ((w.alloc (.cells #[.slice lo ll lcap] 41)).alloc (.cells #[.slice none 0 0] 23)).alloc (.cells #[.nilIface] 29) := ⟨_, rfl⟩
  rw [← hw1] at hs1 b0 b1 b2 hB1
  have HB1 : Hid (Below w.heap.size w w1) := hB1
  have Hs1 : Hid (w1.heap.size = w.heap.size + 3) := hs1
  have I0 : Hid (Blk w1 w.heap.size 41 #[.slice lo ll lcap]) := b0
  have I1 : Hid (Blk w1 (w.heap.size + 1) 23 #[.slice none 0 0]) := b1
  have I2 : Hid (Blk w1 (w.heap.size + 1 + 1) 29 #[.nilIface]) := b2
  clear hs1 b0 b1 b2 hB1
  refine (callsIn_wide (n := 3)).1 ?_
  refine callsIn_of_wp_marks Tryz.func31 rfl trivial ?_ rfl
  simp only [Tryz.ntmps31, List.size_toArray, List.length_cons, List.length_nil, Nat.reduceAdd, Nat.reduceSub, Array.replicate_succ, Array.replicate_zero, List.push_toArray, List.append_toArray, List.nil_append, List.cons_append]
  gi_upto_region 1 with fail
  rw [← hw1]
  clear hw1
  have i0 : w1.cell? ⟨w.heap.size, 0, none⟩ = some (.slice lo ll lcap) := I0.out.cell 0
  gi_wp2_with fail
  refine ⟨trivial, ?_⟩
  gi_at_call 77
  refine (callsIn_wide.2 (HC.out _ HB1.out)).mono ?_
  rintro e w2 ⟨rfl, hb2⟩
  have HB2 : Hid (Below w.heap.size w w2) := HB1.out.trans (hb2.mono HB1.out.size)
  have J0 : Hid (Blk w2 w.heap.size 41 #[.slice lo ll lcap]) := I0.out.below hb2
  have J1 : Hid (Blk w2 (w.heap.size + 1) 23 #[.slice none 0 0]) := I1.out.below hb2
  have J2 : Hid (Blk w2 (w.heap.size + 1 + 1) 29 #[.nilIface]) := I2.out.below hb2
  obtain ⟨G, hG⟩ : ∃ G, G = w2.heap.size := ⟨_, rfl⟩
  have HG : Hid (w.heap.size + 3 ≤ G) := by unfold Hid; rw [hG, ← Hs1.out]; exact hb2.size
  clear hb2 i0
  gi_wp2_with fail
  refine ⟨trivial, ?_⟩
  gi_at_call 28
  refine (callsIn_wide.2 (fitAll_any _ _)).mono ?_
  rintro e w4 ⟨rfl, rfl⟩
  gi_wp2_with fail
  obtain ⟨wl, hwl⟩ : ∃ x, x = (w2.alloc (.cells #[.slice none 0 0] 23)).alloc (.cells #[.int .i64 n] 3) := ⟨_, rfl⟩
  have HB0 : Hid (Below w.heap.size w wl) := by unfold Hid; rw [hwl]; exact (HB2.out.alloc HB2.out.size _).alloc (by rw [World.size_alloc]; exact Nat.le_succ_of_le HB2.out.size) _
  have Hsz : Hid (wl.heap.size = G + 2) := by unfold Hid; rw [hwl, hG, World.size_alloc, World.size_alloc]
  have H0 : Hid (Blk wl w.heap.size 41 #[.slice lo ll lcap]) := by unfold Hid; rw [hwl]; exact (J0.out.old _).old _
  have H1 : Hid (Blk wl (w.heap.size + 1) 23 #[.slice none 0 0]) := by unfold Hid; rw [hwl]; exact (J1.out.old _).old _
  have H2 : Hid (Blk wl (w.heap.size + 1 + 1) 29 #[.nilIface]) := by unfold Hid; rw [hwl]; exact (J2.out.old _).old _
  have H3 : Hid (Blk wl G 23 #[.slice none 0 0]) := by unfold Hid; rw [hwl, hG]; exact (Blk.new _ _ _).old _
  have H4 : Hid (Blk wl (G + 1) 3 #[.int .i64 n]) := by
    unfold Hid; rw [hwl, hG]
    have := Blk.new (w2.alloc (.cells #[.slice none 0 0] 23)) 3 #[.int .i64 n]
    rw [World.size_alloc] at this
    exact this
  rw [← hwl, ← hG]
  clear hwl hG
  refine wpIn_range_ownR (by omega) (gf := 74) (lb := #[.pointer (some ⟨G + 1, 0, none⟩)]) rfl (enters_of Tryz.func74 (by kernel_rfl) rfl) (encs := enc8) (A := A)
    (fun W hW => HS.out _ W ((hW.cell (by rw [Hsz.out]; simp)).trans (H4.out.cell 0))) (fun _ => rfl)
    (fun k R W => Below w.heap.size w W ∧ Blk W w.heap.size 41 #[.slice lo ll lcap] ∧ Blk W (w.heap.size + 1) 23 #[.slice none 0 0] ∧ Blk W (w.heap.size + 1 + 1) 29 #[.nilIface] ∧ ∃ v, Blk W G 23 #[v] ∧ W.ownsRow (G + 2) 3 1 v ((A.take k).map p).length (((A.take k).map p).map (Value.int .i64)) ∧ ∀ b, v.ownBlock = some b → R b)
    (fun _ _ => False)
    (fun k R X Y h hb => by
      obtain ⟨h1, h2, h3, h4, v, h5, h6, h7⟩ := h
      have hg := HG.out
      have hz := Hsz.out
      refine ⟨h1.trans (hb.below.mono (by omega)), h2.keep hb.below (by omega), h3.keep hb.below (by omega), h4.keep hb.below (by omega), v, h5.keep hb.below (by omega), own_keep h6 fun b e => hb.own b (h7 b e) (h6.lt b e).2, h7⟩)
    (fun _ _ _ h _ => h) ⟨HB0.out, H0.out, H1.out, H2.out, .slice none 0 0, H3.out, World.ownsRow_nil _ _ _ _, fun b e => by cases e⟩ ?round ?done ?stop
  case round =>
    intro ln k x R W hx hl1 hl2 hlR ⟨hB, c0, c1, c2, v, c3, c4, c5⟩
    have HX : Hid (A[k]? = some x) := hx
    have HkL : Hid (k < A.length) := (List.getElem?_eq_some_iff.1 hx).1
    have Hl1 : Hid (G + 2 ≤ ln) := by unfold Hid; rw [← Hsz.out]; exact hl1
    have Hl2 : Hid (ln < W.heap.size) := hl2
    have HlR : Hid (¬ R ln) := hlR
    have HBk : Hid (Below w.heap.size w W) := hB
    have C0 : Hid (Blk W w.heap.size 41 #[.slice lo ll lcap]) := c0
    have C1 : Hid (Blk W (w.heap.size + 1) 23 #[.slice none 0 0]) := c1
    have C2 : Hid (Blk W (w.heap.size + 1 + 1) 29 #[.nilIface]) := c2
    have C3 : Hid (Blk W G 23 #[v]) := c3
    have C5 : Hid (∀ b, v.ownBlock = some b → R b) := c5
    obtain ⟨l, hl⟩ : ∃ l, l = (A.take k).map p := ⟨_, rfl⟩
    have HLl : Hid (l.length = k) := by unfold Hid; rw [hl, List.length_map, List.length_take]; have := HkL.out; omega
    have HLs : Hid ((A.take (k + 1)).map p = l ++ [p x]) := by
      unfold Hid; rw [List.take_add_one, hx, List.map_append, ← hl]; rfl
    rw [← hl] at c4
    have C4 : Hid (W.ownsRow (G + 2) 3 1 v l.length (l.map (Value.int .i64))) := c4
    clear hx hl1 hl2 hlR hB c0 c1 c2 c3 c4 c5 hl
    unfold enc8
    gi_wp2
    refine ⟨(Over.refl _ _).alloc _, fun o => ?_⟩
    obtain ⟨W2, hW2⟩ : ∃ X, X = (W.alloc (.cells #[.int .i64 (x 0), .int .i64 (x 1), .int .i64 (x 2), .int .i64 (x 3), .int .i64 (x 4), .int .i64 (x 5), .int .i64 (x 6), .int .i64 (x 7)] 44)).putObj ln o := ⟨_, rfl⟩
    obtain ⟨Gx, hGx⟩ : ∃ G, G = W.heap.size := ⟨_, rfl⟩
    have HB2 : Hid (Below w.heap.size w W2) := by unfold Hid; rw [hW2]; exact (HBk.out.alloc HBk.out.size _).trans (below_putObj _ _ (by have := Hl1.out; have := HG.out; omega))
    have D0 : Hid (Blk W2 w.heap.size 41 #[.slice lo ll lcap]) := by unfold Hid; rw [hW2]; exact (C0.out.old _).putO _ (by have := Hl1.out; have := HG.out; omega)
    have D1 : Hid (Blk W2 (w.heap.size + 1) 23 #[.slice none 0 0]) := by unfold Hid; rw [hW2]; exact (C1.out.old _).putO _ (by have := Hl1.out; have := HG.out; omega)
    have D2 : Hid (Blk W2 (w.heap.size + 1 + 1) 29 #[.nilIface]) := by unfold Hid; rw [hW2]; exact (C2.out.old _).putO _ (by have := Hl1.out; have := HG.out; omega)
    have D3 : Hid (Blk W2 G 23 #[v]) := by unfold Hid; rw [hW2]; exact (C3.out.old _).putO _ (by have := Hl1.out; omega)
    have D4 : Hid (W2.ownsRow (G + 2) 3 1 v l.length (l.map (Value.int .i64))) := by
      unfold Hid; rw [hW2]
      refine own_keep (C4.out.alloc _) fun b e => World.putObj_heap_other fun e' => HlR.out (C5.out _ (e' ▸ e))
    have D8 : Hid (Blk W2 Gx 44 (arr8 x)) := by unfold Hid; rw [hW2, hGx]; exact (Blk.new _ _ _).putO _ (by have := Hl2.out; omega)
    have HS2 : Hid (G + 2 ≤ W2.heap.size) := by unfold Hid; rw [hW2]; have := Hl1.out; have := Hl2.out; simp; omega
    rw [← hW2, ← hGx]
    clear hW2 hGx
    have HWk : Hid (Calls Tryz.prog 72 #[.agg #[.int .i64 (x 0), .int .i64 (x 1), .int .i64 (x 2), .int .i64 (x 3), .int .i64 (x 4), .int .i64 (x 5), .int .i64 (x 6), .int .i64 (x 7)]] W2 fun e w' => e = .returned (.tuple #[.agg #[.int .i64 (madeN x 8).u, .int .i64 (madeN x 8).a, .int .i64 (madeN x 8).b, .int .i64 (madeN x 8).c], .nilIface]) ∧ Below W2.heap.size W2 w') := HWo.out k x W2 HX.out
    have HHk : Hid (∀ W, Below w.heap.size w W → Calls Tryz.prog 78 #[.slice lo ll lcap, .agg #[.int .i64 (madeN x 8).u, .int .i64 (madeN x 8).a, .int .i64 (madeN x 8).b, .int .i64 (madeN x 8).c]] W fun e w' => e = .returned (.tuple #[.int .i64 (p x), .nilIface]) ∧ Below W.heap.size W w') := fun W hW => HH.out k x W HX.out hW
    obtain ⟨D, hD⟩ : ∃ D, D = madeN x 8 := ⟨_, rfl⟩
    obtain ⟨q, hq⟩ : ∃ q, q = p x := ⟨_, rfl⟩
    rw [← hD] at HWk HHk
    rw [← hq] at HHk HLs
    clear hD hq
    obtain ⟨x0, x1, x2, x3, x4, x5, x6, x7⟩ := D8.out.cells8
    gi_wp2_with fail
    refine ⟨trivial, ?_⟩
    gi_at_call 72
    refine (CallsIn.inRound ln (callsIn_wide.2 HWk.out)).mono ?_
    rintro e W3 ⟨rfl, hb3⟩
    obtain ⟨W4, hW4⟩ : ∃ x, x = W3.alloc (.cells #[.int .i64 D.u, .int .i64 D.a, .int .i64 D.b, .int .i64 D.c] 34) := ⟨_, rfl⟩
    obtain ⟨Gw, hGw⟩ : ∃ G, G = W3.heap.size := ⟨_, rfl⟩
    have hb4 : Below W2.heap.size W2 W4 := by rw [hW4]; exact hb3.alloc hb3.size _
    have HB4 : Hid (Below w.heap.size w W4) := HB2.out.trans (hb4.mono HB2.out.size)
    have E0 : Hid (Blk W4 w.heap.size 41 #[.slice lo ll lcap]) := D0.out.below hb4
    have E1 : Hid (Blk W4 (w.heap.size + 1) 23 #[.slice none 0 0]) := D1.out.below hb4
    have E2 : Hid (Blk W4 (w.heap.size + 1 + 1) 29 #[.nilIface]) := D2.out.below hb4
    have E3 : Hid (Blk W4 G 23 #[v]) := D3.out.below hb4
    have E4 : Hid (W4.ownsRow (G + 2) 3 1 v l.length (l.map (Value.int .i64))) := ownsRow_below D4.out hb4
    have E9 : Hid (Blk W4 Gw 34 #[.int .i64 D.u, .int .i64 D.a, .int .i64 D.b, .int .i64 D.c]) := by unfold Hid; rw [hW4, hGw]; exact Blk.new _ _ _
    have HO4 : Hid (Below W2.heap.size W2 W4) := hb4
    clear hb3 hb4 x0 x1 x2 x3 x4 x5 x6 x7
    gi_upto_region 10 with fail
    rw [← hW4, ← hGw]
    clear hW4 hGw
    have y0 : W4.cell? ⟨w.heap.size, 0, none⟩ = some (.slice lo ll lcap) := E0.out.cell 0
    have z0 : W4.cell? ⟨Gw, 0, none⟩ = some (.int .i64 D.u) := E9.out.cell 0
    have z1 : W4.cell? ⟨Gw, 1, none⟩ = some (.int .i64 D.a) := E9.out.cell 1
    have z2 : W4.cell? ⟨Gw, 2, none⟩ = some (.int .i64 D.b) := E9.out.cell 2
    have z3 : W4.cell? ⟨Gw, 3, none⟩ = some (.int .i64 D.c) := E9.out.cell 3
    gi_wp2_with fail
    refine ⟨trivial, ?_⟩
    gi_at_call 78
    refine (CallsIn.inRound ln (callsIn_wide.2 (HHk.out _ HB4.out))).mono ?_
    rintro e W5 ⟨rfl, hb5⟩
    have HB5 : Hid (Below w.heap.size w W5) := HB4.out.trans (hb5.mono HB4.out.size)
    have F0 : Hid (Blk W5 w.heap.size 41 #[.slice lo ll lcap]) := E0.out.below hb5
    have F1 : Hid (Blk W5 (w.heap.size + 1) 23 #[.slice none 0 0]) := E1.out.below hb5
    have F2 : Hid (Blk W5 (w.heap.size + 1 + 1) 29 #[.nilIface]) := E2.out.below hb5
    have F3 : Hid (Blk W5 G 23 #[v]) := E3.out.below hb5
    have F4 : Hid (W5.ownsRow (G + 2) 3 1 v l.length (l.map (Value.int .i64))) := ownsRow_below E4.out hb5
    have HO5 : Hid (Below W2.heap.size W2 W5) := HO4.out.trans (hb5.mono HO4.out.size)
    clear hb5 y0 z0 z1 z2 z3
    have y3 : W5.cell? ⟨G, 0, none⟩ = some v := F3.out.cell 0
    have hl12 : l.length ≤ 1000000 := by have := HLl.out; have := HkL.out; have := HLn.out; omega
    have HS5 : Hid (G + 2 ≤ W5.heap.size) := Nat.le_trans HS2.out HO5.out.size
    gi_wp2_with (gi_at_builtin; refine appendIn_long rfl _ _ rfl (G + 2) v rfl l q W5.heap.size 1 rfl (F4.out.alloc _) (heap_alloc_new W5 _) (by have := HS5.out; simp; omega) hl12 ?_)
    intro v9 W7 hown hgrow hat
    obtain ⟨vo, vn, vc, hv9⟩ := held_slice hown
    subst hv9
    obtain ⟨v9, hv9⟩ : ∃ x, x = Value.slice vo vn vc := ⟨_, rfl⟩
    rw [← hv9] at hown hat
    obtain ⟨W6, hW6⟩ : ∃ X, X = W5.alloc (.cells #[.int .i64 q] 3) := ⟨_, rfl⟩
    rw [← hW6] at hgrow
    have hb6 : Below W2.heap.size W2 W6 := by rw [hW6]; exact HO5.out.alloc HO5.out.size _
    have hB6 : Below w.heap.size w W6 := HB2.out.trans (hb6.mono HB2.out.size)
    have hge : ∀ b, v.ownBlock = some b → G + 2 ≤ b := fun b e => (F4.out.lt b e).1
    have hB7 : Below w.heap.size w W7 := hB6.grown hgrow hB6.size fun b e => by have := hge b e; have := HG.out; omega
    have keep : ∀ g T cs, Blk W2 g T cs → g < G + 2 → Blk W7 g T cs := fun g T cs h hg => by
      have h6 := h.below hb6
      unfold Blk
      rw [hgrow.block g h6.lt fun e => by have := hge g e.symm; omega]
      exact h6
    have hO7 : OverR R wl.heap.size W2 W7 := ⟨Nat.le_trans hb6.size hgrow.size, fun b hb hl hr => by
      rw [hgrow.block b (Nat.lt_of_lt_of_le hl hb6.size) fun e => hr (C5.out b e.symm)]
      exact hb6.block b hl⟩
    have hat' : ∀ b, v9.ownBlock = some b → R b ∨ W2.heap.size ≤ b := fun b e => by
      rcases hat with h | h
      · exact Or.inl (C5.out b (h ▸ e))
      · rw [h] at e
        have := Option.some.inj e
        have := HO5.out.size
        right; omega
    have H7 : Hid (Below w.heap.size w W7 ∧ Blk W7 w.heap.size 41 #[.slice lo ll lcap] ∧ Blk W7 (w.heap.size + 1) 23 #[.slice none 0 0] ∧ Blk W7 (w.heap.size + 1 + 1) 29 #[.nilIface] ∧ Blk W7 G 23 #[v] ∧ OverR R wl.heap.size W2 W7 ∧ ∀ b, v9.ownBlock = some b → R b ∨ W2.heap.size ≤ b) :=
      ⟨hB7, keep _ _ _ D0.out (by have := HG.out; omega), keep _ _ _ D1.out (by have := HG.out; omega), keep _ _ _ D2.out (by have := HG.out; omega), keep _ _ _ D3.out (by omega), hO7, hat'⟩
    have H9 : Hid (W7.ownsRow (G + 2) 3 1 v9 ((A.take (k + 1)).map p).length (((A.take (k + 1)).map p).map (Value.int .i64))) := by
      unfold Hid; rw [HLs.out, List.length_append, List.map_append]; exact hown
    clear hown hgrow hat hW6 hb6 hB6 hge hB7 keep hO7 hat' y3
    have y3 : W7.cell? ⟨G, 0, none⟩ = some v := H7.out.2.2.2.2.1.cell 0
    have z3 : W7.frozen? ⟨G, 0, none⟩ = false := H7.out.2.2.2.2.1.frozen 0
    have HV9 : Hid (v9 = Value.slice vo vn vc) := hv9
    clear hv9
    gi_wp2
    rw [← HV9.out]
    obtain ⟨q0, q1, q2, q3, q4, q5, q6⟩ := H7.out
    have hg := HG.out
    have hz := Hsz.out
    refine ⟨q5.trans (OverR.of ((Over.refl _ _).setCell (by rw [hz]; simp) _)), fun b => v9.ownBlock = some b, ⟨q0.setCell (by simp; omega) _, q1.far (by omega) _ _, q2.far (by omega) _ _, q3.far (by omega) _ _, v9, ?_, ?_, fun b e => e⟩, q6⟩
    · exact q4.set 0 v9
    · refine own_keep H9.out fun b e => Below.heap_setCell _ _ _ _ ?_
      have := (H9.out.lt b e).1
      simp; omega
  case done =>
    intro D R W hD hDR ⟨hB, c0, c1, c2, v, c3, c4, c5⟩ hK
    obtain ⟨vo, vn, vc, rfl⟩ := held_slice c4
    have HD : Hid (G + 2 ≤ D) := by unfold Hid; rw [← Hsz.out]; exact hD
    have HK : Hid (W.heap[D]? = some (.deferred (some []))) := hK
    have HBk : Hid (Below w.heap.size w W) := hB
    rw [List.take_length] at c4
    have C1 : Hid (Blk W (w.heap.size + 1) 23 #[.slice none 0 0]) := c1
    have C2 : Hid (Blk W (w.heap.size + 1 + 1) 29 #[.nilIface]) := c2
    have C3 : Hid (Blk W G 23 #[.slice vo vn vc]) := c3
    have C4 : Hid (W.ownsRow (G + 2) 3 1 (.slice vo vn vc) (A.map p).length ((A.map p).map (Value.int .i64))) := c4
    have HDR : Hid ((Value.slice vo vn vc).ownBlock ≠ some D) := fun e => hDR (c5 D e)
    clear hD hB c0 c1 c2 c3 c4 c5 hK hDR
    have e1 : W.cell? ⟨w.heap.size + 1, 0, none⟩ = some (.slice none 0 0) := C1.out.cell 0
    have z1 : W.frozen? ⟨w.heap.size + 1, 0, none⟩ = false := C1.out.frozen 0
    have e2 : W.cell? ⟨w.heap.size + 1 + 1, 0, none⟩ = some .nilIface := C2.out.cell 0
    have z2 : W.frozen? ⟨w.heap.size + 1 + 1, 0, none⟩ = false := C2.out.frozen 0
    have e3 : W.cell? ⟨G, 0, none⟩ = some (.slice vo vn vc) := C3.out.cell 0
    gi_wp2
    have hd := HD.out
    have hg := HG.out
    have hK' : ((W.setCell ⟨w.heap.size + 1, 0, none⟩ (.slice vo vn vc)).setCell ⟨w.heap.size + 1 + 1, 0, none⟩ .nilIface).heap[D]? = some (.deferred (some [])) := by
      rw [Below.heap_setCell _ _ _ _ (by simp; omega), Below.heap_setCell _ _ _ _ (by simp; omega)]; exact HK.out
    have r1 : Blk ((W.setCell ⟨w.heap.size + 1, 0, none⟩ (.slice vo vn vc)).setCell ⟨w.heap.size + 1 + 1, 0, none⟩ .nilIface) (w.heap.size + 1) 23 #[.slice vo vn vc] := (C1.out.set 0 _).far (by omega) _ _
    have r2 : Blk ((W.setCell ⟨w.heap.size + 1, 0, none⟩ (.slice vo vn vc)).setCell ⟨w.heap.size + 1 + 1, 0, none⟩ .nilIface) (w.heap.size + 1 + 1) 29 #[.nilIface] := (C2.out.far (by omega) _ _).set 0 _
    refine ⟨by simp, .inl ⟨_, _, rfl, run_takeDeferred hK', ?_⟩⟩
    have l1 := loadS (r1.putO (.deferred none) (l := D) (by omega))
    have l2 := loadE (r2.putO (.deferred none) (l := D) (by omega))
    refine ⟨.tuple #[.slice vo vn vc, .nilIface], ?_, ⟨_, rfl, ?_⟩, ?_⟩
    · rw [results_two rfl]
      simp [asAddr, Result.andThen, l1, l2]
    · refine own_readsL (own_keep C4.out fun b e => ?_) (by rw [List.length_map]; have := HLn.out; omega)
      have hge := (C4.out.lt b e).1
      rw [World.putObj_heap_other (show b ≠ D from fun e' => HDR.out (e' ▸ e)), Below.heap_setCell _ _ _ _ (by simp; omega), Below.heap_setCell _ _ _ _ (by simp; omega)]
    · exact ((HBk.out.setCell (by simp) _).setCell (by simp; omega) _).trans (below_putObj _ _ (by omega))
  case stop => exact fun _ _ _ _ _ h => h.elim

set_option maxHeartbeats 4000000 in
theorem held_wrong (lo : Option Addr) (ll lcap : Nat) (u F : Int) (w : World)
    (hC : ∀ W, Below w.heap.size w W → Calls Tryz.prog 77 #[.slice lo ll lcap, .int .i64 u] W fun e w' => e = .returned (.iface 75 (.int .i64 F)) ∧ Below W.heap.size W w') :
    Calls Tryz.prog 31 #[.slice lo ll lcap, .int .i64 u] w fun e w' => e = .returned (.tuple #[.slice none 0 0, .iface 75 (.int .i64 F)]) ∧ Below w.heap.size w w' := by
  have HC : Hid (∀ W, Below w.heap.size w W → Calls Tryz.prog 77 #[.slice lo ll lcap, .int .i64 u] W fun e w' => e = .returned (.iface 75 (.int .i64 F)) ∧ Below W.heap.size W w') := hC
  clear hC
  obtain ⟨hs1, b0, b1, b2, hB1⟩ := held_new w (.cells #[.slice lo ll lcap] 41) (.cells #[.slice none 0 0] 23) (.cells #[.nilIface] 29)
  obtain ⟨w1, hw1⟩ : ∃ x, x = ((w.alloc (.cells #[.slice lo ll lcap] 41)).alloc (.cells #[.slice none 0 0] 23)).alloc (.cells #[.nilIface] 29) := ⟨_, rfl⟩
  rw [← hw1] at hs1 b0 b1 b2 hB1
  have HB1 : Hid (Below w.heap.size w w1) := hB1
  have I0 : Hid (Blk w1 w.heap.size 41 #[.slice lo ll lcap]) := b0
  have I1 : Hid (Blk w1 (w.heap.size + 1) 23 #[.slice none 0 0]) := b1
  have I2 : Hid (Blk w1 (w.heap.size + 1 + 1) 29 #[.nilIface]) := b2
  clear hs1 b0 b1 b2 hB1
  go_enter Tryz.func31, Tryz.ntmps31
  go_upto_region 1 with fail
  rw [← hw1]
  clear hw1
  have i0 : w1.cell? ⟨w.heap.size, 0, none⟩ = some (.slice lo ll lcap) := I0.out.cell 0
  go_wp2_with fail
  go_at_call 77
  refine (HC.out _ HB1.out).mono ?_
  rintro e w2 ⟨rfl, hb2⟩
  have HB2 : Hid (Below w.heap.size w w2) := HB1.out.trans (hb2.mono HB1.out.size)
  have J1 : Hid (Blk w2 (w.heap.size + 1) 23 #[.slice none 0 0]) := I1.out.below hb2
  have J2 : Hid (Blk w2 (w.heap.size + 1 + 1) 29 #[.nilIface]) := I2.out.below hb2
  clear hb2 i0
  have e1 : w2.cell? ⟨w.heap.size + 1, 0, none⟩ = some (.slice none 0 0) := J1.out.cell 0
  have z1 : w2.frozen? ⟨w.heap.size + 1, 0, none⟩ = false := J1.out.frozen 0
  have e2 : w2.cell? ⟨w.heap.size + 1 + 1, 0, none⟩ = some .nilIface := J2.out.cell 0
  have z2 : w2.frozen? ⟨w.heap.size + 1 + 1, 0, none⟩ = false := J2.out.frozen 0
  go_wp2
  have r1 : Blk ((w2.setCell ⟨w.heap.size + 1, 0, none⟩ (.slice none 0 0)).setCell ⟨w.heap.size + 1 + 1, 0, none⟩ (.iface 75 (.int .i64 F))) (w.heap.size + 1) 23 #[.slice none 0 0] := (J1.out.set 0 _).far (by omega) _ _
  have r2 : Blk ((w2.setCell ⟨w.heap.size + 1, 0, none⟩ (.slice none 0 0)).setCell ⟨w.heap.size + 1 + 1, 0, none⟩ (.iface 75 (.int .i64 F))) (w.heap.size + 1 + 1) 29 #[.iface 75 (.int .i64 F)] := (J2.out.far (by omega) _ _).set 0 _
  have l1 := loadS r1
  have l2 := loadE r2
  refine bodyPost_ret (v := .tuple #[.slice none 0 0, .iface 75 (.int .i64 F)]) ?_ rfl ⟨rfl, ?_⟩
  · rw [results_two rfl]
    simp [asAddr, Result.andThen, l1, l2]
  · exact (HB2.out.setCell (by simp) _).setCell (by simp; omega) _

/-- which of the formulas hold, world by world, whatever they are. -/
theorem heldIn_any (v : Value) (fs : List Fm) (u : Int) (w : World) (hF : ReadsF w v fs) (hK : KindsLaid w) :
    Calls Tryz.prog 31 #[v, .int .i64 u] w fun e w' => (∃ x, e = .returned (.tuple #[x, errV (formsFault fs u)]) ∧ Reads w' x (if formsFault fs u = 0 then heldL fs u.toNat else [])) ∧ Below w.heap.size w w' := by
  have hC := fun W hW => coreCheck_any v fs u W (hF.below hW) (hK.below hW)
  have hH := fun h1 h2 (D : Wd) h3 W hW => holding_any v fs h1 h2 D h3 W (hF.below hW) (hK.below hW)
  obtain ⟨lo, lcap, rfl, _⟩ := hF.slice
  by_cases hf : formsFault fs u = 0
  · obtain ⟨⟨_, h6⟩, hg, hu⟩ := forms_zero.1 hf
    obtain ⟨n, rfl⟩ := Int.eq_ofNat_of_zero_le hu.1
    rw [hf] at hC ⊢
    rw [if_pos rfl, Int.toNat_natCast]
    refine held_right lo _ lcap n (by omega) (fun N => maskTo (holdsAt fs (madeN N 8)) fs.length) w hC (fun M W hM => ?_) fun M W hM hW => hH hg h6 (madeN M 8) (made_ok (everyC_right (by omega) hM)) W hW
    have h0 : countsFault M = 0 := everyC_right (by omega) hM
    have h := fworld_any M W
    have e : madeW M = madeN M 8 := by unfold madeW; rw [if_pos h0]
    rw [h0, e] at h
    exact h
  · have e : errV (formsFault fs u) = .iface 75 (.int .i64 (formsFault fs u)) := by unfold errV; rw [if_neg hf]
    rw [e] at hC ⊢
    rw [if_neg hf]
    exact (held_wrong lo _ lcap u _ w hC).mono fun e w' ⟨h1, h2⟩ => ⟨⟨_, h1, Or.inl ⟨none, 0, rfl, rfl⟩⟩, h2⟩
end Go.Proofs.YtjaedfjfcghgcabGreatDoor


namespace Go.Proofs.YtjaedfjfcghgcabGreatDoor
open Go.ChangeShapes Go.WideShapes Go.ChangeAt Go.RowKit
set_option maxRecDepth 100000

theorem open_bits {fs : List Fm} (h6 : fs.length ≤ 6) (u : Nat) : ((heldL fs u).any fun h => decide (bits .and .i64 h (maskTo (fun _ => true) fs.length) = maskTo (fun _ => true) fs.length)) = openN fs u := by
  have h := held_open h6 u (fun _ => false)
  rw [left_all] at h
  exact h

set_option maxHeartbeats 4000000 in
theorem coreOpen_any (v : Value) (fs : List Fm) (u : Int) (w : World) (hF : ReadsF w v fs) (hK : KindsLaid w) :
    Calls Tryz.prog 9 #[v, .int .i64 u] w fun e w' => e = .returned (.tuple #[.bool (openB fs u), errV (formsFault fs u)]) ∧ Below w.heap.size w w' := by
  have hH := heldIn_any v fs u w hF hK
  obtain ⟨lo, lcap, rfl, _⟩ := hF.slice
  by_cases hf : formsFault fs u = 0
  · obtain ⟨⟨_, h6⟩, _, _⟩ := forms_zero.1 hf
    have e : openB fs u = openN fs u.toNat := by unfold openB; rw [if_pos hf]
    rw [hf, if_pos rfl] at hH
    rw [hf, e]
    have HH : Hid (Calls Tryz.prog 31 #[.slice lo fs.length lcap, .int .i64 u] w fun e w' => (∃ x, e = .returned (.tuple #[x, .nilIface]) ∧ Reads w' x (heldL fs u.toNat)) ∧ Below w.heap.size w w') := hH
    have HAl : Hid (∀ W, Calls Tryz.prog 33 #[.slice lo fs.length lcap] W fun e w' => e = .returned (.int .i64 (maskTo (fun _ => true) fs.length)) ∧ W = w') := fun W => coreAll_any lo _ lcap h6 W
    have HOp : Hid (∀ x W, Reads W x (heldL fs u.toNat) → Calls Tryz.prog 32 #[x, .int .i64 (maskTo (fun _ => true) fs.length)] W fun e w' => e = .returned (.bool (openN fs u.toNat)) ∧ Below W.heap.size W w') := fun x W hx => by
      have h := isOpen_any x _ (maskTo (fun _ => true) fs.length) W hx
      rw [open_bits h6] at h
      exact h
    obtain ⟨n, hn⟩ : ∃ n, n = fs.length := ⟨_, rfl⟩
    obtain ⟨m, hm⟩ : ∃ m, m = maskTo (fun _ => true) fs.length := ⟨_, rfl⟩
    obtain ⟨t, ht⟩ : ∃ t, t = heldL fs u.toNat := ⟨_, rfl⟩
    obtain ⟨q, hq⟩ : ∃ q, q = openN fs u.toNat := ⟨_, rfl⟩
    rw [← hm] at HAl HOp
    rw [← hn] at HH HAl ⊢
    rw [← ht] at HH HOp
    rw [← hq] at HOp ⊢
    clear hH hf h6 e hn hm ht hq hF hK
    go_enter Tryz.func9, Tryz.ntmps9
    go_wp2_with fail
    go_at_call 31
    refine HH.out.mono ?_
    rintro e w1 ⟨⟨x, rfl, hr⟩, hb⟩
    have HB1 : Hid (Below w.heap.size w w1) := hb
    have HO1 : Hid (Calls Tryz.prog 32 #[x, .int .i64 m] w1 fun e w' => e = .returned (.bool q) ∧ Below w1.heap.size w1 w') := HOp.out x w1 hr
    obtain ⟨xo, xn, xc, rfl⟩ : ∃ xo xn xc, x = .slice xo xn xc := by
      rcases hr with ⟨ao, cap, rfl, _⟩ | ⟨b, off, cap, rfl, _⟩
      · exact ⟨_, _, _, rfl⟩
      · exact ⟨_, _, _, rfl⟩
    clear hb hr
    go_wp2_with fail
    go_at_call 33
    refine (HAl.out _).mono ?_
    rintro e w2 ⟨rfl, rfl⟩
    go_wp2_with fail
    go_at_call 32
    refine HO1.out.mono ?_
    rintro e w2 ⟨rfl, hb⟩
    have HB2 : Hid (Below w.heap.size w w2) := HB1.out.trans (hb.mono HB1.out.size)
    clear hb
    go_wp2
    go_ret2
    exact ⟨rfl, HB2.out⟩
  · have e : openB fs u = false := by unfold openB; rw [if_neg hf]
    have e2 : errV (formsFault fs u) = .iface 75 (.int .i64 (formsFault fs u)) := by unfold errV; rw [if_neg hf]
    rw [if_neg hf, e2] at hH
    rw [e, e2]
    obtain ⟨F, hFd⟩ : ∃ F, F = formsFault fs u := ⟨_, rfl⟩
    obtain ⟨n, hn⟩ : ∃ n, n = fs.length := ⟨_, rfl⟩
    rw [← hFd, ← hn] at hH
    rw [← hFd, ← hn]
    have HH : Hid (Calls Tryz.prog 31 #[.slice lo n lcap, .int .i64 u] w fun e w' => (∃ x, e = .returned (.tuple #[x, .iface 75 (.int .i64 F)]) ∧ Reads w' x []) ∧ Below w.heap.size w w') := hH
    clear hH hf e e2 hFd hn hF hK
    go_enter Tryz.func9, Tryz.ntmps9
    go_wp2_with fail
    go_at_call 31
    refine HH.out.mono ?_
    rintro e w1 ⟨⟨x, rfl, hr⟩, hb⟩
    have HB1 : Hid (Below w.heap.size w w1) := hb
    obtain ⟨xo, xn, xc, rfl⟩ : ∃ xo xn xc, x = .slice xo xn xc := by
      rcases hr with ⟨ao, cap, rfl, _⟩ | ⟨b, off, cap, rfl, _⟩
      · exact ⟨_, _, _, rfl⟩
      · exact ⟨_, _, _, rfl⟩
    clear hb hr
    go_wp2
    go_ret2
    exact ⟨rfl, HB1.out⟩

end Go.Proofs.YtjaedfjfcghgcabGreatDoor


namespace Go.Proofs.YtjaedfjfcghgcabGreatDoor
open Go.RowKit

/-- k more things lie in a field, behind p things. -/
def fillN (m p : Int) : Nat → Int
  | 0 => m
  | k + 1 => (fillN m p k * (p + k + 1)).tdiv ((k : Int) + 1)
def layTo (N : Nat → Int) : Nat → Int
  | 0 => 1
  | i + 1 => fillN (layTo N i) (sumN N i) (N i).toNat
theorem lay_facts : ∀ u, u ≤ 6 → ((everyC u).all fun N => decide (layTo N 8 = likeN N) && (List.range 8).all fun i => (List.range 7).all fun k => decide (N i < (k : Int)) || decide (0 ≤ fillN (layTo N i) (sumN N i) k ∧ fillN (layTo N i) (sumN N i) k ≤ 720)) = true := by decide +kernel
theorem sum_same {N M : Nat → Int} (h : ∀ g, g < 8 → N g = M g) : ∀ k, k ≤ 8 → sumN N k = sumN M k := by
  intro k
  induction k with
  | zero => intro _; rfl
  | succ k ih => intro hk; unfold sumN; rw [ih (by omega), h k (by omega)]
theorem lay_same {N M : Nat → Int} (h : ∀ g, g < 8 → N g = M g) : ∀ k, k ≤ 8 → layTo N k = layTo M k := by
  intro k
  induction k with
  | zero => intro _; rfl
  | succ k ih => intro hk; unfold layTo; rw [ih (by omega), h k (by omega), sum_same h k (by omega)]
theorem sum_up {N : Nat → Int} (h : ∀ g, g < 8 → 0 ≤ N g) : ∀ k, k ≤ 8 → 0 ≤ sumN N k := by
  intro k
  induction k with
  | zero => intro _; exact Int.le_refl _
  | succ k ih => intro hk; have := ih (by omega); have := h k (by omega); show 0 ≤ sumN N k + N k; omega
theorem sum_more {N : Nat → Int} (h : ∀ g, g < 8 → 0 ≤ N g) : ∀ d k, k + d = 8 → sumN N k ≤ sumN N 8 := by
  intro d
  induction d with
  | zero => intro k hk; obtain rfl : k = 8 := by omega
            exact Int.le_refl _
  | succ d ih =>
    intro k hk
    have h1 := ih (k + 1) (by omega)
    have h2 := h k (by omega)
    have e : sumN N (k + 1) = sumN N k + N k := rfl
    omega
theorem lay_right {N : Nat → Int} (h : countsFault N = 0) : layTo N 8 = likeN N ∧ ∀ i, i < 8 → 0 ≤ sumN N i ∧ sumN N i + N i ≤ 6 ∧ ∀ k : Nat, (k : Int) ≤ N i → 0 ≤ fillN (layTo N i) (sumN N i) k ∧ fillN (layTo N i) (sumN N i) k ≤ 720 := by
  obtain ⟨h1, h2⟩ := counts_zero.1 h
  have hp : ∀ g, g < 8 → 0 ≤ N g := fun g hg => (h1 g hg).1
  have h0 := sum_up hp 8 (by omega)
  have hs : sumN N 8 = (((sumN N 8).toNat : Nat) : Int) := by omega
  obtain ⟨A, hA, hAN⟩ := everyC_all (u := (sumN N 8).toNat) hp hs
  have hf := List.all_eq_true.1 (lay_facts (sumN N 8).toNat (by omega)) A hA
  rw [Bool.and_eq_true] at hf
  refine ⟨?_, fun i hi => ⟨sum_up hp i (by omega), ?_, fun k hk => ?_⟩⟩
  · rw [← lay_same hAN 8 (by omega), ← likeN_same hAN]; exact of_decide_eq_true hf.1
  · have := sum_more hp (8 - (i + 1)) (i + 1) (by omega)
    have e : sumN N (i + 1) = sumN N i + N i := rfl
    omega
  · have h3 := h1 i hi
    have := sum_more hp (8 - (i + 1)) (i + 1) (by omega)
    have e : sumN N (i + 1) = sumN N i + N i := rfl
    have := sum_up hp i (by omega)
    have hq := List.all_eq_true.1 (List.all_eq_true.1 hf.2 i (List.mem_range.2 hi)) k (List.mem_range.2 (by omega))
    rw [Bool.or_eq_true] at hq
    rw [← lay_same hAN i (by omega), ← sum_same hAN i (by omega)]
    rcases hq with hq | hq
    · have := of_decide_eq_true hq
      rw [hAN i hi] at this
      omega
    · exact of_decide_eq_true hq
theorem lay_step (N : Nat → Int) (i : Nat) : layTo N (i + 1) = fillN (layTo N i) (sumN N i) (N i).toNat := rfl
end Go.Proofs.YtjaedfjfcghgcabGreatDoor


namespace Go.Proofs.YtjaedfjfcghgcabGreatDoor
open Go.ChangeShapes Go.WideShapes Go.ChangeAt Go.RowKit
set_option maxRecDepth 100000

theorem wcheck_ok (n : Nat) (hn : n ≤ 6) (w : World) : Calls Tryz.prog 27 #[.int .i64 n] w fun e w' => e = .returned .nilIface ∧ w = w' := by
  have h : okB (n : Int) 0 = true := ok_zero (by omega) (by omega)
  go_enter Tryz.func27, Tryz.ntmps27
  go_wp2_with fail
  go_at_call 24
  refine (check_ok _ _ h _).mono ?_
  rintro e w' ⟨rfl, rfl⟩
  go_wp2
  go_ret
  exact ⟨rfl, rfl⟩
theorem wcheck_no (u : Int) (hu : ¬ (0 ≤ u ∧ u ≤ 6)) (w : World) : Calls Tryz.prog 27 #[.int .i64 u] w fun e w' => e = .returned (.iface 75 (.int .i64 1)) ∧ w = w' := by
  have h : okB u 0 = false := okB_not.2 fun h => hu ⟨h.1, h.2.1⟩
  go_enter Tryz.func27, Tryz.ntmps27
  go_wp2_with fail
  go_at_call 24
  refine (check_no _ _ h _).mono ?_
  rintro e w' ⟨rfl, rfl⟩
  go_wp2
  go_ret
  exact ⟨rfl, rfl⟩


set_option maxHeartbeats 4000000 in
/-- how many worlds have so many things in each field. -/
theorem walike_any (N : Nat → Int) (h0 : countsFault N = 0) (w : World) :
    Calls Tryz.prog 30 #[.agg #[.int .i64 (N 0), .int .i64 (N 1), .int .i64 (N 2), .int .i64 (N 3), .int .i64 (N 4), .int .i64 (N 5), .int .i64 (N 6), .int .i64 (N 7)]] w fun e w' => e = .returned (.int .i64 (likeN N)) ∧ Below w.heap.size w w' := by
  obtain ⟨hlk, hlay⟩ := lay_right h0
  have HLK : Hid (layTo N 8 = likeN N) := hlk
  have HLY : Hid (∀ i, i < 8 → 0 ≤ sumN N i ∧ sumN N i + N i ≤ 6 ∧ ∀ k : Nat, (k : Int) ≤ N i → 0 ≤ fillN (layTo N i) (sumN N i) k ∧ fillN (layTo N i) (sumN N i) k ≤ 720) := hlay
  have HN : Hid (∀ f, f < 8 → 0 ≤ N f ∧ N f ≤ 6) := (counts_zero.1 h0).1
  clear h0 hlk hlay
  obtain ⟨w1, hw1⟩ : ∃ w1, w1 = w.alloc (.cells #[.int .i64 (N 0), .int .i64 (N 1), .int .i64 (N 2), .int .i64 (N 3), .int .i64 (N 4), .int .i64 (N 5), .int .i64 (N 6), .int .i64 (N 7)] 44) := ⟨_, rfl⟩
  have HB1 : Hid (Below w.heap.size w w1) := by unfold Hid; rw [hw1]; exact below_alloc1 _ _
  have HK1 : Hid (∀ k, k < 8 → w1.cell? ⟨w.heap.size, k, none⟩ = some (.int .i64 (N k))) := fun k hk => by
    have hb : Blk w1 w.heap.size 44 (arr8 N) := by rw [hw1]; exact Blk.new _ _ _
    rw [hb.cell, arr8_get _ hk]
  go_enter Tryz.func30, Tryz.ntmps30
  go_wp2_with fail
  rw [← hw1]
  clear hw1
  go_loop [3, 4, 7] (fun m p i => ∃ k : Nat, k ≤ 8 ∧ i = .int .i64 k ∧ m = .int .i64 (layTo N k) ∧ p = .int .i64 (sumN N k)) (fun _ _ i => 8 - (intOf i).toNat)
  case atStart => exact ⟨0, Nat.zero_le _, rfl, rfl, rfl⟩
  case round =>
    obtain ⟨k, hk, rfl, rfl, rfl⟩ := hrel
    by_cases hlt : k < 8
    · have c := HK1.out k hlt
      have hN := HN.out k hlt
      obtain ⟨hp0, hp1, hf⟩ := HLY.out k hlt
      obtain ⟨n, hn⟩ : ∃ n : Nat, N k = n := ⟨(N k).toNat, by omega⟩
      have HLk : Hid (layTo N (k + 1) = fillN (layTo N k) (sumN N k) n) := by unfold Hid; rw [lay_step, hn]; rfl
      have HSk : Hid (sumN N (k + 1) = sumN N k + n) := by unfold Hid; rw [← hn]; rfl
      rw [hn] at c hN hp1 hf
      obtain ⟨m, hm⟩ : ∃ m, m = layTo N k := ⟨_, rfl⟩
      obtain ⟨p, hp⟩ : ∃ p, p = sumN N k := ⟨_, rfl⟩
      rw [← hm, ← hp] at HLk
      rw [← hp] at HSk hp0 hp1
      rw [← hm, ← hp] at hf ⊢
      have HF : Hid (∀ j : Nat, (j : Int) ≤ n → 0 ≤ fillN m p j ∧ fillN m p j ≤ 720) := hf
      have HF0 : Hid (fillN m p 0 = m) := rfl
      clear hm hp hn hN hf
      have hn6 : n ≤ 6 := by omega
      go_wp2
      go_loop [3, 4, 13] (fun x q i => ∃ j : Nat, j ≤ n ∧ i = .int .i64 j ∧ x = .int .i64 (fillN m p j) ∧ q = .int .i64 (p + j)) (fun _ _ i => n - (intOf i).toNat)
      case atStart => exact ⟨0, Nat.zero_le _, rfl, rfl, by simp⟩
      case round =>
        obtain ⟨j, hj, rfl, rfl, rfl⟩ := hrel
        by_cases hl2 : j < n
        · have h1 := HF.out j (by omega)
          have h2 := HF.out (j + 1) (by omega)
          have HS : Hid (fillN m p (j + 1) = (fillN m p j * (p + j + 1)).tdiv ((j : Int) + 1)) := rfl
          rw [HS.out] at h2
          obtain ⟨y, hy⟩ : ∃ y, y = fillN m p j := ⟨_, rfl⟩
          rw [← hy] at HS h1 h2 ⊢
          have hq : 0 ≤ y * (p + j + 1) := Int.mul_nonneg h1.1 (by omega)
          have hq2 : y * (p + j + 1) ≤ 720 * 6 := Int.mul_le_mul h1.2 (by omega) (by omega) (by omega)
          have hz : ¬ ((j : Int) + 1 = 0) := by omega
          clear hy
          go_wp2
          go_round
          case rel => exact ⟨j + 1, by omega, by go_num, by rw [HS.out], by go_num⟩
          case measure => simp [intOf]; omega
        · obtain rfl : j = n := by omega
          go_wp2
          go_round
          case rel => exact ⟨k + 1, by omega, by go_num, by rw [HLk.out], by rw [HSk.out]⟩
          case measure => simp [intOf]; omega
    · obtain rfl : k = 8 := by omega
      go_wp2
      go_ret
      exact ⟨back_i HLK.out, HB1.out⟩
end Go.Proofs.YtjaedfjfcghgcabGreatDoor

