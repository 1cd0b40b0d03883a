/-
  Facts and contracts that the statement leans on.
-/
import Derived.Test.YtnoohlibgaeklaaGreatDoorLibQ1
import Derived.Maps.AppendAt
import Derived.Deep.AppendLies
import Derived.Test.YtnoohlibgaeklaaGreatDoorLibQ9
import Derived.Test.YtnoohlibgaeklaaGreatDoorLibQ10
import Derived.Test.YtnoohlibgaeklaaGreatDoorLibQ4
import Derived.Laws.ResultCell
import Derived.Deep.CutRange
import Derived.Test.YtnoohlibgaeklaaGreatDoorLibQ3
import Derived.Lib.Strings
import Derived.Test.YtnoohlibgaeklaaGreatDoorLibQ12
namespace Go.Proofs.YtnoohlibgaeklaaGreatDoor
open Go.ChangeShapes Go.WideShapes Go.ChangeAt Go.RowKit
set_option maxRecDepth 100000
set_option maxHeartbeats 16000000
theorem infoH : (Tryz.prog.info? 3).isSome = true := by kernel_rfl
theorem zeroH : (Tryz.prog.info? 3).bind (·.zero) = some (.int .i64 0) := by kernel_rfl
theorem sizeH : (Tryz.prog.info? 3).map (·.size) = some 1 := by kernel_rfl
theorem bytesH : (Tryz.prog.info? 3).map (·.bytes) = some 8 := by kernel_rfl
theorem append_long {w : World} {ops : Array Oper} {rest : List Oper} {o : Oper} {a : Act} {Q : Exit → Act → World → Prop} (hgd : o.guard = none) (s x : Operand)
    (ho : o.op = .call { callee := .builtin .append, args := #[s, x], argTypes := #[62, 62] }) (K : Nat) (v : Value) (hs : a.eval s = v) (l : List Int) (r : Int) (B c : Nat) (hx : a.eval x = .slice (some ⟨B, 0, none⟩) 1 c)
    (hown : w.ownsRow K 3 1 v l.length (l.map (Value.int .i64))) (hB : w.heap[B]? = some (.cells #[.int .i64 r] 3 (0, 0))) (hK : K ≤ w.heap.size) (h12 : l.length ≤ 1000000)
    (h : ∀ v' w', w'.ownsRow K 3 1 v' (l.length + 1) ((l ++ [r]).map (Value.int .i64)) → w.grownBy w' v.ownBlock → (v'.ownBlock = v.ownBlock ∨ v'.ownBlock = some w.heap.size) → wpList Tryz.prog ops Q rest (a.put o.dst v') w') :
    wpList Tryz.prog ops Q (o :: rest) a w := by
 obtain ⟨i1, hi⟩ : ∃ i, Tryz.prog.info? 3 = some i := Option.isSome_iff_exists.1 infoH
 have hz0 : i1.zero = some (.int .i64 0) := by have := zeroH; rw [hi] at this; simpa using this
 have hz1 : i1.size = 1 := by have := sizeH; rw [hi] at this; simpa using this
 have hz2 : i1.bytes = 8 := by have := bytesH; rw [hi] at this; simpa using this
 refine wpList_append_own_at w hgd s x 62 ho K 3 i1 _ 1 8 Tryz.underlying62 hi hz0 hz1 hz2 rfl (by decide) v l.length (l.map (Value.int .i64)) hs hown ⟨B, 0, none⟩ 1 c [.int .i64 r] hx rfl (World.news_of_block hB) (by simp [Value.oneCell']) (by unfold maxLen; omega) (by omega) hK ?_
 intro v' w' h1 h2 _ h5
 refine h v' w' ?_ h2 h5
 rw [List.map_append]
 exact h1
theorem own_readsL {w : World} {K : Nat} {v : Value} {t : List Int} (h : w.ownsRow K 3 1 v t.length (t.map (Value.int .i64))) (hm : t.length ≤ 9223372036854775807) : Reads w v t := by
 rcases h.2 with ⟨rfl, h0⟩ | ⟨g, cap, cur, rfl, hb, hg, hc, _⟩
 ·exact Or.inl ⟨none, 0, rfl, List.eq_nil_of_length_eq_zero h0⟩
 ·rcases Nat.eq_zero_or_pos t.length with h0 | h0
  ·have e : t = [] := List.eq_nil_of_length_eq_zero h0
   subst e
   exact Or.inl ⟨_, _, rfl, rfl⟩
  ·refine Or.inr ⟨g, 0, cap, rfl, (Array.getElem?_eq_some_iff.1 hg).1, h0, ⟨hm, hc⟩, fun k hk => ?_⟩
   rw [Nat.zero_add, h.cellAt _ (by omega), List.getElem?_map, List.getElem?_eq_getElem hk, List.getD_eq_getElem?_getD, List.getElem?_eq_getElem hk]
   rfl
theorem own_keep {X Y : World} {K n size : Nat} {e : TypeId} {v : Value} {xs : List Value} (h : X.ownsRow K e size v n xs) (hs : ∀ b, v.ownBlock = some b → Y.heap[b]? = X.heap[b]?) : Y.ownsRow K e size v n xs := by
 refine ⟨h.1, ?_⟩
 rcases h.2 with h0 | ⟨g, cap, cur, hv, hb, hg, rest⟩
 ·exact Or.inl h0
 ·exact Or.inr ⟨g, cap, cur, hv, hb, (hs g (by rw [hv]; rfl)).trans hg, rest⟩
theorem loadF {W : World} {R : Nat} {v u : Value} (h : Blk W R 78 #[v, u]) : (loadVar 78 ⟨R, 0, none⟩).run Tryz.prog W = .ok (.agg #[v, u]) W := by
 have hl := run_loadCells_list (P := Tryz.prog) W ⟨R, 0, none⟩ [v, u] (fun j x hj => by
  have := h.cell j
  rw [← Array.getElem?_toList] at this
  rw [hj] at this
  have ha : (⟨R, 0, none⟩ : Addr).add j = ⟨R, j, none⟩ := by unfold Addr.add; split <;> simp_all
  rw [ha]; exact this)
 simp [loadVar, Tryz.isAgg78, Tryz.sizeOf78, Result.andThen] at hl ⊢
 simp [hl]
theorem results_one {fn : Func} {p : Tmp} {ty : TypeId} (h : fn.results = #[.cell p ty]) (tmps : Array Value) (P : Program) (w : World) :
    (results fn tmps).run P w = ((asAddr (tmps.getD p undef)).run P w).andThen fun a w1 => (loadVar ty a).run P w1 := by
 simp only [results, h]
 simp [Sem.run_bind, Result.andThen]
theorem own_far {X : World} {K n size : Nat} {e : TypeId} {v : Value} {xs : List Value} (h : X.ownsRow K e size v n xs) {p : Addr} (hp : ∀ b, v.ownBlock = some b → b ≠ p.block) (u : Value) : (X.setCell p u).ownsRow K e size v n xs := by
 refine ⟨h.1, ?_⟩
 rcases h.2 with h0 | ⟨g, cap, cur, hv, hb, hg, rest⟩
 ·exact Or.inl h0
 ·exact Or.inr ⟨g, cap, cur, hv, hb, (Below.heap_setCell _ _ _ _ (hp g (by rw [hv]; rfl))).trans hg, rest⟩
theorem refAlone_kp (a : At) (h : Bool) (vs vt : Value) (w : World) (S : Nat → Prop) (hlt : ∀ b, S b → b < w.heap.size) (hS : Kp S w (fun X => Reads X vs a.s)) (hT : Kp S w (fun X => Reads X vt a.t)) :
    Calls Tryz.prog 28 #[.agg #[.int .i64 a.k, vs, vt, .int .i64 a.n], .bool h] w fun e w' => ∃ o1 l1 c1 o2 l2 c2, e = .returned (.agg #[.slice o1 l1 c1, .slice o2 l2 c2]) ∧ Kp S w' (fun X => ReadsA X (.slice o1 l1 c1) (aloneF a h).ats ∧ Reads X (.slice o2 l2 c2) (aloneF a h).c) ∧ Bw w w' := by
 obtain ⟨w1, hw1⟩ := nm ((w.alloc (.cells #[.int .i64 a.k, vs, vt, .int .i64 a.n] 71)).alloc (.cells #[.slice none 0 0, .slice none 0 0] 78))
 have b1 : Bw w w1 := by rw [hw1]; exact (below_alloc1 _ _).alloc (by simp) _
 have s1 : w1.heap.size = w.heap.size + 2 := by rw [hw1]; simp
 have k0 : Blk w1 w.heap.size 71 #[.int .i64 a.k, vs, vt, .int .i64 a.n] := by rw [hw1]; exact (Blk.new _ _ _).old _
 have k1 : Blk w1 (w.heap.size + 1) 78 #[.slice none 0 0, .slice none 0 0] := by
  rw [hw1]
  have := Blk.new (w.alloc (.cells #[.int .i64 a.k, vs, vt, .int .i64 a.n] 71)) 78 #[.slice none 0 0, .slice none 0 0]
  rw [World.size_alloc] at this
  exact this
 obtain ⟨G, hG⟩ := nm w1.heap.size
 obtain ⟨w2, hw2⟩ := nm (((w1.alloc (.cells #[.int .i64 a.k, vs, vt, .int .i64 a.n] 71)).alloc (.cells #[.int .i64 0] 3)).alloc (.cells #[.slice (some ⟨w1.heap.size, 0, none⟩) 1 1, .slice (some ⟨w1.heap.size + 1, 0, none⟩) 1 1] 78))
 have b2 : Below w1.heap.size w1 w2 := by rw [hw2]; exact ((below_alloc1 _ _).alloc (by simp) _).alloc (by simp; omega) _
 have k2 : Blk w2 G 71 #[.int .i64 a.k, vs, vt, .int .i64 a.n] := by rw [hw2, hG]; exact ((Blk.new _ _ _).old _).old _
 have k3 : Blk w2 (G + 1) 3 #[.int .i64 0] := by
  rw [hw2, hG]
  have := Blk.new (w1.alloc (.cells #[.int .i64 a.k, vs, vt, .int .i64 a.n] 71)) 3 #[.int .i64 0]
  rw [World.size_alloc] at this
  exact this.old _
 have k4 : Blk w2 (G + 1 + 1) 78 #[.slice (some ⟨G, 0, none⟩) 1 1, .slice (some ⟨G + 1, 0, none⟩) 1 1] := by
  rw [hw2, hG]
  have := Blk.new ((w1.alloc (.cells #[.int .i64 a.k, vs, vt, .int .i64 a.n] 71)).alloc (.cells #[.int .i64 0] 3)) 78 #[.slice (some ⟨w1.heap.size, 0, none⟩) 1 1, .slice (some ⟨w1.heap.size + 1, 0, none⟩) 1 1]
  rw [World.size_alloc, World.size_alloc] at this
  exact this
 have HB2 := hide (b1.trans (b2.mono b1.size))
 have HG : Hid (w.heap.size + 2 = G) := by unfold Hid; omega
 have HK1 := hide (k1.below b2)
 have HK2 : Hid (Blk w2 G 71 #[.int .i64 a.k, vs, vt, .int .i64 a.n]) := k2
 have HK3 : Hid (Blk w2 (G + 1) 3 #[.int .i64 0]) := k3
 have HK4 : Hid (Blk w2 (G + 1 + 1) 78 #[.slice (some ⟨G, 0, none⟩) 1 1, .slice (some ⟨G + 1, 0, none⟩) 1 1]) := k4
 have HNs : Hid (∀ g, w.heap.size ≤ g → ¬ S g) := fun g hg hs => by have := hlt g hs; omega
 have HRd : Hid (∀ W, Bw w W → Blk W G 71 #[.int .i64 a.k, vs, vt, .int .i64 a.n] → Kp S W (fun X => ReadsA X (.slice (some ⟨G, 0, none⟩) 1 1) [a])) := fun W hW hk0 X hX => by
  have hk := hX.blk hk0 (HNs.out G (by have := HG.out; omega))
  have hwX : LKeep S w X := (LKeep.of_below hW).trans (Grows.refl _ _) hX
  exact Or.inr ⟨G, 0, 1, rfl, hk.lt, by simp, ⟨by simp, by simp⟩, fun i b hb => by
   cases i with
   | zero =>
    obtain rfl : a = b := by simpa using hb
    exact ⟨vs, vt, hk.cell 0, hk.cell 1, hk.cell 2, hk.cell 3, hS X hwX, hT X hwX⟩
   | succ i => simp at hb⟩
 obtain ⟨so, sc, rfl, _⟩ := hS.now.slice
 obtain ⟨tto, tc, rfl, _⟩ := hT.now.slice
 have a0 : w1.cell? ⟨w.heap.size, 0, none⟩ = some (.int .i64 a.k) := k0.cell 0
 have a1 : w1.cell? ⟨w.heap.size, 1, none⟩ = some (.slice so a.s.length sc) := k0.cell 1
 have a2 : w1.cell? ⟨w.heap.size, 2, none⟩ = some (.slice tto a.t.length tc) := k0.cell 2
 have a3 : w1.cell? ⟨w.heap.size, 3, none⟩ = some (.int .i64 a.n) := k0.cell 3
 clear k0 k1 k2 k3 k4 b1 b2 s1 hS hT hlt
 go_enter Tryz.func28, Tryz.ntmps28
 go_upto_region 1 with fail
 rw [← hw1]
 clear hw1
 go_upto_region 2 with fail
 rw [← hw2, ← hG]
 clear hw2 hG a0 a1 a2 a3
 cases h with
 | true =>
  have y0 : w2.cell? ⟨G + 1 + 1, 0, none⟩ = some (.slice (some ⟨G, 0, none⟩) 1 1) := HK4.out.cell 0
  have y1 : w2.cell? ⟨G + 1 + 1, 1, none⟩ = some (.slice (some ⟨G + 1, 0, none⟩) 1 1) := HK4.out.cell 1
  have z0 : w2.cell? ⟨w.heap.size + 1, 0, none⟩ = some (.slice none 0 0) := HK1.out.cell 0
  have z1 : w2.cell? ⟨w.heap.size + 1, 1, none⟩ = some (.slice none 0 0) := HK1.out.cell 1
  have f0 : w2.frozen? ⟨w.heap.size + 1, 0, none⟩ = false := HK1.out.frozen 0
  have f1 : w2.frozen? ⟨w.heap.size + 1, 1, none⟩ = false := HK1.out.frozen 1
  go_wp2
  have hg := HG.out
  have r1 : Blk ((w2.setCell ⟨w.heap.size + 1, 0, none⟩ (.slice (some ⟨G, 0, none⟩) 1 1)).setCell ⟨w.heap.size + 1, 1, none⟩ (.slice (some ⟨G + 1, 0, none⟩) 1 1)) (w.heap.size + 1) 78 #[.slice (some ⟨G, 0, none⟩) 1 1, .slice (some ⟨G + 1, 0, none⟩) 1 1] := (HK1.out.set 0 _).set 1 _
  have l1 := loadF r1
  have hB : Bw w ((w2.setCell ⟨w.heap.size + 1, 0, none⟩ (.slice (some ⟨G, 0, none⟩) 1 1)).setCell ⟨w.heap.size + 1, 1, none⟩ (.slice (some ⟨G + 1, 0, none⟩) 1 1)) := (HB2.out.setCell (by simp) _).setCell (by simp) _
  refine bodyPost_ret (v := .agg #[.slice (some ⟨G, 0, none⟩) 1 1, .slice (some ⟨G + 1, 0, none⟩) 1 1]) ?_ rfl ⟨_, _, _, _, _, _, rfl, fun X hX => ⟨HRd.out _ hB ((HK2.out.far (by omega) _ _).far (by omega) _ _) X hX, ?_⟩, hB⟩
  ·rw [results_one rfl]
   simp [asAddr, Result.andThen, l1]
  ·have q0 : Blk ((w2.setCell ⟨w.heap.size + 1, 0, none⟩ (.slice (some ⟨G, 0, none⟩) 1 1)).setCell ⟨w.heap.size + 1, 1, none⟩ (.slice (some ⟨G + 1, 0, none⟩) 1 1)) (G + 1) 3 #[.int .i64 0] := (HK3.out.far (by omega) _ _).far (by omega) _ _
   have q := hX.blk q0 (HNs.out (G + 1) (by omega))
   show Reads _ _ [0]
   refine Or.inr ⟨G + 1, 0, 1, rfl, q.lt, by simp, ⟨by simp, by simp⟩, fun j hj => ?_⟩
   obtain rfl : j = 0 := by have : j < 1 := hj; omega
   exact q.cell 0
 | false =>
  have hg := HG.out
  have HO2 : Hid (w2.ownsRow w.heap.size 3 1 (.slice (some ⟨G + 1, 0, none⟩) 1 1) [(0 : Int)].length ([(0 : Int)].map (Value.int .i64))) := ⟨rfl, Or.inr ⟨G + 1, 1, #[.int .i64 0], rfl, by omega, HK3.out, by decide, by decide, rfl, rfl⟩⟩
  have HS2 := hide (HB2.out.size)
  have HG4 := hide (HK4.out.lt)
  clear hg
  have y1 : w2.cell? ⟨G + 1 + 1, 1, none⟩ = some (.slice (some ⟨G + 1, 0, none⟩) 1 1) := HK4.out.cell 1
  go_wp2_with (at_builtin; refine append_long rfl _ _ rfl w.heap.size (.slice (some ⟨G + 1, 0, none⟩) 1 1) rfl [0] 12 w2.heap.size 1 rfl (HO2.out.alloc _) (heap_alloc_new w2 _) (by have := HS2.out; simp; omega) (by decide) ?_)
  intro v9 w9 hown hgrow hat
  obtain ⟨vo, vn, vc, hv9⟩ : ∃ vo vn vc, v9 = .slice vo vn vc := by
   rcases hown.2 with ⟨rfl, _⟩ | ⟨g, cap, cur, rfl, _⟩
   ·exact ⟨_, _, _, rfl⟩
   ·exact ⟨_, _, _, rfl⟩
  subst hv9
  have keep : ∀ g T cs, Blk w2 g T cs → g ≠ G + 1 → Blk w9 g T cs := fun g T cs hb hne => by
   have h6 := hb.old (.cells #[.int .i64 12] 3)
   unfold Blk
   rw [hgrow.block g h6.lt fun e => hne (Option.some.inj e)]
   exact h6
  have hg := HG.out
  have hB9 : Bw w w9 := (HB2.out.alloc HB2.out.size _).grown hgrow (by simp; have := HS2.out; omega) fun b e => by
   have : G + 1 = b := Option.some.inj e
   omega
  have HoB : Hid (∀ b, (Value.slice vo vn vc).ownBlock = some b → b = G + 1 ∨ b = w2.heap.size + 1) := fun b e => by
   rcases hat with h | h
   ·rw [h] at e; left; exact (Option.some.inj e).symm
   ·rw [h] at e; right; have := Option.some.inj e; first | omega | (simp at this; omega)
  have HK1' : Hid (Blk w9 (w.heap.size + 1) 78 #[.slice none 0 0, .slice none 0 0]) := keep _ _ _ HK1.out (by omega)
  have HK2' : Hid (Blk w9 G 71 #[.int .i64 a.k, .slice so a.s.length sc, .slice tto a.t.length tc, .int .i64 a.n]) := keep _ _ _ HK2.out (by omega)
  have HK4' : Hid (Blk w9 (G + 1 + 1) 78 #[.slice (some ⟨G, 0, none⟩) 1 1, .slice (some ⟨G + 1, 0, none⟩) 1 1]) := keep _ _ _ HK4.out (by omega)
  have HB9 := hide hB9
  have HO9 := hide hown
  clear hown hgrow hat keep hB9 y1
  obtain ⟨w10, hw10⟩ := nm (w9.setCell ⟨G + 1 + 1, 1, none⟩ (.slice vo vn vc))
  have HB10 : Hid (Bw w w10) := by unfold Hid; rw [hw10]; exact HB9.out.setCell (by simp; omega) _
  have HK1f : Hid (Blk w10 (w.heap.size + 1) 78 #[.slice none 0 0, .slice none 0 0]) := by unfold Hid; rw [hw10]; exact HK1'.out.far (by omega) _ _
  have HK2f : Hid (Blk w10 G 71 #[.int .i64 a.k, .slice so a.s.length sc, .slice tto a.t.length tc, .int .i64 a.n]) := by unfold Hid; rw [hw10]; exact HK2'.out.far (by omega) _ _
  have HK4f : Hid (Blk w10 (G + 1 + 1) 78 #[.slice (some ⟨G, 0, none⟩) 1 1, .slice vo vn vc]) := by unfold Hid; rw [hw10]; exact HK4'.out.set 1 _
  have HO10 : Hid (w10.ownsRow w.heap.size 3 1 (.slice vo vn vc) [(0 : Int), 12].length ([(0 : Int), 12].map (Value.int .i64))) := by
   unfold Hid; rw [hw10]
   exact own_far HO9.out (fun b e => by have h1 := HoB.out b e; have h2 := HG4.out; show b ≠ G + 1 + 1; omega) _
  have y1 : w9.cell? ⟨G + 1 + 1, 1, none⟩ = some (.slice (some ⟨G + 1, 0, none⟩) 1 1) := HK4'.out.cell 1
  have f9 : w9.frozen? ⟨G + 1 + 1, 1, none⟩ = false := HK4'.out.frozen 1
  clear hg
  go_upto_region 4 with fail
  rw [← hw10]
  clear hw10 y1 f9
  have y0 : w10.cell? ⟨G + 1 + 1, 0, none⟩ = some (.slice (some ⟨G, 0, none⟩) 1 1) := HK4f.out.cell 0
  have y1 : w10.cell? ⟨G + 1 + 1, 1, none⟩ = some (.slice vo vn vc) := HK4f.out.cell 1
  have z0 : w10.cell? ⟨w.heap.size + 1, 0, none⟩ = some (.slice none 0 0) := HK1f.out.cell 0
  have z1 : w10.cell? ⟨w.heap.size + 1, 1, none⟩ = some (.slice none 0 0) := HK1f.out.cell 1
  have f0 : w10.frozen? ⟨w.heap.size + 1, 0, none⟩ = false := HK1f.out.frozen 0
  have f1 : w10.frozen? ⟨w.heap.size + 1, 1, none⟩ = false := HK1f.out.frozen 1
  go_wp2
  have hg := HG.out
  have hg4 := HG4.out
  have r1 : Blk ((w10.setCell ⟨w.heap.size + 1, 0, none⟩ (.slice (some ⟨G, 0, none⟩) 1 1)).setCell ⟨w.heap.size + 1, 1, none⟩ (.slice vo vn vc)) (w.heap.size + 1) 78 #[.slice (some ⟨G, 0, none⟩) 1 1, .slice vo vn vc] := (HK1f.out.set 0 _).set 1 _
  have l1 := loadF r1
  have hB : Bw w ((w10.setCell ⟨w.heap.size + 1, 0, none⟩ (.slice (some ⟨G, 0, none⟩) 1 1)).setCell ⟨w.heap.size + 1, 1, none⟩ (.slice vo vn vc)) := (HB10.out.setCell (by simp) _).setCell (by simp) _
  refine bodyPost_ret (v := .agg #[.slice (some ⟨G, 0, none⟩) 1 1, .slice vo vn vc]) ?_ rfl ⟨_, _, _, _, _, _, rfl, fun X hX => ⟨HRd.out _ hB ((HK2f.out.far (by omega) _ _).far (by omega) _ _) X hX, ?_⟩, hB⟩
  ·rw [results_one rfl]
   simp [asAddr, Result.andThen, l1]
  ·have hne : ∀ b, (Value.slice vo vn vc).ownBlock = some b → b ≠ w.heap.size + 1 := fun b e => by have := HoB.out b e; omega
   show Reads _ _ [0, 12]
   have hown := own_far (own_far HO10.out hne (.slice (some ⟨G, 0, none⟩) 1 1) (p := ⟨w.heap.size + 1, 0, none⟩)) hne (.slice vo vn vc) (p := ⟨w.heap.size + 1, 1, none⟩)
   refine own_readsL (own_keep hown fun g e => hX.block g ?_ (HNs.out g (hown.lt g e).1)) (by simp)
   exact (hown.lt g e).2
theorem refAlone_any (a : At) (h : Bool) (vs vt : Value) (w : World) (hS : Reads w vs a.s) (hT : Reads w vt a.t) :
    Calls Tryz.prog 28 #[.agg #[.int .i64 a.k, vs, vt, .int .i64 a.n], .bool h] w fun e w' => ∃ o1 l1 c1 o2 l2 c2, e = .returned (.agg #[.slice o1 l1 c1, .slice o2 l2 c2]) ∧ (ReadsA w' (.slice o1 l1 c1) (aloneF a h).ats ∧ Reads w' (.slice o2 l2 c2) (aloneF a h).c) ∧ Bw w w' :=
 (refAlone_kp a h vs vt w (fun _ => False) (fun _ h => h.elim) (fun _ hX => hS.below (hX.below (fun _ h => h.elim) (Nat.le_refl _))) (fun _ hX => hT.below (hX.below (fun _ h => h.elim) (Nat.le_refl _)))).mono fun _ _ ⟨o1, l1, c1, o2, l2, c2, h1, h2, h3⟩ => ⟨o1, l1, c1, o2, l2, c2, h1, h2.now, h3⟩
def digB (b : UInt8) : Bool := decide (48 ≤ b.toNat ∧ b.toNat ≤ 57)
def sgn (below : Bool) (n : Int) : Int := if below = true then -n else n
def refNumU (below : Bool) : List UInt8 → Option Int
 | [d] => if digB d = true then (if d = 48 ∧ below = true then none else some (sgn below ((d.toNat : Int) - 48))) else none
 | [d, e] => if digB d = true ∧ digB e = true then (if d = 48 then none else some (sgn below (10 * ((d.toNat : Int) - 48) + ((e.toNat : Int) - 48)))) else none
 | _ => none
def refNum : List UInt8 → Option Int
 | [] => none
 | b :: r => if b = 45 then refNumU true r else refNumU false (b :: r)
theorem refNum_nums : nums.all (fun n => decide (refNum (numText n) = some n)) = true := by decide +kernel
theorem refNum_text {n : Int} (h : -99 ≤ n ∧ n ≤ 99) : refNum (numText n) = some n := by
 have := List.all_eq_true.1 refNum_nums n (mem_nums.2 h)
 simpa using this
theorem digit_of {b : UInt8} (h : digB b = true) : ∃ a : Nat, a ≤ 9 ∧ b = UInt8.ofNat (48 + a) ∧ b.toNat = 48 + a := by
 have h' : 48 ≤ b.toNat ∧ b.toNat ≤ 57 := by simpa [digB] using h
 refine ⟨b.toNat - 48, by omega, ?_, by omega⟩
 apply UInt8.toNat_inj.1
 simp
 omega
theorem one_text : ∀ a : Nat, a < 10 → numText (a : Int) = [UInt8.ofNat (48 + a)] ∧ (0 < a → numText (-(a : Int)) = [45, UInt8.ofNat (48 + a)]) := by decide
theorem two_text : ∀ a : Nat, a < 10 → 0 < a → ∀ b : Nat, b < 10 → numText ((10 * a + b : Nat) : Int) = [UInt8.ofNat (48 + a), UInt8.ofNat (48 + b)] ∧ numText (-((10 * a + b : Nat) : Int)) = [45, UInt8.ofNat (48 + a), UInt8.ofNat (48 + b)] := by decide +kernel
theorem numU_text {below : Bool} {r : List UInt8} {n : Int} (h : refNumU below r = some n) : (-99 ≤ n ∧ n ≤ 99) ∧ numText n = (if below = true then 45 :: r else r) := by
 match r, h with
 | [d], h =>
  rw [refNumU] at h
  by_cases hd : digB d = true
  ·rw [if_pos hd] at h
   obtain ⟨a, ha, rfl, hn⟩ := digit_of hd
   by_cases hz : UInt8.ofNat (48 + a) = 48 ∧ below = true
   ·rw [if_pos hz] at h; cases h
   ·rw [if_neg hz] at h
    have e := Option.some.inj h
    rw [hn] at e
    have ht := one_text a (by omega)
    cases below
    ·simp [sgn] at e
     have e' : n = (a : Int) := by omega
     subst e'
     exact ⟨by omega, ht.1⟩
    ·simp [sgn] at e
     have e' : n = -(a : Int) := by omega
     subst e'
     have h0 : 0 < a := by
      rcases Nat.eq_zero_or_pos a with rfl | h0
      ·exact absurd ⟨rfl, rfl⟩ hz
      ·exact h0
     exact ⟨by omega, ht.2 h0⟩
  ·rw [if_neg hd] at h; cases h
 | [d, e0], h =>
  rw [refNumU] at h
  by_cases hd : digB d = true ∧ digB e0 = true
  ·rw [if_pos hd] at h
   obtain ⟨a, ha, rfl, hn⟩ := digit_of hd.1
   obtain ⟨b, hb, rfl, hm⟩ := digit_of hd.2
   by_cases hz : UInt8.ofNat (48 + a) = 48
   ·rw [if_pos hz] at h; cases h
   ·rw [if_neg hz] at h
    have e := Option.some.inj h
    rw [hn, hm] at e
    have h0 : 0 < a := by
     rcases Nat.eq_zero_or_pos a with rfl | h0
     ·exact absurd rfl hz
     ·exact h0
    have ht := two_text a (by omega) h0 b (by omega)
    cases below
    ·simp [sgn] at e
     have e' : n = ((10 * a + b : Nat) : Int) := by omega
     subst e'
     exact ⟨by omega, ht.1⟩
    ·simp [sgn] at e
     have e' : n = -((10 * a + b : Nat) : Int) := by omega
     subst e'
     exact ⟨by omega, ht.2⟩
  ·rw [if_neg hd] at h; cases h
 | [], h => cases h
 | _ :: _ :: _ :: _, h => cases h
theorem numOf_ref (l : List UInt8) : numOf l = refNum l := by
 cases h : refNum l with
 | some n =>
  match l, h with
  | b :: r, h =>
   rw [refNum] at h
   by_cases hb : b = 45
   ·subst hb
    rw [if_pos rfl] at h
    have := numU_text h
    exact numOf_some.2 ⟨this.1, this.2⟩
   ·rw [if_neg hb] at h
    have := numU_text h
    exact numOf_some.2 ⟨this.1, this.2⟩
 | none =>
  cases h1 : numOf l with
  | none => rfl
  | some n =>
   obtain ⟨hn, rfl⟩ := numOf_some.1 h1
   rw [refNum_text hn] at h
   cases h
theorem at_byte {s : ByteArray} {l : List UInt8} (hl : s.data.toList = l) {k : Nat} (hk : k < s.size) {b : UInt8} (hb : l[k]? = some b) : s[k]'hk = b := by
 have h2 : s.data.toList[k]? = some (s[k]'hk) := by
  rw [List.getElem?_eq_getElem (by rw [Array.length_toList]; exact hk)]; rfl
 rw [hl, hb] at h2
 exact (Option.some.inj h2).symm
theorem byte_ne {b : UInt8} {c : Nat} (hc : c < 256) (h : b ≠ UInt8.ofNat c) : ((b.toNat : Int) == (c : Int)) = false := by
 simp only [beq_eq_false_iff_ne, ne_eq]
 intro h1
 apply h
 apply UInt8.toNat_inj.1
 simp
 omega
theorem readNum_none (s : ByteArray) (hz : s.size ≤ 9223372036854775807) (hl : (bareN s.data.toList).length = 0 ∨ 2 < (bareN s.data.toList).length) (w : World) :
    Calls Tryz.prog 51 #[.string s] w (Sk w (.tuple #[.int .i64 0, .bool false])) := by
 have hsz : s.data.toList.length = s.size := Array.length_toList
 by_cases h0 : s.size = 0
 ·have h0' : (s.size : Int) = 0 := by omega
  go_enter Tryz.func51, Tryz.ntmps51
  go_wp2
  go_ret2
  exact ⟨rfl, rfl⟩
 ·have h0' : (0 : Int) < (s.size : Int) := by omega
  have h0n : 0 < s.size := by omega
  obtain ⟨b, r, hbr⟩ : ∃ b r, s.data.toList = b :: r := by
   cases h : s.data.toList with
   | nil => rw [h] at hsz; simp at hsz; omega
   | cons b r => exact ⟨b, r, rfl⟩
  have hb0 : s[0]'h0n = b := at_byte hbr h0n rfl
  rw [hbr] at hl hsz
  simp at hsz
  by_cases hb : b = 45
  ·subst hb
   have hl' : r.length = 0 ∨ 2 < r.length := hl
   have hbb : (((s[0]'h0n).toNat : Int) == 45) = true := by rw [hb0]; rfl
   have h1s : (1 : Int) ≤ (s.size : Int) := by omega
   have hxs : (s.extract 1 s.size).size = s.size - 1 := by simp
   rcases hl' with hl' | hl'
   ·have hx : ((s.extract 1 s.size).size : Int) < 1 := by omega
    go_enter Tryz.func51, Tryz.ntmps51
    go_wp2
    go_ret2
    exact ⟨rfl, rfl⟩
   ·have hx : (2 : Int) < ((s.extract 1 s.size).size : Int) := by omega
    go_enter Tryz.func51, Tryz.ntmps51
    go_wp2
    go_ret2
    exact ⟨rfl, rfl⟩
  ·have hbb : ((b.toNat : Int) == 45) = false := byte_ne (by decide) hb
   have hl' : 2 < r.length + 1 := by
    rcases hl with h | h
    ·rw [bareN, if_neg hb] at h; simp at h
    ·rw [bareN, if_neg hb] at h; simpa using h
   have hs2 : (2 : Int) < (s.size : Int) := by omega
   go_enter Tryz.func51, Tryz.ntmps51
   go_wp2
   go_ret2
   exact ⟨rfl, rfl⟩
theorem readNum_d (s : ByteArray) (d : UInt8) (hs : s.data.toList = [d]) (hd : d ≠ 45) (w : World) :
    Calls Tryz.prog 51 #[.string s] w (Sk w (.tuple #[.int .i64 ((refNumU false [d]).getD 0), .bool (refNumU false [d]).isSome])) := by
 have hsz : s.size = 1 := by have : s.data.toList.length = s.size := Array.length_toList; rw [hs] at this; exact this.symm
 have h0n : 0 < s.size := by omega
 have hi : (s.size : Int) = 1 := by omega
 have hbb : ((d.toNat : Int) == 45) = false := byte_ne (by decide) hd
 have hn0 : 0 < s.size := by omega
 have hb0 : s[0]'hn0 = d := at_byte hs hn0 rfl
 have hq0 : (d.toNat : Int) ≤ 255 := by have := d.toNat_lt; omega
 by_cases l0 : d.toNat < 48
 ·have l0' : (d.toNat : Int) < 48 := by omega
  have he : refNumU false [d] = none := by simp only [refNumU]; rw [if_neg]; simp [digB]; omega
  rw [he]
  clear he
  go_enter Tryz.func51, Tryz.ntmps51
  go_wp2
  refine wp_loop_rounds 3 ?_
  rw [rounds_succ]
  go_wp2
  go_ret2
  exact ⟨rfl, rfl⟩
 ·have l0' : ¬ (d.toNat : Int) < 48 := by omega
  by_cases g0 : 57 < d.toNat
  ·have g0' : 57 < (d.toNat : Int) := by omega
   have he : refNumU false [d] = none := by simp only [refNumU]; rw [if_neg]; simp [digB]; omega
   rw [he]
   clear he
   go_enter Tryz.func51, Tryz.ntmps51
   go_wp2
   refine wp_loop_rounds 3 ?_
   rw [rounds_succ]
   go_wp2
   go_ret2
   exact ⟨rfl, rfl⟩
  ·have g0' : ¬ 57 < (d.toNat : Int) := by omega
   by_cases z : d = 48
   ·have z' : ((d.toNat : Int) == 48) = true := by rw [z]; rfl
    have z2 : (d.toNat : Int) = 48 := by rw [z]; rfl
    have he : refNumU false [d] = some 0 := by subst z; rfl
    rw [he]
    clear he
    go_enter Tryz.func51, Tryz.ntmps51
    go_wp2
    refine wp_loop_rounds 3 ?_
    rw [rounds_succ]
    go_wp2
    rw [rounds_succ]
    go_wp2
    go_ret2
    exact ⟨by first | rfl | (apply back_v; first | rfl | (congr 3; simp; try omega)), rfl⟩
   ·have z' : ((d.toNat : Int) == 48) = false := byte_ne (by decide) z
    have he : refNumU false [d] = some ((d.toNat : Int) - 48) := by simp only [refNumU]; rw [if_pos (by simp [digB]; omega), if_neg (fun h => z h.1)]; rfl
    rw [he]
    clear he
    go_enter Tryz.func51, Tryz.ntmps51
    go_wp2
    refine wp_loop_rounds 3 ?_
    rw [rounds_succ]
    go_wp2
    rw [rounds_succ]
    go_wp2
    go_ret2
    exact ⟨by first | rfl | (apply back_v; first | rfl | (congr 3; simp; try omega)), rfl⟩
theorem readNum_dc (s : ByteArray) (d c : UInt8) (hs : s.data.toList = [d, c]) (hd : d ≠ 45) (w : World) :
    Calls Tryz.prog 51 #[.string s] w (Sk w (.tuple #[.int .i64 ((refNumU false [d, c]).getD 0), .bool (refNumU false [d, c]).isSome])) := by
 have hsz : s.size = 2 := by have : s.data.toList.length = s.size := Array.length_toList; rw [hs] at this; exact this.symm
 have h0n : 0 < s.size := by omega
 have hi : (s.size : Int) = 2 := by omega
 have hbb : ((d.toNat : Int) == 45) = false := byte_ne (by decide) hd
 have hn0 : 0 < s.size := by omega
 have hb0 : s[0]'hn0 = d := at_byte hs hn0 rfl
 have hq0 : (d.toNat : Int) ≤ 255 := by have := d.toNat_lt; omega
 have hn1 : 1 < s.size := by omega
 have hb1 : s[1]'hn1 = c := at_byte hs hn1 rfl
 have hq1 : (c.toNat : Int) ≤ 255 := by have := c.toNat_lt; omega
 by_cases l0 : d.toNat < 48
 ·have l0' : (d.toNat : Int) < 48 := by omega
  have he : refNumU false [d, c] = none := by simp only [refNumU]; rw [if_neg]; simp [digB]; omega
  rw [he]
  clear he
  go_enter Tryz.func51, Tryz.ntmps51
  go_wp2
  refine wp_loop_rounds 3 ?_
  rw [rounds_succ]
  go_wp2
  go_ret2
  exact ⟨rfl, rfl⟩
 ·have l0' : ¬ (d.toNat : Int) < 48 := by omega
  by_cases g0 : 57 < d.toNat
  ·have g0' : 57 < (d.toNat : Int) := by omega
   have he : refNumU false [d, c] = none := by simp only [refNumU]; rw [if_neg]; simp [digB]; omega
   rw [he]
   clear he
   go_enter Tryz.func51, Tryz.ntmps51
   go_wp2
   refine wp_loop_rounds 3 ?_
   rw [rounds_succ]
   go_wp2
   go_ret2
   exact ⟨rfl, rfl⟩
  ·have g0' : ¬ 57 < (d.toNat : Int) := by omega
   by_cases l1 : c.toNat < 48
   ·have l1' : (c.toNat : Int) < 48 := by omega
    have he : refNumU false [d, c] = none := by simp only [refNumU]; rw [if_neg]; simp [digB]; omega
    rw [he]
    clear he
    go_enter Tryz.func51, Tryz.ntmps51
    go_wp2
    refine wp_loop_rounds 3 ?_
    rw [rounds_succ]
    go_wp2
    rw [rounds_succ]
    go_wp2
    go_ret2
    exact ⟨rfl, rfl⟩
   ·have l1' : ¬ (c.toNat : Int) < 48 := by omega
    by_cases g1 : 57 < c.toNat
    ·have g1' : 57 < (c.toNat : Int) := by omega
     have he : refNumU false [d, c] = none := by simp only [refNumU]; rw [if_neg]; simp [digB]; omega
     rw [he]
     clear he
     go_enter Tryz.func51, Tryz.ntmps51
     go_wp2
     refine wp_loop_rounds 3 ?_
     rw [rounds_succ]
     go_wp2
     rw [rounds_succ]
     go_wp2
     go_ret2
     exact ⟨rfl, rfl⟩
    ·have g1' : ¬ 57 < (c.toNat : Int) := by omega
     by_cases z : d = 48
     ·have z' : ((d.toNat : Int) == 48) = true := by rw [z]; rfl
      have he : refNumU false [d, c] = none := by simp only [refNumU]; rw [if_pos (by simp [digB]; omega), if_pos z]
      rw [he]
      clear he
      go_enter Tryz.func51, Tryz.ntmps51
      go_wp2
      refine wp_loop_rounds 3 ?_
      rw [rounds_succ]
      go_wp2
      rw [rounds_succ]
      go_wp2
      rw [rounds_succ]
      go_wp2
      go_ret2
      exact ⟨rfl, rfl⟩
     ·have z' : ((d.toNat : Int) == 48) = false := byte_ne (by decide) z
      have he : refNumU false [d, c] = some (10 * ((d.toNat : Int) - 48) + ((c.toNat : Int) - 48)) := by simp only [refNumU]; rw [if_pos (by simp [digB]; omega), if_neg z]; rfl
      rw [he]
      clear he
      go_enter Tryz.func51, Tryz.ntmps51
      go_wp2
      refine wp_loop_rounds 3 ?_
      rw [rounds_succ]
      go_wp2
      rw [rounds_succ]
      go_wp2
      rw [rounds_succ]
      go_wp2
      go_ret2
      exact ⟨by first | rfl | (apply back_v; first | rfl | (congr 3; simp; try omega)), rfl⟩
theorem readNum_md (s : ByteArray) (d : UInt8) (hs : s.data.toList = [45, d]) (w : World) :
    Calls Tryz.prog 51 #[.string s] w (Sk w (.tuple #[.int .i64 ((refNumU true [d]).getD 0), .bool (refNumU true [d]).isSome])) := by
 have hsz : s.size = 2 := by have : s.data.toList.length = s.size := Array.length_toList; rw [hs] at this; exact this.symm
 have h0n : 0 < s.size := by omega
 have hi : (s.size : Int) = 2 := by omega
 have hb : s[0]'h0n = 45 := at_byte hs h0n rfl
 obtain ⟨t, hx⟩ : ∃ t, s.extract 1 2 = t := ⟨_, rfl⟩
 have ht : t.data.toList = [d] := by rw [← hx, Lib.extract_eq, hs]; rfl
 have htz : t.size = 1 := by have : t.data.toList.length = t.size := Array.length_toList; rw [ht] at this; exact this.symm
 have hti : (t.size : Int) = 1 := by omega
 have hn0 : 0 < t.size := by omega
 have hb0 : t[0]'hn0 = d := at_byte ht hn0 rfl
 have hq0 : (d.toNat : Int) ≤ 255 := by have := d.toNat_lt; omega
 by_cases l0 : d.toNat < 48
 ·have l0' : (d.toNat : Int) < 48 := by omega
  have he : refNumU true [d] = none := by simp only [refNumU]; rw [if_neg]; simp [digB]; omega
  rw [he]
  clear he
  go_enter Tryz.func51, Tryz.ntmps51
  go_wp2
  refine wp_loop_rounds 3 ?_
  rw [rounds_succ]
  go_wp2
  go_ret2
  exact ⟨rfl, rfl⟩
 ·have l0' : ¬ (d.toNat : Int) < 48 := by omega
  by_cases g0 : 57 < d.toNat
  ·have g0' : 57 < (d.toNat : Int) := by omega
   have he : refNumU true [d] = none := by simp only [refNumU]; rw [if_neg]; simp [digB]; omega
   rw [he]
   clear he
   go_enter Tryz.func51, Tryz.ntmps51
   go_wp2
   refine wp_loop_rounds 3 ?_
   rw [rounds_succ]
   go_wp2
   go_ret2
   exact ⟨rfl, rfl⟩
  ·have g0' : ¬ 57 < (d.toNat : Int) := by omega
   by_cases z : d = 48
   ·have z' : ((d.toNat : Int) == 48) = true := by rw [z]; rfl
    have he : refNumU true [d] = none := by subst z; rfl
    rw [he]
    clear he
    go_enter Tryz.func51, Tryz.ntmps51
    go_wp2
    refine wp_loop_rounds 3 ?_
    rw [rounds_succ]
    go_wp2
    rw [rounds_succ]
    go_wp2
    go_ret2
    exact ⟨rfl, rfl⟩
   ·have z' : ((d.toNat : Int) == 48) = false := byte_ne (by decide) z
    have he : refNumU true [d] = some (-((d.toNat : Int) - 48)) := by simp only [refNumU]; rw [if_pos (by simp [digB]; omega), if_neg (fun h => z h.1)]; rfl
    rw [he]
    clear he
    go_enter Tryz.func51, Tryz.ntmps51
    go_wp2
    refine wp_loop_rounds 3 ?_
    rw [rounds_succ]
    go_wp2
    rw [rounds_succ]
    go_wp2
    go_ret2
    exact ⟨by first | rfl | (apply back_v; first | rfl | (congr 3; simp; try omega)), rfl⟩
theorem readNum_mdc (s : ByteArray) (d c : UInt8) (hs : s.data.toList = [45, d, c]) (w : World) :
    Calls Tryz.prog 51 #[.string s] w (Sk w (.tuple #[.int .i64 ((refNumU true [d, c]).getD 0), .bool (refNumU true [d, c]).isSome])) := by
 have hsz : s.size = 3 := by have : s.data.toList.length = s.size := Array.length_toList; rw [hs] at this; exact this.symm
 have h0n : 0 < s.size := by omega
 have hi : (s.size : Int) = 3 := by omega
 have hb : s[0]'h0n = 45 := at_byte hs h0n rfl
 obtain ⟨t, hx⟩ : ∃ t, s.extract 1 3 = t := ⟨_, rfl⟩
 have ht : t.data.toList = [d, c] := by rw [← hx, Lib.extract_eq, hs]; rfl
 have htz : t.size = 2 := by have : t.data.toList.length = t.size := Array.length_toList; rw [ht] at this; exact this.symm
 have hti : (t.size : Int) = 2 := by omega
 have hn0 : 0 < t.size := by omega
 have hb0 : t[0]'hn0 = d := at_byte ht hn0 rfl
 have hq0 : (d.toNat : Int) ≤ 255 := by have := d.toNat_lt; omega
 have hn1 : 1 < t.size := by omega
 have hb1 : t[1]'hn1 = c := at_byte ht hn1 rfl
 have hq1 : (c.toNat : Int) ≤ 255 := by have := c.toNat_lt; omega
 by_cases l0 : d.toNat < 48
 ·have l0' : (d.toNat : Int) < 48 := by omega
  have he : refNumU true [d, c] = none := by simp only [refNumU]; rw [if_neg]; simp [digB]; omega
  rw [he]
  clear he
  go_enter Tryz.func51, Tryz.ntmps51
  go_wp2
  refine wp_loop_rounds 3 ?_
  rw [rounds_succ]
  go_wp2
  go_ret2
  exact ⟨rfl, rfl⟩
 ·have l0' : ¬ (d.toNat : Int) < 48 := by omega
  by_cases g0 : 57 < d.toNat
  ·have g0' : 57 < (d.toNat : Int) := by omega
   have he : refNumU true [d, c] = none := by simp only [refNumU]; rw [if_neg]; simp [digB]; omega
   rw [he]
   clear he
   go_enter Tryz.func51, Tryz.ntmps51
   go_wp2
   refine wp_loop_rounds 3 ?_
   rw [rounds_succ]
   go_wp2
   go_ret2
   exact ⟨rfl, rfl⟩
  ·have g0' : ¬ 57 < (d.toNat : Int) := by omega
   by_cases l1 : c.toNat < 48
   ·have l1' : (c.toNat : Int) < 48 := by omega
    have he : refNumU true [d, c] = none := by simp only [refNumU]; rw [if_neg]; simp [digB]; omega
    rw [he]
    clear he
    go_enter Tryz.func51, Tryz.ntmps51
    go_wp2
    refine wp_loop_rounds 3 ?_
    rw [rounds_succ]
    go_wp2
    rw [rounds_succ]
    go_wp2
    go_ret2
    exact ⟨rfl, rfl⟩
   ·have l1' : ¬ (c.toNat : Int) < 48 := by omega
    by_cases g1 : 57 < c.toNat
    ·have g1' : 57 < (c.toNat : Int) := by omega
     have he : refNumU true [d, c] = none := by simp only [refNumU]; rw [if_neg]; simp [digB]; omega
     rw [he]
     clear he
     go_enter Tryz.func51, Tryz.ntmps51
     go_wp2
     refine wp_loop_rounds 3 ?_
     rw [rounds_succ]
     go_wp2
     rw [rounds_succ]
     go_wp2
     go_ret2
     exact ⟨rfl, rfl⟩
    ·have g1' : ¬ 57 < (c.toNat : Int) := by omega
     by_cases z : d = 48
     ·have z' : ((d.toNat : Int) == 48) = true := by rw [z]; rfl
      have he : refNumU true [d, c] = none := by simp only [refNumU]; rw [if_pos (by simp [digB]; omega), if_pos z]
      rw [he]
      clear he
      go_enter Tryz.func51, Tryz.ntmps51
      go_wp2
      refine wp_loop_rounds 3 ?_
      rw [rounds_succ]
      go_wp2
      rw [rounds_succ]
      go_wp2
      rw [rounds_succ]
      go_wp2
      go_ret2
      exact ⟨rfl, rfl⟩
     ·have z' : ((d.toNat : Int) == 48) = false := byte_ne (by decide) z
      have he : refNumU true [d, c] = some (-(10 * ((d.toNat : Int) - 48) + ((c.toNat : Int) - 48))) := by simp only [refNumU]; rw [if_pos (by simp [digB]; omega), if_neg z]; rfl
      rw [he]
      clear he
      go_enter Tryz.func51, Tryz.ntmps51
      go_wp2
      refine wp_loop_rounds 3 ?_
      rw [rounds_succ]
      go_wp2
      rw [rounds_succ]
      go_wp2
      rw [rounds_succ]
      go_wp2
      go_ret2
      exact ⟨by first | rfl | (apply back_v; first | rfl | (congr 3; simp; try omega)), rfl⟩
theorem readNumber_any (s : ByteArray) (hz : s.size ≤ 9223372036854775807) (w : World) :
    Calls Tryz.prog 51 #[.string s] w (Sk w (.tuple #[.int .i64 ((numOf s.data.toList).getD 0), .bool (numOf s.data.toList).isSome])) := by
 have none_of : (bareN s.data.toList).length = 0 ∨ 2 < (bareN s.data.toList).length → numOf s.data.toList = none := by
  intro h
  rw [numOf_ref]
  cases hl : s.data.toList with
  | nil => rfl
  | cons b r =>
   rw [hl, bareN] at h
   rw [refNum]
   by_cases hb : b = 45
   ·rw [if_pos hb] at h ⊢
    match r, h with
    | [], _ => rfl
    | [_], h => simp at h
    | [_, _], h => simp at h
    | _ :: _ :: _ :: _, _ => rfl
   ·rw [if_neg hb] at h ⊢
    match r, h with
    | [], h => simp at h
    | [_], h => simp at h
    | _ :: _ :: _, _ => rfl
 by_cases hl : (bareN s.data.toList).length = 0 ∨ 2 < (bareN s.data.toList).length
 ·rw [none_of hl]
  exact readNum_none s hz hl w
 ·clear none_of
  rw [numOf_ref]
  match hs : s.data.toList with
  | [] => rw [hs] at hl; exact absurd (Or.inl rfl) hl
  | b :: r =>
   rw [hs, bareN] at hl
   rw [refNum]
   by_cases hb : b = 45
   ·subst hb
    rw [if_pos rfl] at hl ⊢
    match r, hl, hs with
    | [], hl, _ => exact absurd (Or.inl rfl) hl
    | [d], _, hs => exact readNum_md s d hs w
    | [d, c], _, hs => exact readNum_mdc s d c hs w
    | _ :: _ :: _ :: _, hl, _ => exact absurd (Or.inr (by simp)) hl
   ·rw [if_neg hb] at hl ⊢
    match r, hl, hs with
    | [], _, hs => exact readNum_d s b hs hb w
    | [c], _, hs => exact readNum_dc s b c hs hb w
    | _ :: _ :: _, hl, _ => exact absurd (Or.inr (by simp)) hl
theorem letter_eq (j : Nat) (hj : j < 9) (b : UInt8) : (((((ByteArray.mk #[65, 66, 67, 48, 49, 43, 42, 45, 126])[j]'(by show j < 9; exact hj)).toNat : Nat) : Int) == ((b.toNat : Nat) : Int)) = decide (signOf b = (j : Int)) := by
 have h : ∀ j : Fin 9, ∀ n : Fin 256, (((((ByteArray.mk #[65, 66, 67, 48, 49, 43, 42, 45, 126])[j.val]'(by show j.val < 9; exact j.isLt)).toNat : Nat) : Int) == (((⟨⟨n⟩⟩ : UInt8).toNat : Nat) : Int)) = decide (signOf ⟨⟨n⟩⟩ = (j.val : Int)) := by decide +kernel
 exact h ⟨j, hj⟩ b.toBitVec.toFin
def part (b : UInt8) (j : Nat) : Int := if 0 ≤ signOf b ∧ signOf b < j then signOf b else -1
theorem part_zero (b : UInt8) : part b 0 = -1 := by unfold part; rw [if_neg (by omega)]
theorem part_hit {b : UInt8} {j : Nat} (h : signOf b = j) : part b (j + 1) = j := by unfold part; rw [if_pos (by omega), h]
theorem part_miss {b : UInt8} {j : Nat} (h : ¬ signOf b = j) : part b (j + 1) = part b j := by
 unfold part
 by_cases h' : 0 ≤ signOf b ∧ signOf b < (j : Int)
 ·rw [if_pos h', if_pos (by omega)]
 ·rw [if_neg h', if_neg (by omega)]
theorem part_nine (b : UInt8) : part b 9 = signOf b := by
 unfold part
 rcases byte_all b with h | h
 ·rw [h]; rfl
 ·have := signB_iff.1 h.1
  rw [if_pos (by omega)]
theorem own_ints_big {w : World} {base : Nat} {e : TypeId} {v : Value} {n : Nat} {xs : List Value} {t : List Int} (h : w.ownsRow base e 1 v n xs) (hx : xs = t.map (Value.int .i64)) (hm : n ≤ 9223372036854775807) : Reads w v t := by
 have hn : t.length = n := by have := h.1; rw [hx] at this; simpa using this
 rcases h.2 with ⟨rfl, h0⟩ | ⟨g, cap, cur, rfl, _⟩
 ·exact Or.inl ⟨_, _, rfl, List.eq_nil_of_length_eq_zero (by omega)⟩
 ·rcases Nat.eq_zero_or_pos n with h0 | h0
  ·exact Or.inl ⟨_, cap, by rw [h0], List.eq_nil_of_length_eq_zero (by omega)⟩
  ·refine Or.inr ⟨g, 0, cap, by rw [hn], (ownsRow_block h).2.1, by omega, ⟨by omega, by have := (ownsRow_block h).2.2; omega⟩, fun k hk => ?_⟩
   rw [Nat.zero_add, h.cellAt k (by omega), hx]
   simp [List.getElem?_eq_getElem hk]
theorem one_new (W : World) (X : Int) : ∀ j y, [Value.int .i64 X][j]? = some y → (W.alloc (.cells #[.int .i64 X] 3)).cell? ((⟨W.heap.size, 0, none⟩ : Addr).add j) = some y := by
 intro j y hj
 match j, hj with
 | 0, hj => simp at hj; subst hj; simp [Addr.add]
theorem one_cell (X : Int) : ∀ y ∈ [Value.int .i64 X], y.oneCell' = true := by
 intro y hy; simp at hy; subst hy; rfl
theorem take_bytes (s : ByteArray) {k : Nat} (h : k < s.size) : s.data.toList.take (k + 1) = s.data.toList.take k ++ [s[k]'h] := by
 have hk' : k < s.data.toList.length := by rw [Array.length_toList]; exact h
 rw [List.take_add_one, List.getElem?_eq_getElem hk']
 rfl
theorem letters_stop (s : ByteArray) {k : Nat} (h : k < s.size) (hb : signOf (s[k]'h) = -1) : lettersB s.data.toList = false := by
 have hk' : k < s.data.toList.length := by rw [Array.length_toList]; exact h
 have : ¬ lettersB s.data.toList = true := by
  intro hl
  have := List.all_eq_true.1 hl (s[k]'h) (List.getElem_mem hk')
  rw [hb] at this; exact absurd this (by decide)
 simpa using this
theorem newV_own {w : World} {base : Nat} {e : TypeId} {v : Value} {n : Nat} {xs : List Value} (h : w.ownsRow base e 1 v n xs) : NewV base v := by
 rcases h.2 with ⟨rfl, h0⟩ | ⟨g, cap, cur, rfl, hg, _⟩
 ·exact ⟨_, _, _, rfl, fun p hp => by cases hp⟩
 ·exact ⟨_, _, _, rfl, fun p hp => by cases hp; exact hg⟩
theorem readTerm_fresh (s : ByteArray) (hz : s.size ≤ 1048576) (w : World) :
    Calls Tryz.prog 21 #[.string s] w fun e w' => (lettersB s.data.toList = true → ∃ v, e = .returned (.tuple #[v, .bool true]) ∧ Reads w' v (readN s.data.toList) ∧ NewV w.heap.size v) ∧ (lettersB s.data.toList = false → e = .returned (.tuple #[.slice none 0 0, .bool false])) ∧ Below w.heap.size w w' := by
 obtain ⟨i0, hi, hz0, hz1, hz2⟩ := info_parts infoInt
 obtain ⟨K, hK⟩ := nm w.heap.size
 have HK := hide hK
 clear hK
 obtain ⟨QL, hQL⟩ : ∃ QL : Ending → World → Prop, QL = fun e w' => (lettersB s.data.toList = true → ∃ v, e = .returned (.tuple #[v, .bool true]) ∧ Reads w' v (readN s.data.toList) ∧ NewV w.heap.size v) ∧ (lettersB s.data.toList = false → e = .returned (.tuple #[.slice none 0 0, .bool false])) ∧ Below w.heap.size w w' := ⟨_, rfl⟩
 have HQ : Hid (∀ e w', ((lettersB s.data.toList = true → ∃ v, e = .returned (.tuple #[v, .bool true]) ∧ Reads w' v (readN s.data.toList) ∧ NewV w.heap.size v) ∧ (lettersB s.data.toList = false → e = .returned (.tuple #[.slice none 0 0, .bool false])) ∧ Below w.heap.size w w') → QL e w') := fun e w' h => by rw [hQL]; exact h
 have hgoal : Calls Tryz.prog 21 #[.string s] w QL := by
  clear hQL
  go_enter Tryz.func21, Tryz.ntmps21
  go_wp2
  go_loopw [4, 5] (fun v i wr => ∃ k : Nat, k ≤ s.size ∧ i = .int .i64 k ∧ wr.ownsRow K 3 1 v k ((readN (s.data.toList.take k)).map (Value.int .i64)) ∧ Below K w wr ∧ K ≤ wr.heap.size ∧ lettersB (s.data.toList.take k) = true) (fun _ i _ => s.size - (intOf i).toNat)
  case atStart => exact ⟨0, Nat.zero_le _, rfl, World.ownsRow_nil _ _ _ _, Below.refl _ _, by rw [HK.out]; exact Nat.le_refl _, rfl⟩
  case round =>
   obtain ⟨k, hk, rfl, hown, hbel, hKw, hlet⟩ := hrel
   by_cases hlt : k < s.size
   ·have hlt' : (k : Int) < (s.size : Int) := by omega
    have HOW := hide hown
    have HBE : Hid (Below K w wr ∧ K ≤ wr.heap.size) := ⟨hbel, hKw⟩
    have HLT := hide hlet
    clear hown hbel hKw hlet
    go_wp2_with fail
    go_loopw [6, 7] (fun kk jj wx => ∃ j : Nat, j ≤ 9 ∧ jj = .int .i64 j ∧ kk = .int .i64 (part (s[k]'hlt) j) ∧ Bw wr wx) (fun _ j _ => 9 - (intOf j).toNat)
    case atStart => exact ⟨0, Nat.zero_le _, rfl, by rw [part_zero], Below.refl _ _⟩
    case round =>
     obtain ⟨j, hj, rfl, rfl, hbx⟩ := hrel
     have HBX := hide hbx
     clear hbx
     by_cases hj9 : j < 9
     ·by_cases hq : signOf (s[k]'hlt) = (j : Int)
      ·have HP : Hid (part (s[k]'hlt) (j + 1) = j) := part_hit hq
       have hle := letter_eq j hj9 (s[k]'hlt)
       rw [decide_eq_true hq] at hle
       clear hq
       obtain ⟨pp, hpp⟩ := nm (part (s[k]'hlt) j)
       rw [← hpp]
       clear hpp
       have hj' : j = 0 ∨ j = 1 ∨ j = 2 ∨ j = 3 ∨ j = 4 ∨ j = 5 ∨ j = 6 ∨ j = 7 ∨ j = 8 := by omega
       clear hj
       rcases hj' with rfl | rfl | rfl | rfl | rfl | rfl | rfl | rfl | rfl
       all_goals
        go_wp2_with fail
        go_quiet (fail)
        go_wp2
        go_roundw
        case rel => refine ⟨_, ?_, ?_, congrArg (Value.int .i64) HP.out.symm, HBX.out.trans ((below_drewNs _ _).mono HBX.out.size)⟩; decide; go_num
        case measure => simp [intOf]
      ·have HP : Hid (part (s[k]'hlt) (j + 1) = part (s[k]'hlt) j) := part_miss hq
       have hle := letter_eq j hj9 (s[k]'hlt)
       rw [decide_eq_false hq] at hle
       clear hq
       have hj' : j = 0 ∨ j = 1 ∨ j = 2 ∨ j = 3 ∨ j = 4 ∨ j = 5 ∨ j = 6 ∨ j = 7 ∨ j = 8 := by omega
       clear hj
       rcases hj' with rfl | rfl | rfl | rfl | rfl | rfl | rfl | rfl | rfl
       all_goals
        go_wp2_with fail
        go_quiet (fail)
        go_wp2
        go_roundw
        case rel => refine ⟨_, ?_, ?_, congrArg (Value.int .i64) HP.out.symm, HBX.out.trans ((below_drewNs _ _).mono HBX.out.size)⟩; decide; go_num
        case measure => simp [intOf]
     ·obtain rfl : j = 9 := by omega
      rw [part_nine]
      clear hj hj9
      obtain ⟨S, hS⟩ := nm (signOf (s[k]'hlt))
      rw [← hS]
      have HOX := ownsRow_below HOW.out HBX.out
      have HO2 := hide HOX
      have HB2 : Hid (Below K w wr ∧ K ≤ wr.heap.size) := ⟨HBE.out.1.trans (HBX.out.mono HBE.out.2), Nat.le_trans HBE.out.2 HBX.out.size⟩
      clear HOX
      by_cases hneg : S < 0
      ·have HNo : Hid (lettersB s.data.toList = false) := letters_stop s hlt (by rw [← hS]; rcases byte_all (s[k]'hlt) with h | h
                                                                                 ·rw [hS]; exact h
                                                                                 ·have := signB_iff.1 h.1; omega)
       clear hS
       go_wp2
       try go_ret2
       refine HQ.out _ _ ⟨fun h => ?_, fun _ => rfl, ?_⟩
       ·rw [HNo.out] at h; cases h
       ·rw [← HK.out]; exact HB2.out.1
      ·have HYes : Hid (lettersB (s.data.toList.take (k + 1)) = true ∧ readN (s.data.toList.take (k + 1)) = readN (s.data.toList.take k) ++ [S]) := by
        refine ⟨?_, ?_⟩
        ·rw [take_bytes s hlt]; unfold lettersB; rw [List.all_append]
         have h1 := HLT.out
         unfold lettersB at h1
         rw [h1]
         simp only [List.all_cons, List.all_nil, Bool.and_true, Bool.true_and, bne_iff_ne, ne_eq]
         rw [← hS]; omega
        ·rw [take_bytes s hlt]; unfold readN; rw [List.map_append]; simp [hS]
       clear hS
       go_wp2_with (first | (at_builtin; refine wpList_append_own _ rfl (.tmp 27) (.tmp 29) 62 rfl K 3 i0 (.int .i64 0) 1 8 Tryz.underlying62 hi hz0 hz1 hz2 rfl (by decide) _ k _ rfl (HO2.out.alloc _) ⟨wr.heap.size, 0, none⟩ 1 1 [.int .i64 S] rfl rfl (one_new _ _) (one_cell _) ?p3 ?p4 ?p5 ?_))
       case p3 => unfold maxLen; omega
       case p4 => omega
       case p5 => have := HB2.out.2; simp; omega
       intro v' w2 hown' hgrow _
       have HR : Hid (w2.ownsRow K 3 1 v' (k + 1) ((readN (s.data.toList.take (k + 1))).map (Value.int .i64)) ∧ Below K w w2 ∧ K ≤ w2.heap.size) := by
        refine ⟨?_, ?_, ?_⟩
        ·rw [HYes.out.2, List.map_append]; exact hown'
        ·exact (HB2.out.1.alloc HB2.out.2 _).grown hgrow (by have := HB2.out.2; simp; omega) (fun g hg => (HO2.out.lt g hg).1)
        ·have := hgrow.size; have := HB2.out.2; simp at *; omega
       clear hown' hgrow
       go_wp2
       go_roundw
       case rel => exact ⟨k + 1, by omega, by go_num, HR.out.1, HR.out.2.1, HR.out.2.2, HYes.out.1⟩
       case measure => simp [intOf]; omega
   ·have hkn : k = s.size := by omega
    have hlen : s.data.toList.length = s.size := Array.length_toList
    have HAll : Hid (lettersB s.data.toList = true) := by
     rw [List.take_of_length_le (by omega)] at hlet; exact hlet
    have hnv := newV_own hown
    rw [HK.out] at hnv
    have HNv := hide hnv
    clear hnv
    have hrd := own_ints_big hown rfl (by omega)
    rw [List.take_of_length_le (by omega)] at hrd
    have HRd := hide hrd
    clear hrd
    have HBw : Hid (Below w.heap.size w wr) := by unfold Hid; rw [← HK.out]; exact hbel
    have hge : ¬ (k : Int) < (s.size : Int) := by omega
    clear hown hbel hKw hlet hkn hlen
    go_wp2
    try go_ret2
    refine HQ.out _ _ ⟨fun _ => ⟨_, rfl, HRd.out, HNv.out⟩, fun h => ?_, HBw.out⟩
    rw [HAll.out] at h; cases h
 rw [hQL] at hgoal
 exact hgoal
theorem readTerm_any (s : ByteArray) (hz : s.size ≤ 1048576) (w : World) :
    Calls Tryz.prog 21 #[.string s] w fun e w' => (lettersB s.data.toList = true → ∃ v, e = .returned (.tuple #[v, .bool true]) ∧ Reads w' v (readN s.data.toList)) ∧ (lettersB s.data.toList = false → e = .returned (.tuple #[.slice none 0 0, .bool false])) ∧ Bw w w' :=
 (readTerm_fresh s hz w).mono fun _ _ h => ⟨fun hl => by obtain ⟨v, h1, h2, _⟩ := h.1 hl; exact ⟨v, h1, h2⟩, h.2.1, h.2.2⟩
end Go.Proofs.YtnoohlibgaeklaaGreatDoor
