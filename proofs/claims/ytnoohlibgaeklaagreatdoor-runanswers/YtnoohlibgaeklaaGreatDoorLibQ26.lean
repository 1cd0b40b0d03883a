/-
  Facts and contracts that the statement leans on.
-/
import Derived.Test.YtnoohlibgaeklaaGreatDoorLibQ25
import Derived.Test.YtnoohlibgaeklaaGreatDoorLibQ11
import Derived.Deep.Onto
import Derived.Laws.ResultCell
import Derived.Laws.World
import Derived.Lib.AppendZerosOnto
import Derived.Lib.Walk
import Derived.Lib.SliceRun
namespace Go.Proofs.YtnoohlibgaeklaaGreatDoor
open Go.ChangeShapes Go.WideShapes Go.ChangeAt Go.RowKit
set_option maxRecDepth 100000
set_option maxHeartbeats 16000000
theorem infoA : (Tryz.prog.info? 71).map (fun i => (i.zero, i.size, i.bytes)) = some (some (.agg #[.int .i64 0, .slice none 0 0, .slice none 0 0, .int .i64 0]), 4, 64) := by kernel_rfl
def AtomOf (K : Nat) (w : World) (xs : List Value) (i : Nat) (a : At) : Prop :=
 ∃ vs vt, xs[i * 4]? = some (.int .i64 a.k) ∧ xs[i * 4 + 1]? = some vs ∧ xs[i * 4 + 2]? = some vt ∧ xs[i * 4 + 3]? = some (.int .i64 a.n) ∧ Fresh K w vs a.s ∧ Fresh K w vt a.t
theorem AtomOf.below {K : Nat} {w w' : World} {xs : List Value} {i : Nat} {a : At} (h : AtomOf K w xs i a) (hb : Bw w w') : AtomOf K w' xs i a := by
 obtain ⟨vs, vt, h1, h2, h3, h4, h5, h6⟩ := h
 exact ⟨vs, vt, h1, h2, h3, h4, h5.below hb, h6.below hb⟩
theorem AtomOf.mono {K K' : Nat} {w : World} {xs : List Value} {i : Nat} {a : At} (h : AtomOf K w xs i a) (hK : K' ≤ K) : AtomOf K' w xs i a := by
 obtain ⟨vs, vt, h1, h2, h3, h4, h5, h6⟩ := h
 exact ⟨vs, vt, h1, h2, h3, h4, World.ownsRow.mono h5 hK, World.ownsRow.mono h6 hK⟩
theorem Fresh.set {K G j : Nat} {w : World} {v u : Value} {t : List Int} (h : Fresh K w v t) (hG : G < K) : Fresh K (w.setCell ⟨G, j, none⟩ u) v t := by
 obtain ⟨h1, h2⟩ := h
 refine ⟨h1, ?_⟩
 rcases h2 with h2 | ⟨g, cap, cur, hv, hg, hh, r⟩
 ·exact .inl h2
 ·refine .inr ⟨g, cap, cur, hv, hg, ?_, r⟩
  rw [RowKit.Below.heap_setCell _ _ _ _ (by simp; omega)]; exact hh
theorem AtomOf.set {K G j : Nat} {w : World} {xs : List Value} {i : Nat} {a : At} (h : AtomOf K w xs i a) (hG : G < K) (u : Value) : AtomOf K (w.setCell ⟨G, j, none⟩ u) xs i a := by
 obtain ⟨vs, vt, h1, h2, h3, h4, h5, h6⟩ := h
 exact ⟨vs, vt, h1, h2, h3, h4, h5.set hG, h6.set hG⟩
theorem fresh_slice {K : Nat} {w : World} {v : Value} {t : List Int} (h : Fresh K w v t) : ∃ o c, v = .slice o t.length c := by
 rcases h.2 with ⟨rfl, h0⟩ | ⟨g, cap, cur, rfl, _⟩
 ·exact ⟨none, 0, by rw [h0]⟩
 ·exact ⟨_, cap, rfl⟩
def FillA (G : Nat) (w : World) (ats : List At) (m k : Nat) : Prop :=
 ∃ xs, w.ownsRow G 71 4 (.slice (some ⟨G, 0, none⟩) m m) m xs ∧ ∀ i a, i < k → ats[i]? = some a → AtomOf (G + 1) w xs i a
theorem FillA.below {G : Nat} {w w' : World} {ats : List At} {m k : Nat} (h : FillA G w ats m k) (hb : Bw w w') : FillA G w' ats m k := by
 obtain ⟨xs, h1, h2⟩ := h
 exact ⟨xs, ownsRow_below h1 hb, fun i a hi ha => (h2 i a hi ha).below hb⟩
theorem FillA.set {G : Nat} {w : World} {ats : List At} {m k : Nat} (h : FillA G w ats m k) {a : At} (ha : ats[k]? = some a) (hk : k < m) {vs vt : Value} (hs : Fresh (G + 1) w vs a.s) (ht : Fresh (G + 1) w vt a.t) :
    FillA G ((((w.setCell ⟨G, k * 4, none⟩ (.int .i64 a.k)).setCell ⟨G, k * 4 + 1, none⟩ vs).setCell ⟨G, k * 4 + 2, none⟩ vt).setCell ⟨G, k * 4 + 3, none⟩ (.int .i64 a.n)) ats m (k + 1) := by
 obtain ⟨xs, h1, h2⟩ := h
 have hl : xs.length = m * 4 := h1.1
 have g1 := (h1.stored (k * 4) (.int .i64 a.k)).1
 have g2 := (g1.stored (k * 4 + 1) vs).1
 have g3 := (g2.stored (k * 4 + 2) vt).1
 have g4 := (g3.stored (k * 4 + 3) (.int .i64 a.n)).1
 refine ⟨_, g4, fun i b hi hb => ?_⟩
 have hG : G < G + 1 := by omega
 by_cases hik : i = k
 ·subst hik
  obtain rfl := Option.some.inj (ha.symm.trans hb)
  refine ⟨vs, vt, ?_, ?_, ?_, ?_, (((hs.set hG).set hG).set hG).set hG, (((ht.set hG).set hG).set hG).set hG⟩
  ·rw [List.getElem?_set_ne (by omega), List.getElem?_set_ne (by omega), List.getElem?_set_ne (by omega), List.getElem?_set_self (by omega)]
  ·rw [List.getElem?_set_ne (by omega), List.getElem?_set_ne (by omega), List.getElem?_set_self (by simp; omega)]
  ·rw [List.getElem?_set_ne (by omega), List.getElem?_set_self (by simp; omega)]
  ·rw [List.getElem?_set_self (by simp; omega)]
 ·obtain ⟨us, ut, e1, e2, e3, e4, f1, f2⟩ := h2 i b (by omega) hb
  refine ⟨us, ut, ?_, ?_, ?_, ?_, (((f1.set hG).set hG).set hG).set hG, (((f2.set hG).set hG).set hG).set hG⟩
  ·rw [List.getElem?_set_ne (by omega), List.getElem?_set_ne (by omega), List.getElem?_set_ne (by omega), List.getElem?_set_ne (by omega)]; exact e1
  ·rw [List.getElem?_set_ne (by omega), List.getElem?_set_ne (by omega), List.getElem?_set_ne (by omega), List.getElem?_set_ne (by omega)]; exact e2
  ·rw [List.getElem?_set_ne (by omega), List.getElem?_set_ne (by omega), List.getElem?_set_ne (by omega), List.getElem?_set_ne (by omega)]; exact e3
  ·rw [List.getElem?_set_ne (by omega), List.getElem?_set_ne (by omega), List.getElem?_set_ne (by omega), List.getElem?_set_ne (by omega)]; exact e4
theorem FillA.there {G : Nat} {w : World} {ats : List At} {m k : Nat} (h : FillA G w ats m k) (hk : k < m) :
    ∃ z0 z1 z2 z3, (w.cell? ⟨G, k * 4, none⟩ = some z0 ∧ w.cell? ⟨G, k * 4 + 1, none⟩ = some z1 ∧ w.cell? ⟨G, k * 4 + 2, none⟩ = some z2 ∧ w.cell? ⟨G, k * 4 + 3, none⟩ = some z3) ∧ (w.frozen? ⟨G, k * 4, none⟩ = false ∧ w.frozen? ⟨G, k * 4 + 1, none⟩ = false ∧ w.frozen? ⟨G, k * 4 + 2, none⟩ = false ∧ w.frozen? ⟨G, k * 4 + 3, none⟩ = false) := by
 obtain ⟨xs, h1, _⟩ := h
 have hl : xs.length = m * 4 := h1.1
 have e : ∀ j, j < m * 4 → ∃ z, w.cell? ⟨G, j, none⟩ = some z := fun j hj => ⟨xs[j]'(by omega), by rw [h1.cellAt j hj, List.getElem?_eq_getElem]⟩
 obtain ⟨z0, e0⟩ := e (k * 4) (by omega)
 obtain ⟨z1, e1⟩ := e (k * 4 + 1) (by omega)
 obtain ⟨z2, e2⟩ := e (k * 4 + 2) (by omega)
 obtain ⟨z3, e3⟩ := e (k * 4 + 3) (by omega)
 exact ⟨z0, z1, z2, z3, ⟨e0, e1, e2, e3⟩, h1.frozenAt _, h1.frozenAt _, h1.frozenAt _, h1.frozenAt _⟩
theorem set4_far {w : World} {G B o0 o1 o2 o3 j : Nat} {u0 u1 u2 u3 : Value} (h : G ≠ B) : ((((w.setCell ⟨G, o0, none⟩ u0).setCell ⟨G, o1, none⟩ u1).setCell ⟨G, o2, none⟩ u2).setCell ⟨G, o3, none⟩ u3).cell? ⟨B, j, none⟩ = w.cell? ⟨B, j, none⟩ := by
 have e : ∀ (W : World) (o : Nat) (u : Value), (W.setCell ⟨G, o, none⟩ u).cell? ⟨B, j, none⟩ = W.cell? ⟨B, j, none⟩ := fun W o u => by
  apply World.cell?_setCell_other
  intro e
  injection e with e1
  exact h e1
 rw [e, e, e, e]
theorem copies_any (ats : List At) (v : Value) (w : World) (hA : ReadsA w v ats) (h0 : 0 < ats.length) (h6 : ats.length ≤ 6) (hall : ∀ a ∈ ats, a.s.length ≤ 40 ∧ a.t.length ≤ 40) :
    Calls Tryz.prog 111 #[v] w fun e w' => ∃ G, w.heap.size ≤ G ∧ e = .returned (.slice (some ⟨G, 0, none⟩) ats.length ats.length) ∧ FillA G w' ats ats.length ats.length ∧ Below w.heap.size w w' := by
 obtain ⟨i0, hi, hz0, hz1, hz2⟩ := info_parts infoA
 rcases hA with ⟨_, _, _, rfl⟩ | ⟨B, off, cap, rfl, hB, _, ⟨_, hcap⟩, hatm⟩
 ·simp at h0
 have HA : Hid (∀ W, Below w.heap.size w W → ∀ k a, ats[k]? = some a → AtomAt W B (off + k * 4) a) := fun W hW k a h => (hatm k a h).below hB hW
 have HAl := hide hall
 clear hall hatm hB
 obtain ⟨m, hm⟩ := nm ats.length
 rw [← hm] at h0 h6 hcap ⊢
 have HM := hide hm
 clear hm
 obtain ⟨G, hG⟩ := nm w.heap.size
 have HG := hide (hG.symm)
 go_enter Tryz.func111, Tryz.ntmps111
 go_wp2_with (first | (at_make; refine wpList_make_full _ rfl _ _ 76 rfl G 71 i0 (.agg #[.int .i64 0, .slice none 0 0, .slice none 0 0, .int .i64 0]) 4 Tryz.underlying76 hi hz0 hz1 .i64 .i64 _ _ m rfl rfl ?m0 ?m1 ?m2 ?m3 ?m4 ?_))
 case m0 => rfl
 case m1 => rfl
 case m2 => rw [hz2]; omega
 case m3 => unfold maxLen; omega
 case m4 => omega
 intro w3 hown1 hgrow1
 have HO : Hid (FillA G w3 ats m 0 ∧ Below G w w3) := by
  have h3 : ∃ xs, w3.ownsRow G 71 4 (.slice (some ⟨G, 0, none⟩) m m) m xs := by
   have h4 := hown1
   rw [hG]
   exact ⟨_, h4⟩
  obtain ⟨xs, h3⟩ := h3
  exact ⟨⟨xs, h3, fun i a h => by omega⟩, (Below.refl _ _).grown hgrow1 (by omega) (fun k hk => by cases hk)⟩
 rw [← hG]
 clear hown1 hgrow1 hG
 go_wp2
 go_loopw [11] (fun i wr => ∃ k : Nat, k ≤ m ∧ i = .int .i64 k ∧ FillA G wr ats m k ∧ Below G w wr) (fun i _ => m - (intOf i).toNat)
 case atStart => exact ⟨0, Nat.zero_le _, rfl, HO.out.1, HO.out.2⟩
 case round =>
  obtain ⟨k, hk, rfl, hfill, hbel⟩ := hrel
  have HF := hide hfill
  have HB := hide hbel
  clear hfill hbel
  by_cases hlt : k < m
  ·obtain ⟨a, ha⟩ : ∃ a, ats[k]? = some a := ⟨_, List.getElem?_eq_getElem (by have := HM.out; omega)⟩
   have HGr : Hid (G < wr.heap.size) := by
    obtain ⟨xs, h1, _⟩ := HF.out
    exact (ownsRow_block h1).2.1
   obtain ⟨vs, vt, c0, c1, c2, c3, r1, r2⟩ := HA.out wr (by rw [HG.out]; exact HB.out) k a ha
   obtain ⟨sao, scap, rfl, _⟩ := r1.slice
   obtain ⟨tao, tcap, rfl, _⟩ := r2.slice
   have HAll := HAl.out a (List.mem_of_getElem? ha)
   obtain ⟨ak, as', at', an⟩ := a
   simp only at c0 c1 c2 c3 r1 r2 HAll ⊢
   have Ha := hide ha
   clear ha
   obtain ⟨w5, hw5⟩ := nm (wr.alloc (.cells #[.int .i64 ak, .slice sao as'.length scap, .slice tao at'.length tcap, .int .i64 an] 71))
   have HB5 : Hid (Bw wr w5) := by unfold Hid; rw [hw5]; exact below_alloc1 wr _
   have HS5 : Hid (w5.heap.size = wr.heap.size + 1) := by unfold Hid; rw [hw5]; simp
   have HX5 : Hid (w5.cell? ⟨wr.heap.size, 0, none⟩ = some (.int .i64 ak) ∧ w5.cell? ⟨wr.heap.size, 1, none⟩ = some (.slice sao as'.length scap) ∧ w5.cell? ⟨wr.heap.size, 2, none⟩ = some (.slice tao at'.length tcap) ∧ w5.cell? ⟨wr.heap.size, 3, none⟩ = some (.int .i64 an)) := by
    unfold Hid; rw [hw5]; simp
   have HF5 := hide (HF.out.below HB5.out)
   have HX : Hid (∀ W, Bw w5 W → (W.cell? ⟨wr.heap.size, 0, none⟩ = some (.int .i64 ak) ∧ W.cell? ⟨wr.heap.size, 1, none⟩ = some (.slice sao as'.length scap) ∧ W.cell? ⟨wr.heap.size, 2, none⟩ = some (.slice tao at'.length tcap) ∧ W.cell? ⟨wr.heap.size, 3, none⟩ = some (.int .i64 an))) := fun W hW => by
    have e : ∀ j, W.cell? ⟨wr.heap.size, j, none⟩ = w5.cell? ⟨wr.heap.size, j, none⟩ := fun j => hW.cell (show (⟨wr.heap.size, j, none⟩ : Addr).block < _ by have := HS5.out; simp; omega)
    simp only [e]; exact HX5.out
   obtain ⟨z0, z1, z2, z3, ⟨t0, t1, t2, t3⟩, ⟨f0, f1, f2, f3⟩⟩ := HF5.out.there hlt
   have HT : Hid (∀ W, Bw w5 W → (W.cell? ⟨G, k * 4, none⟩ = some z0 ∧ W.cell? ⟨G, k * 4 + 1, none⟩ = some z1 ∧ W.cell? ⟨G, k * 4 + 2, none⟩ = some z2 ∧ W.cell? ⟨G, k * 4 + 3, none⟩ = some z3) ∧ (W.frozen? ⟨G, k * 4, none⟩ = false ∧ W.frozen? ⟨G, k * 4 + 1, none⟩ = false ∧ W.frozen? ⟨G, k * 4 + 2, none⟩ = false ∧ W.frozen? ⟨G, k * 4 + 3, none⟩ = false)) := fun W hW => by
    have hb : G < w5.heap.size := by have := HS5.out; have := HGr.out; omega
    refine ⟨⟨?_, ?_, ?_, ?_⟩, ?_, ?_, ?_, ?_⟩
    ·rw [hW.cell hb]; exact t0
    ·rw [hW.cell hb]; exact t1
    ·rw [hW.cell hb]; exact t2
    ·rw [hW.cell hb]; exact t3
    ·rw [hW.frozen hb]; exact f0
    ·rw [hW.frozen hb]; exact f1
    ·rw [hW.frozen hb]; exact f2
    ·rw [hW.frozen hb]; exact f3
   clear t0 t1 t2 t3 f0 f1 f2 f3
   have HCs : Hid (∀ (v : Value) (x : List Int), Reads w5 v x → x.length ≤ 40 → ∀ W, Bw w5 W → Calls Tryz.prog 151 #[v] W fun e w' => ∃ o c, e = .returned (.slice o x.length c) ∧ Fresh W.heap.size w' (.slice o x.length c) x ∧ Bw W w' ∧ Bw w5 w' ∧ (w'.cell? ⟨wr.heap.size, 0, none⟩ = some (.int .i64 ak) ∧ w'.cell? ⟨wr.heap.size, 1, none⟩ = some (.slice sao as'.length scap) ∧ w'.cell? ⟨wr.heap.size, 2, none⟩ = some (.slice tao at'.length tcap) ∧ w'.cell? ⟨wr.heap.size, 3, none⟩ = some (.int .i64 an)) ∧ ((w'.cell? ⟨G, k * 4, none⟩ = some z0 ∧ w'.cell? ⟨G, k * 4 + 1, none⟩ = some z1 ∧ w'.cell? ⟨G, k * 4 + 2, none⟩ = some z2 ∧ w'.cell? ⟨G, k * 4 + 3, none⟩ = some z3) ∧ (w'.frozen? ⟨G, k * 4, none⟩ = false ∧ w'.frozen? ⟨G, k * 4 + 1, none⟩ = false ∧ w'.frozen? ⟨G, k * 4 + 2, none⟩ = false ∧ w'.frozen? ⟨G, k * 4 + 3, none⟩ = false))) := fun v x hR hx W hW => by
    refine (copied_any x v W (hR.below hW) hx).mono ?_
    rintro e w' ⟨v', rfl, hfr, hb⟩
    obtain ⟨o, c, rfl⟩ := fresh_slice hfr
    have hb5 : Bw w5 w' := hW.trans (hb.mono hW.size)
    exact ⟨o, c, rfl, hfr, hb, hb5, HX.out w' hb5, HT.out w' hb5⟩
   have HCS := hide (HCs.out (.slice sao as'.length scap) as' (r1.below HB5.out) HAll.1)
   have HCT := hide (HCs.out (.slice tao at'.length tcap) at' (r2.below HB5.out) HAll.2)
   clear HCs r1 r2 HAll
   have hk0 : (0 : Int) ≤ (k : Int) := by omega
   have hk1 : (k : Int) < (m : Int) := by omega
   have hGne : G ≠ wr.heap.size := by have := HGr.out; omega
   obtain ⟨lS, hlS⟩ := nm as'.length
   obtain ⟨lT, hlT⟩ := nm at'.length
   rw [← hlS] at c1 hw5 HX5 HX HCS HCT
   rw [← hlT] at c2 hw5 HX5 HX HCS HCT
   clear hlS hlT
   go_wp2_with fail
   rw [← hw5]
   clear hw5 c0 c1 c2 c3
   obtain ⟨y0, y1, y2, y3⟩ := HX5.out
   clear HX5
   go_region_held3 (fun w' => w'.cell? ⟨wr.heap.size, 0, none⟩ = some (.int .i64 ak) ∧ w'.cell? ⟨wr.heap.size, 1, none⟩ = some (.slice sao lS scap) ∧ w'.cell? ⟨wr.heap.size, 2, none⟩ = some (.slice tao lT tcap) ∧ w'.cell? ⟨wr.heap.size, 3, none⟩ = some (.int .i64 an)) (first | go_keep | (go_split_ands; refine ⟨?_, ?_, ?_, ?_⟩ <;> (rw [set4_far hGne]; assumption)))
    (first
     | (go_at_call_of 151 (Value.slice sao lS scap); refine (HCS.out _ ?_).mono ?_; (first | assumption | exact (Below.refl _ _).drew); rintro e w6 ⟨o1, q1, rfl, hfs, hbs, hb5s, _, ⟨⟨t0, t1, t2, t3⟩, ⟨f0, f1, f2, f3⟩⟩⟩)
     | (go_at_call_of 151 (Value.slice tao lT tcap); refine (HCT.out _ ?_).mono ?_; (first | assumption | exact (Below.refl _ _).drew); rintro e w' ⟨o2, q2, rfl, hft, hbt, hb5t, _, ⟨⟨t0, t1, t2, t3⟩, ⟨f0, f1, f2, f3⟩⟩⟩))
   have hGw : G + 1 ≤ w5.heap.size := by have := HS5.out; have := HGr.out; omega
   have hs6 : w5.heap.size ≤ w6.heap.size := hb5s.size
   have HR : Hid (FillA G ((((w'.setCell ⟨G, k * 4, none⟩ (.int .i64 ak)).setCell ⟨G, k * 4 + 1, none⟩ (.slice o1 lS q1)).setCell ⟨G, k * 4 + 2, none⟩ (.slice o2 lT q2)).setCell ⟨G, k * 4 + 3, none⟩ (.int .i64 an)) ats m (k + 1) ∧ Below G w ((((w'.setCell ⟨G, k * 4, none⟩ (.int .i64 ak)).setCell ⟨G, k * 4 + 1, none⟩ (.slice o1 lS q1)).setCell ⟨G, k * 4 + 2, none⟩ (.slice o2 lT q2)).setCell ⟨G, k * 4 + 3, none⟩ (.int .i64 an))) := by
    refine ⟨FillA.set (HF5.out.below hb5t) Ha.out hlt (World.ownsRow.mono (hfs.below hbt) hGw) (World.ownsRow.mono hft (by omega)), ?_⟩
    have hb : Below G w w' := HB.out.trans ((HB5.out.trans (hb5t.mono HB5.out.size)).mono (by have := HGr.out; omega))
    exact (((hb.setCell (Nat.le_refl _) _).setCell (Nat.le_refl _) _).setCell (Nat.le_refl _) _).setCell (Nat.le_refl _) _
   clear hfs hbs hb5s hft hbt hb5t hs6 hGw
   go_wp2
   go_roundw
   case rel => exact ⟨k + 1, by omega, by go_num, HR.out.1, HR.out.2⟩
   case measure => simp [intOf]; omega
  ·obtain rfl : k = m := by omega
   go_wp2
   go_ret
   refine ⟨G, by rw [HG.out]; exact Nat.le_refl _, rfl, HF.out, ?_⟩
   rw [HG.out]; exact HB.out
theorem FillA.reads {G : Nat} {w : World} {ats : List At} (h : FillA G w ats ats.length ats.length) (h0 : 0 < ats.length) (h6 : ats.length ≤ 40) : ReadsA w (.slice (some ⟨G, 0, none⟩) ats.length ats.length) ats := by
 obtain ⟨xs, h1, h2⟩ := h
 refine Or.inr ⟨G, 0, ats.length, rfl, (ownsRow_block h1).2.1, h0, ⟨by omega, Nat.le_refl _⟩, fun i a ha => ?_⟩
 have hi : i < ats.length := (List.getElem?_eq_some_iff.1 ha).1
 obtain ⟨vs, vt, e1, e2, e3, e4, f1, f2⟩ := h2 i a hi ha
 rw [Nat.zero_add]
 exact ⟨vs, vt, by rw [h1.cellAt _ (by omega)]; exact e1, by rw [h1.cellAt _ (by omega)]; exact e2, by rw [h1.cellAt _ (by omega)]; exact e3, by rw [h1.cellAt _ (by omega)]; exact e4, f1.reads, f2.reads⟩
theorem load_form {W : World} {R : Nat} {c0 c1 : Value} (h0 : W.cell? ⟨R, 0, none⟩ = some c0) (h1 : W.cell? ⟨R, 1, none⟩ = some c1) : (loadVar 78 ⟨R, 0, none⟩).run Tryz.prog W = .ok (.agg #[c0, c1]) W := by
 have hl := run_loadCells_list (P := Tryz.prog) W ⟨R, 0, none⟩ [c0, c1] (fun j v hj => by
  match j, hj with
  | 0, hj => simp at hj; subst hj; simpa [Addr.add] using h0
  | 1, hj => simp at hj; subst hj; simpa [Addr.add] using h1)
 simp [loadVar, Tryz.isAgg78, Tryz.sizeOf78, Result.andThen] at hl ⊢
 simp [hl]
theorem FillA.far {G R j : Nat} {w : World} {ats : List At} {m k : Nat} (h : FillA G w ats m k) (hR : R < G) (u : Value) : FillA G (w.setCell ⟨R, j, none⟩ u) ats m k := by
 obtain ⟨xs, ⟨h1, h2⟩, h3⟩ := h
 refine ⟨xs, ⟨h1, ?_⟩, fun i a hi ha => (h3 i a hi ha).set (by omega) u⟩
 rcases h2 with h2 | ⟨g, cap, cur, hv, hg, hh, r⟩
 ·exact .inl h2
 ·refine .inr ⟨g, cap, cur, hv, hg, ?_, r⟩
  rw [RowKit.Below.heap_setCell _ _ _ _ (by simp; omega)]; exact hh
theorem set2_cells {w : World} {R : Nat} {z0 z1 u0 u1 : Value} (h0 : w.cell? ⟨R, 0, none⟩ = some z0) (h1 : w.cell? ⟨R, 1, none⟩ = some z1) : ((w.setCell ⟨R, 0, none⟩ u0).setCell ⟨R, 1, none⟩ u1).cell? ⟨R, 0, none⟩ = some u0 ∧ ((w.setCell ⟨R, 0, none⟩ u0).setCell ⟨R, 1, none⟩ u1).cell? ⟨R, 1, none⟩ = some u1 := by
 have n1 : (⟨R, 1, none⟩ : Addr) ≠ ⟨R, 0, none⟩ := by intro e; injection e with _ e; omega
 refine ⟨?_, ?_⟩
 ·rw [World.cell?_setCell_other (w.setCell ⟨R, 0, none⟩ u0) _ _ _ n1]
  exact World.cell?_setCell_same _ _ _ h0
 ·exact World.cell?_setCell_same _ _ _ ((World.cell?_setCell_other w _ _ _ n1.symm).trans h1)
theorem set2_far {w : World} {R B o0 o1 j : Nat} {u0 u1 : Value} (h : R ≠ B) : ((w.setCell ⟨R, o0, none⟩ u0).setCell ⟨R, o1, none⟩ u1).cell? ⟨B, j, none⟩ = w.cell? ⟨B, j, none⟩ := by
 have e : ∀ (W : World) (o : Nat) (u : Value), (W.setCell ⟨R, o, none⟩ u).cell? ⟨B, j, none⟩ = W.cell? ⟨B, j, none⟩ := fun W o u => by
  apply World.cell?_setCell_other
  intro e
  injection e with e1
  exact h e1
 rw [e, e]
def BoxN (W : World) (S0 : Nat) (va vc : Value) : Prop :=
 (W.cell? ⟨S0, 0, none⟩ = some va ∧ W.cell? ⟨S0, 1, none⟩ = some vc) ∧ (W.cell? ⟨S0 + 1, 0, none⟩ = some (.slice none 0 0) ∧ W.cell? ⟨S0 + 1, 1, none⟩ = some (.slice none 0 0)) ∧ (W.frozen? ⟨S0 + 1, 0, none⟩ = false ∧ W.frozen? ⟨S0 + 1, 1, none⟩ = false)
theorem BoxN.below {W W' : World} {S0 : Nat} {va vc : Value} (h : BoxN W S0 va vc) (hS : S0 + 1 < W.heap.size) (hb : Bw W W') : BoxN W' S0 va vc := by
 obtain ⟨⟨a0, a1⟩, ⟨b0, b1⟩, f0, f1⟩ := h
 have h0 : S0 < W.heap.size := by omega
 exact ⟨⟨(hb.cell h0).trans a0, (hb.cell h0).trans a1⟩, ⟨(hb.cell hS).trans b0, (hb.cell hS).trans b1⟩, (hb.frozen hS).trans f0, (hb.frozen hS).trans f1⟩
def rowI (b off cap : Nat) (t : List Int) : RowI := ⟨b, off, cap, t.length, t.map (Value.int .i64)⟩
theorem rowI_lies {w : World} {b off cap : Nat} {t : List Int} (hb : b < w.heap.size) (h0 : 0 < t.length) (hc : t.length ≤ cap) (h : ∀ k, k < t.length → w.cell? ⟨b, off + k, none⟩ = some (.int .i64 (t.getD k 0))) : (rowI b off cap t).Lies w := by
 refine ⟨hb, h0, hc, by simp [rowI], fun u hu => ?_, fun j u hu => ?_⟩
 ·simp [rowI] at hu
  obtain ⟨_, _, rfl⟩ := hu
  rfl
 ·simp only [rowI] at hu ⊢
  have hj : j < t.length := by have := (List.getElem?_eq_some_iff.1 hu).1; simpa using this
  rw [h j hj, ← hu]
  simp [List.getElem?_eq_getElem hj]
theorem growA (n : Nat) (h0 : 0 < n) (h1 : n ≤ 40) (w : World) :
    Calls Tryz.prog 150 #[.slice none 0 0, .int .i64 n] w fun e w' => ∃ cap, e = .returned (.slice (some ⟨w.heap.size, 0, none⟩) 0 cap) ∧ w'.ownsRow w.heap.size 71 4 (.slice (some ⟨w.heap.size, 0, none⟩) 0 cap) 0 [] ∧ Bw w w' ∧ w.heap.size < w'.heap.size := by
 obtain ⟨i0, hi, hz0, hz1, hz2⟩ := info_parts infoA
 have a1 : ¬ ((n : Int) < 0) := by omega
 have a4 : (n : Int) > 0 := by omega
 have hold : (Builtin.firstCells i0.size 0 (.slice none 0 0)).run Tryz.prog w.drew = .ok #[] w.drew := run_firstCells_none w.drew i0.size 0 0 0
 have hrz : ∀ ty, (Builtin.append_ #[76, 3] ty #[.slice none 0 0, .int .i64 n]).run Tryz.prog w =
     .ok (.slice (some ⟨w.heap.size, 0, none⟩) n (grownCap w n 0 71)) (w.drew.alloc (.cells (#[] ++ Builtin.zeroCells (Value.cells (.agg #[.int .i64 0, .slice none 0 0, .slice none 0 0, .int .i64 0])) n ++ Builtin.zeroCells (Value.cells (.agg #[.int .i64 0, .slice none 0 0, .slice none 0 0, .int .i64 0])) (grownCap w n 0 71 - n)) 71)) := fun ty => by
  have h := Lib.run_append_grow_zeros w 76 3 ty 71 i0 (.agg #[.int .i64 0, .slice none 0 0, .slice none 0 0, .int .i64 0]) .i64 .i64 Tryz.underlying76 Tryz.underlying3 hi hz0 none 0 0 [] hold n h0 (by omega) (by omega) (by omega) (by rw [hz2]; omega) (by rw [Nat.zero_add, hz2]; exact growslice_fits (by omega) (by omega))
  rw [Nat.zero_add] at h
  exact h
 have hGn : n ≤ grownCap w n 0 71 := grownCap_ge w _ _ _
 have hG63 : grownCap w n 0 71 ≤ maxLen := grownCap_le_maxLen w n 0 71 (by unfold maxLen; omega)
 obtain ⟨G, hG⟩ := nm (grownCap w n 0 71)
 rw [← hG] at hrz hGn hG63
 have HE : Hid (∃ w', w' = w.drew.alloc (.cells (#[] ++ Builtin.zeroCells (Value.cells (.agg #[.int .i64 0, .slice none 0 0, .slice none 0 0, .int .i64 0])) n ++ Builtin.zeroCells (Value.cells (.agg #[.int .i64 0, .slice none 0 0, .slice none 0 0, .int .i64 0])) (G - n)) 71) ∧ w'.ownsRow w.heap.size 71 4 (.slice (some ⟨w.heap.size, 0, none⟩) 0 G) 0 [] ∧ Bw w w' ∧ w.heap.size < w'.heap.size) := by
  refine ⟨_, rfl, ?_, ?_, ?_⟩
  ·refine ⟨by simp, .inr ⟨w.heap.size, G, _, rfl, Nat.le_refl _, heap_alloc_new w.drew _, Nat.zero_le _, hG63, ?_, by simp⟩⟩
   simp [Builtin.zeroCells, Value.cells]
   omega
  ·exact ((Below.refl _ w).drew).trans (below_alloc1 w.drew _)
  ·simp
 have hG63' : G ≤ 9223372036854775807 := by unfold maxLen at hG63; omega
 clear hold hG hG63
 obtain ⟨w', hw', HE⟩ := HE.out
 rw [← hw'] at hrz
 have HE' := hide HE
 clear hw' HE
 go_enter Tryz.func150, Tryz.ntmps150
 go_wp2_with (at_builtin; refine Lib.wpList_append_run _ rfl _ _ _ _ rfl _ _ rfl rfl _ _ (hrz _) ?_)
 go_ret
 exact ⟨G, rfl, HE'.out⟩
structure RowA where
 b : Nat
 off : Nat
 cap : Nat
 m : Nat
 vs : List Value
def RowA.Lies (w : World) (r : RowA) : Prop := r.b < w.heap.size ∧ 0 < r.m ∧ r.m ≤ r.cap ∧ r.vs.length = r.m * 4 ∧ (∀ u ∈ r.vs, u.oneCell' = true) ∧ ∀ j u, r.vs[j]? = some u → w.cell? ⟨r.b, r.off + j, none⟩ = some u
theorem RowA.Lies.below {w w' : World} {r : RowA} (h : r.Lies w) (hb : Bw w w') : r.Lies w' :=
 ⟨Nat.lt_of_lt_of_le h.1 hb.size, h.2.1, h.2.2.1, h.2.2.2.1, h.2.2.2.2.1, fun j u hu => by rw [hb.cell h.1]; exact h.2.2.2.2.2 j u hu⟩
def manyRA (l : List RowA) : Nat := (l.map (·.m)).sum
def allA (l : List RowA) : List Value := (l.map (·.vs)).flatten
theorem manyRA_succ (l : List RowA) {k : Nat} {r : RowA} (h : l[k]? = some r) : manyRA (l.take (k + 1)) = manyRA (l.take k) + r.m := by
 unfold manyRA
 rw [List.take_add_one, h]; simp
theorem allA_succ (l : List RowA) {k : Nat} {r : RowA} (h : l[k]? = some r) : allA (l.take (k + 1)) = allA (l.take k) ++ r.vs := by
 unfold allA
 rw [List.take_add_one, h]; simp
theorem manyRA_take (l : List RowA) (k : Nat) : manyRA (l.take k) ≤ manyRA l := by
 have : manyRA l = manyRA (l.take k) + manyRA (l.drop k) := by
  unfold manyRA
  rw [← List.sum_append_nat, ← List.map_append, List.take_append_drop]
 omega
theorem concatA (l : List RowA) (A lcap : Nat) (w : World) (hl : l.length ≤ 4) (hA : A < w.heap.size) (hc : ∀ k r, l[k]? = some r → w.cell? ⟨A, k, none⟩ = some (.slice (some ⟨r.b, r.off, none⟩) r.m r.cap)) (hr : ∀ r ∈ l, r.Lies w) (h0 : 0 < manyRA l) (h1 : manyRA l ≤ 40) :
    Calls Tryz.prog 110 #[.slice (some ⟨A, 0, none⟩) l.length lcap] w fun e w' => ∃ v, e = .returned v ∧ w'.ownsRow w.heap.size 71 4 v (manyRA l) (allA l) ∧ Below w.heap.size w w' := by
 obtain ⟨i0, hi, hz0, hz1, hz2⟩ := info_parts infoA
 obtain ⟨N, hN⟩ := nm l.length
 rw [← hN] at hl ⊢
 have HN := hide hN
 clear hN
 have HC : Hid (∀ W, Below w.heap.size w W → ∀ k r, l[k]? = some r → W.cell? ⟨A, k, none⟩ = some (.slice (some ⟨r.b, r.off, none⟩) r.m r.cap)) := fun W hW k r h => by rw [hW.cell (show (⟨A, k, none⟩ : Addr).block < _ from hA)]; exact hc k r h
 have HR : Hid (∀ W, Below w.heap.size w W → ∀ (k : Nat) (r : RowA), l[k]? = some r → r.Lies W) := fun W hW k r h => (hr r (List.mem_of_getElem? h)).below hW
 have HS : Hid (∀ k, manyRA (l.take k) ≤ 40) := fun k => Nat.le_trans (manyRA_take l k) h1
 have HG : Hid (∀ W, Calls Tryz.prog 150 #[.slice none 0 0, .int .i64 (manyRA l)] W fun e w' => ∃ cap, e = .returned (.slice (some ⟨W.heap.size, 0, none⟩) 0 cap) ∧ w'.ownsRow W.heap.size 71 4 (.slice (some ⟨W.heap.size, 0, none⟩) 0 cap) 0 [] ∧ Below W.heap.size W w' ∧ W.heap.size < w'.heap.size) := fun W => growA _ h0 h1 W
 obtain ⟨M, hM⟩ := nm (manyRA l)
 rw [← hM] at HG ⊢
 have HM := hide hM
 clear hM hc hr h0 h1 hA
 go_enter Tryz.func110, Tryz.ntmps110
 go_wp2_with fail
 go_loop [3, 11] (fun c i => ∃ k : Nat, k ≤ N ∧ i = .int .i64 k ∧ c = .int .i64 (manyRA (l.take k))) (fun _ i => N - (intOf i).toNat)
 case atStart => exact ⟨0, Nat.zero_le _, rfl, rfl⟩
 case round =>
  obtain ⟨k, hk, rfl, rfl⟩ := hrel
  by_cases hlt : k < N
  ·obtain ⟨r, hr⟩ : ∃ r, l[k]? = some r := ⟨_, List.getElem?_eq_getElem (by have := HN.out; omega)⟩
   have hcell := HC.out w (Below.refl _ _) k r hr
   have HE : Hid (manyRA (l.take (k + 1)) = manyRA (l.take k) + r.m) := manyRA_succ l hr
   have hs1 := HS.out (k + 1)
   rw [HE.out] at hs1
   obtain ⟨S, hS⟩ := nm (manyRA (l.take k))
   rw [← hS] at HE hs1 ⊢
   clear hS hr
   obtain ⟨rb, ro, rc, rm, rvs⟩ := r
   simp only at hcell HE hs1
   have q : ¬ ((S : Int) + (rm : Int) < 0) := by omega
   go_wp2
   go_round
   case rel => exact ⟨k + 1, by omega, by go_num, by rw [HE.out]; go_num⟩
   case measure => simp [intOf]; omega
  ·have HE : Hid (manyRA (l.take k) = M) := by unfold Hid; rw [List.take_of_length_le (by have := HN.out; omega), HM.out]
   rw [HE.out]
   go_wp2_with fail
   go_at_call 150
   refine (HG.out _).mono ?_
   rintro e w2 ⟨cap, rfl, hown, hb, hlt2⟩
   obtain ⟨K, hK⟩ := nm w.heap.size
   rw [← hK] at hown hb hlt2 HC HR ⊢
   have HB2 : Hid (Below K w w2 ∧ K ≤ w2.heap.size) := ⟨hb, by omega⟩
   have HO2 := hide hown
   have HKe := hide (hK.symm)
   clear hb hown hK hlt2
   go_wp2_with fail
   go_loopw [6, 27] (fun v i wr => ∃ k : Nat, k ≤ N ∧ i = .int .i64 k ∧ wr.ownsRow K 71 4 v (manyRA (l.take k)) (allA (l.take k)) ∧ Below K w wr ∧ K ≤ wr.heap.size) (fun _ i _ => N - (intOf i).toNat)
   case atStart => exact ⟨0, Nat.zero_le _, rfl, HO2.out, HB2.out.1, HB2.out.2⟩
   case round =>
    obtain ⟨j, hj, rfl, hown, hbel, hKw⟩ := hrel
    by_cases hjl : j < N
    ·obtain ⟨r, hr⟩ : ∃ r, l[j]? = some r := ⟨_, List.getElem?_eq_getElem (by have := HN.out; omega)⟩
     have hcell := HC.out wr hbel j r hr
     have HL := hide (HR.out wr hbel j r hr)
     have HE : Hid (manyRA (l.take (j + 1)) = manyRA (l.take j) + r.m) := manyRA_succ l hr
     have HE2 : Hid (allA (l.take (j + 1)) = allA (l.take j) ++ r.vs) := allA_succ l hr
     have hs1 := HS.out (j + 1)
     rw [HE.out] at hs1
     obtain ⟨S, hS⟩ := nm (manyRA (l.take j))
     obtain ⟨XS, hXS⟩ := nm (allA (l.take j))
     rw [← hS] at HE hs1 hown
     rw [← hXS] at HE2 hown
     clear hS hXS hr
     obtain ⟨rb, ro, rc, rm, rvs⟩ := r
     simp only at hcell HE HE2 hs1
     have HOW := hide hown
     have HBW : Hid (Below K w wr ∧ K ≤ wr.heap.size) := ⟨hbel, hKw⟩
     have hrm : 0 < rm := HL.out.2.1
     clear hown hbel hKw
     go_wp2_with (first | (at_builtin; refine wpList_append_own _ rfl (.tmp 31) (.tmp 32) 76 rfl K 71 i0 (.agg #[.int .i64 0, .slice none 0 0, .slice none 0 0, .int .i64 0]) 4 64 Tryz.underlying76 hi hz0 hz1 hz2 rfl (by decide) u6 S XS rfl HOW.out ⟨rb, ro, none⟩ rm rc rvs rfl HL.out.2.2.2.1 ?a1 HL.out.2.2.2.2.1 ?a3 ?a4 ?a5 ?_))
     case a1 =>
      intro i u hu
      rw [Go.WideShapes.add_plain]
      exact HL.out.2.2.2.2.2 i u hu
     case a3 => unfold maxLen; omega
     case a4 => omega
     case a5 => exact HBW.out.2
     intro v' w3 hown' hgrow _
     have HB3 : Hid (Below K w w3 ∧ K ≤ w3.heap.size) := by
      refine ⟨HBW.out.1.grown hgrow HBW.out.2 (fun k hk => (HOW.out.lt k hk).1), ?_⟩
      have := hgrow.size
      have := HBW.out.2
      omega
     have HO3 : Hid (w3.ownsRow K 71 4 v' (manyRA (l.take (j + 1))) (allA (l.take (j + 1)))) := by
      unfold Hid; rw [HE.out, HE2.out]; exact hown'
     clear hown' hgrow
     go_wp2
     go_roundw
     case rel => exact ⟨j + 1, by omega, by go_num, HO3.out, HB3.out.1, HB3.out.2⟩
     case measure => simp [intOf]; omega
    ·rw [List.take_of_length_le (by have := HN.out; omega)] at hown
     have HO3 : Hid (wr.ownsRow K 71 4 u6 M (allA l)) := by unfold Hid; rw [HM.out]; exact hown
     have HB3 := hide hbel
     clear hown hbel
     go_wp2
     go_ret
     refine ⟨_, rfl, ?_, ?_⟩
     ·rw [HKe.out]; exact HO3.out
     ·rw [HKe.out]; exact HB3.out
def mixF (m : Nat) (c : List Int) (k : Nat) : List Int := (c.take k).map (movedF m) ++ c.drop k
theorem mixF_len (m : Nat) (c : List Int) (k : Nat) : (mixF m c k).length = c.length := by
 unfold mixF; simp; omega
theorem mixF_all (m : Nat) (c : List Int) (k : Nat) (h : c.length ≤ k) : mixF m c k = c.map (movedF m) := by
 unfold mixF; rw [List.take_of_length_le h, List.drop_eq_nil_of_le h, List.append_nil]
theorem mixF_at (m : Nat) (c : List Int) {k : Nat} (h : k < c.length) : (mixF m c k).getD k 0 = c.getD k 0 := by
 unfold mixF
 rw [List.getD_eq_getElem?_getD, List.getElem?_append_right (by simp; omega), List.getElem?_drop]
 simp [Nat.min_eq_left (Nat.le_of_lt h)]
theorem mixF_set (m : Nat) (c : List Int) {k : Nat} (h : k < c.length) : (mixF m c k).set k (movedF m (c.getD k 0)) = mixF m c (k + 1) := by
 unfold mixF
 have hl : ((c.take k).map (movedF m)).length = k := by simp; omega
 rw [List.set_append_right _ _ (by omega), hl, Nat.sub_self, List.drop_eq_getElem_cons h, List.set_cons_zero, List.take_succ_eq_append_getElem h, List.map_append, List.append_assoc, show c.getD k 0 = c[k] by rw [List.getD_eq_getElem?_getD, List.getElem?_eq_getElem h]; rfl]
 rfl
theorem mixF_keep (m : Nat) (c : List Int) {k : Nat} (h : k < c.length) (h0 : takesF (c.getD k 0) ≠ 0) : mixF m c (k + 1) = mixF m c k := by
 rw [← mixF_set m c h]
 have e : movedF m (c.getD k 0) = c.getD k 0 := by unfold movedF; rw [if_neg h0]
 have hk : k < (mixF m c k).length := by rw [mixF_len]; exact h
 rw [e, ← mixF_at m c h, List.getD_eq_getElem?_getD, List.getElem?_eq_getElem hk]
 exact List.set_getElem_self hk
theorem moved_any (c : List Int) (v : Value) (m : Nat) (w : World) (h : Reads w v c) (h0 : 0 < c.length) (hl : c.length ≤ 40) (hm : m ≤ 6) (hs : ∀ s ∈ c, takesF s = 0 → 0 ≤ s ∧ s ≤ 6) :
    Calls Tryz.prog 113 #[v, .int .i64 m] w fun e w' => ∃ o q, e = .returned (.slice o c.length q) ∧ Fresh w.heap.size w' (.slice o c.length q) (c.map (movedF m)) ∧ Below w.heap.size w w' := by
 have HCp : Hid (Calls Tryz.prog 151 #[v] w fun e w' => ∃ g q, e = .returned (.slice (some ⟨g, 0, none⟩) c.length q) ∧ Fresh w.heap.size w' (.slice (some ⟨g, 0, none⟩) c.length q) c ∧ Below w.heap.size w w') := by
  refine (copied_any c v w h hl).mono ?_
  rintro e w' ⟨v', rfl, hf, hb⟩
  rcases hf.2 with ⟨_, h1⟩ | ⟨g, cap, cur, rfl, r⟩
  ·omega
  ·exact ⟨g, cap, rfl, hf, hb⟩
 have HSg := hide hs
 clear h hs
 obtain ⟨n, hn⟩ := nm c.length
 rw [← hn] at h0 hl HCp ⊢
 have HN := hide hn
 clear hn
 obtain ⟨K, hK⟩ := nm w.heap.size
 rw [← hK] at HCp ⊢
 have HKw := hide (hK.symm)
 clear hK
 go_enter Tryz.func113, Tryz.ntmps113
 go_wp2_with fail
 go_at_call 151
 refine HCp.out.mono ?_
 rintro e w2 ⟨g, q, rfl, hf, hb⟩
 have HF2 : Hid (w2.ownsRow K 3 1 (.slice (some ⟨g, 0, none⟩) n q) n ((mixF m c 0).map (Value.int .i64))) := by
  unfold Fresh at hf
  rw [← HN.out] at hf
  exact hf
 have HB2 := hide hb
 clear hf hb HCp
 go_wp2_with fail
 go_loopw [12] (fun i wr => ∃ k : Nat, k ≤ n ∧ i = .int .i64 k ∧ wr.ownsRow K 3 1 (.slice (some ⟨g, 0, none⟩) n q) n ((mixF m c k).map (Value.int .i64)) ∧ Below K w wr) (fun i _ => n - (intOf i).toNat)
 case atStart => exact ⟨0, Nat.zero_le _, rfl, HF2.out, HB2.out⟩
 case round =>
  obtain ⟨k, hk, rfl, hown, hbel⟩ := hrel
  have HB := hide hbel
  clear hbel
  by_cases hlt : k < n
  ·have hkc : k < c.length := by rw [← HN.out]; exact hlt
   have hgK : K ≤ g := (ownsRow_block hown).1
   obtain ⟨s, hs⟩ := nm (c.getD k 0)
   have hcell : wr.cell? ⟨g, k, none⟩ = some (.int .i64 s) := by
    rw [hown.cellAt k (by omega), List.getElem?_map]
    have hk' : k < (mixF m c k).length := by rw [mixF_len]; exact hkc
    have e1 := mixF_at m c hkc
    rw [List.getD_eq_getElem?_getD, List.getElem?_eq_getElem hk'] at e1
    rw [List.getElem?_eq_getElem hk', hs, ← e1]
    rfl
   have HT : Hid (∀ W, Calls Tryz.prog 115 #[.int .i64 s] W (Sk W (.int .i64 (takesF s)))) := fun W => ftakes_any s W
   have hmem : s ∈ c := by rw [hs, List.getD_eq_getElem?_getD, List.getElem?_eq_getElem hkc]; exact List.getElem_mem hkc
   by_cases ht : takesF s = 0
   ·have hsr := HSg.out s hmem ht
    have hfr : wr.frozen? ⟨g, k, none⟩ = false := hown.frozenAt k
    have HR : Hid ((wr.setCell ⟨g, k, none⟩ (.int .i64 (s + m))).ownsRow K 3 1 (.slice (some ⟨g, 0, none⟩) n q) n ((mixF m c (k + 1)).map (Value.int .i64)) ∧ Below K w (wr.setCell ⟨g, k, none⟩ (.int .i64 (s + m)))) := by
     have h1 := (hown.stored k (.int .i64 (s + m))).1
     rw [← List.map_set] at h1
     have e2 : movedF m (c.getD k 0) = s + m := by unfold movedF; rw [← hs, if_pos ht]
     have e3 := mixF_set m c hkc
     rw [e2] at e3
     rw [e3] at h1
     exact ⟨h1, HB.out.setCell hgK _⟩
    rw [ht] at HT
    clear hown hs hkc hmem ht
    go_wp2_with (go_at_call 115; refine (HT.out _).mono ?_; rintro e w' ⟨rfl, rfl⟩)
    go_roundw
    case rel => exact ⟨k + 1, by omega, by go_num, HR.out.1, HR.out.2⟩
    case measure => simp [intOf]; omega
   ·have HR : Hid (wr.ownsRow K 3 1 (.slice (some ⟨g, 0, none⟩) n q) n ((mixF m c (k + 1)).map (Value.int .i64))) := by
     unfold Hid
     rw [mixF_keep m c hkc (by rw [← hs]; exact ht)]
     exact hown
    have ht' : (takesF s == 0) = false := by simpa using ht
    clear hown hs hkc hmem ht
    go_wp2_with (go_at_call 115; refine (HT.out _).mono ?_; rintro e w' ⟨rfl, rfl⟩)
    go_roundw
    case rel => exact ⟨k + 1, by omega, by go_num, HR.out, HB.out⟩
    case measure => simp [intOf]; omega
  ·have HE : Hid (Fresh K wr (.slice (some ⟨g, 0, none⟩) n q) (c.map (movedF m))) := by
    unfold Hid Fresh
    rw [List.length_map, ← HN.out, ← mixF_all m c k (by have := HN.out; omega)]
    exact hown
   clear hown
   go_wp2
   go_ret
   exact ⟨_, _, rfl, HE.out, HB.out⟩
def BoxB (W : World) (S0 : Nat) (va vc vb vd : Value) : Prop :=
 (W.cell? ⟨S0, 0, none⟩ = some va ∧ W.cell? ⟨S0, 1, none⟩ = some vc) ∧ (W.cell? ⟨S0 + 1, 0, none⟩ = some vb ∧ W.cell? ⟨S0 + 1, 1, none⟩ = some vd) ∧ (W.cell? ⟨S0 + 2, 0, none⟩ = some (.slice none 0 0) ∧ W.cell? ⟨S0 + 2, 1, none⟩ = some (.slice none 0 0)) ∧ (W.frozen? ⟨S0 + 2, 0, none⟩ = false ∧ W.frozen? ⟨S0 + 2, 1, none⟩ = false)
theorem boxB_alloc (w : World) (va vc vb vd : Value) : BoxB (((w.alloc (.cells #[va, vc] 78)).alloc (.cells #[vb, vd] 78)).alloc (.cells #[.slice none 0 0, .slice none 0 0] 78)) w.heap.size va vc vb vd := by
 obtain ⟨x1, hx1⟩ := nm (w.alloc (.cells #[va, vc] 78))
 obtain ⟨x2, hx2⟩ := nm (x1.alloc (.cells #[vb, vd] 78))
 have s1 : x1.heap.size = w.heap.size + 1 := by rw [hx1]; simp
 have s2 : x2.heap.size = w.heap.size + 2 := by rw [hx2]; simp [s1]
 have a : ∀ j, x1.cell? ⟨w.heap.size, j, none⟩ = (#[va, vc] : Array Value)[j]? := fun j => by rw [hx1]; simp
 have b : ∀ j, x2.cell? ⟨w.heap.size + 1, j, none⟩ = (#[vb, vd] : Array Value)[j]? := fun j => by rw [hx2, ← s1]; simp
 rw [← hx1, ← hx2]
 have l0 : ∀ o j, (x2.alloc o).cell? ⟨w.heap.size, j, none⟩ = x1.cell? ⟨w.heap.size, j, none⟩ := fun o j => by
  rw [World.cell?_alloc_lt _ _ ⟨w.heap.size, j, none⟩ (by simp; omega), hx2, World.cell?_alloc_lt _ _ ⟨w.heap.size, j, none⟩ (by simp; omega)]
 have l1 : ∀ o j, (x2.alloc o).cell? ⟨w.heap.size + 1, j, none⟩ = x2.cell? ⟨w.heap.size + 1, j, none⟩ := fun o j => World.cell?_alloc_lt _ _ ⟨w.heap.size + 1, j, none⟩ (by simp; omega)
 unfold BoxB
 simp only [l0, l1, a, b]
 rw [← s2]
 simp
theorem BoxB.below {W W' : World} {S0 : Nat} {va vc vb vd : Value} (h : BoxB W S0 va vc vb vd) (hS : S0 + 2 < W.heap.size) (hb : Bw W W') : BoxB W' S0 va vc vb vd := by
 obtain ⟨⟨a0, a1⟩, ⟨b0, b1⟩, ⟨c0, c1⟩, f0, f1⟩ := h
 have h0 : S0 < W.heap.size := by omega
 have h1 : S0 + 1 < W.heap.size := by omega
 exact ⟨⟨(hb.cell h0).trans a0, (hb.cell h0).trans a1⟩, ⟨(hb.cell h1).trans b0, (hb.cell h1).trans b1⟩, ⟨(hb.cell hS).trans c0, (hb.cell hS).trans c1⟩, (hb.frozen hS).trans f0, (hb.frozen hS).trans f1⟩
theorem below_three (w : World) (o1 o2 o3 : Obj) : Bw w (((w.alloc o1).alloc o2).alloc o3) := ((below_alloc1 w o1).trans ((below_alloc1 _ o2).mono (by simp))).trans ((below_alloc1 _ o3).mono (by simp; omega))
end Go.Proofs.YtnoohlibgaeklaaGreatDoor
