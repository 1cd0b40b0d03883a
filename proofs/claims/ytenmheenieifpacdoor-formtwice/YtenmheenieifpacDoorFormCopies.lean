/-
  Proved: what form.copies returns, of right atoms: a new row that reads as they do; what was in memory is as it was (a contract that the statements lean on).
-/
import Derived.Test.YtenmheenieifpacDoorFormCopy
import Derived.Test.YtenmheenieifpacDoorFormCheck2
import Derived.Deep.Onto
namespace Go.Proofs.YtenmheenieifpacDoor
open Go.ChangeShapes Go.WideShapes Go.ChangeAt Go.RowKit
set_option maxRecDepth 100000

theorem infoA : (Tryd.prog.info? 38).map (fun i => (i.zero, i.size, i.bytes)) = some (some (.agg #[.int .i64 0, .slice none 0 0, .slice none 0 0, .int .i64 0]), 4, 64) := by kernel_rfl

/-- four cells that are an atom, whose rows lie in K or behind. -/
def AtomOf (K : Nat) (w : World) (xs : List Value) (i : Nat) (a : At) : Prop :=
  ∃ vs vt, xs[i * 4]? = some (.int .i64 a.k) ∧ xs[i * 4 + 1]? = some vs ∧ xs[i * 4 + 2]? = some vt ∧ xs[i * 4 + 3]? = some (.int .i64 a.n) ∧ Fresh K w vs a.s ∧ Fresh K w vt a.t
theorem AtomOf.below {K : Nat} {w w' : World} {xs : List Value} {i : Nat} {a : At} (h : AtomOf K w xs i a) (hb : Below w.heap.size w w') : AtomOf K w' xs i a := by
  obtain ⟨vs, vt, h1, h2, h3, h4, h5, h6⟩ := h
  exact ⟨vs, vt, h1, h2, h3, h4, h5.below hb, h6.below hb⟩
theorem AtomOf.mono {K K' : Nat} {w : World} {xs : List Value} {i : Nat} {a : At} (h : AtomOf K w xs i a) (hK : K' ≤ K) : AtomOf K' w xs i a := by
  obtain ⟨vs, vt, h1, h2, h3, h4, h5, h6⟩ := h
  exact ⟨vs, vt, h1, h2, h3, h4, World.ownsRow.mono h5 hK, World.ownsRow.mono h6 hK⟩
/-- what lies behind a place is as it was when that place is written. -/
theorem Fresh.set {K G j : Nat} {w : World} {v u : Value} {t : List Int} (h : Fresh K w v t) (hG : G < K) : Fresh K (w.setCell ⟨G, j, none⟩ u) v t := by
  obtain ⟨h1, h2⟩ := h
  refine ⟨h1, ?_⟩
  rcases h2 with h2 | ⟨g, cap, cur, hv, hg, hh, r⟩
  · exact .inl h2
  · refine .inr ⟨g, cap, cur, hv, hg, ?_, r⟩
    rw [RowKit.Below.heap_setCell _ _ _ _ (by simp; omega)]; exact hh
theorem AtomOf.set {K G j : Nat} {w : World} {xs : List Value} {i : Nat} {a : At} (h : AtomOf K w xs i a) (hG : G < K) (u : Value) : AtomOf K (w.setCell ⟨G, j, none⟩ u) xs i a := by
  obtain ⟨vs, vt, h1, h2, h3, h4, h5, h6⟩ := h
  exact ⟨vs, vt, h1, h2, h3, h4, h5.set hG, h6.set hG⟩
theorem fresh_slice {K : Nat} {w : World} {v : Value} {t : List Int} (h : Fresh K w v t) : ∃ o c, v = .slice o t.length c := by
  rcases h.2 with ⟨rfl, h0⟩ | ⟨g, cap, cur, rfl, _⟩
  · exact ⟨none, 0, by rw [h0]⟩
  · exact ⟨_, cap, rfl⟩
/-- the row of atoms, as far as it is filled. -/
def FillA (G : Nat) (w : World) (ats : List At) (m k : Nat) : Prop :=
  ∃ xs, w.ownsRow G 38 4 (.slice (some ⟨G, 0, none⟩) m m) m xs ∧ ∀ i a, i < k → ats[i]? = some a → AtomOf (G + 1) w xs i a
theorem FillA.below {G : Nat} {w w' : World} {ats : List At} {m k : Nat} (h : FillA G w ats m k) (hb : Below w.heap.size w w') : FillA G w' ats m k := by
  obtain ⟨xs, h1, h2⟩ := h
  exact ⟨xs, ownsRow_below h1 hb, fun i a hi ha => (h2 i a hi ha).below hb⟩
/-- one atom more. -/
theorem FillA.set {G : Nat} {w : World} {ats : List At} {m k : Nat} (h : FillA G w ats m k) {a : At} (ha : ats[k]? = some a) (hk : k < m) {vs vt : Value} (hs : Fresh (G + 1) w vs a.s) (ht : Fresh (G + 1) w vt a.t) :
    FillA G ((((w.setCell ⟨G, k * 4, none⟩ (.int .i64 a.k)).setCell ⟨G, k * 4 + 1, none⟩ vs).setCell ⟨G, k * 4 + 2, none⟩ vt).setCell ⟨G, k * 4 + 3, none⟩ (.int .i64 a.n)) ats m (k + 1) := by
  obtain ⟨xs, h1, h2⟩ := h
  have hl : xs.length = m * 4 := h1.1
  have g1 := (h1.stored (k * 4) (.int .i64 a.k)).1
  have g2 := (g1.stored (k * 4 + 1) vs).1
  have g3 := (g2.stored (k * 4 + 2) vt).1
  have g4 := (g3.stored (k * 4 + 3) (.int .i64 a.n)).1
  refine ⟨_, g4, fun i b hi hb => ?_⟩
  have hG : G < G + 1 := by omega
  by_cases hik : i = k
  · subst hik
    obtain rfl := Option.some.inj (ha.symm.trans hb)
    refine ⟨vs, vt, ?_, ?_, ?_, ?_, (((hs.set hG).set hG).set hG).set hG, (((ht.set hG).set hG).set hG).set hG⟩
    · rw [List.getElem?_set_ne (by omega), List.getElem?_set_ne (by omega), List.getElem?_set_ne (by omega), List.getElem?_set_self (by omega)]
    · rw [List.getElem?_set_ne (by omega), List.getElem?_set_ne (by omega), List.getElem?_set_self (by simp; omega)]
    · rw [List.getElem?_set_ne (by omega), List.getElem?_set_self (by simp; omega)]
    · rw [List.getElem?_set_self (by simp; omega)]
  · obtain ⟨us, ut, e1, e2, e3, e4, f1, f2⟩ := h2 i b (by omega) hb
    refine ⟨us, ut, ?_, ?_, ?_, ?_, (((f1.set hG).set hG).set hG).set hG, (((f2.set hG).set hG).set hG).set hG⟩
    · rw [List.getElem?_set_ne (by omega), List.getElem?_set_ne (by omega), List.getElem?_set_ne (by omega), List.getElem?_set_ne (by omega)]; exact e1
    · rw [List.getElem?_set_ne (by omega), List.getElem?_set_ne (by omega), List.getElem?_set_ne (by omega), List.getElem?_set_ne (by omega)]; exact e2
    · rw [List.getElem?_set_ne (by omega), List.getElem?_set_ne (by omega), List.getElem?_set_ne (by omega), List.getElem?_set_ne (by omega)]; exact e3
    · rw [List.getElem?_set_ne (by omega), List.getElem?_set_ne (by omega), List.getElem?_set_ne (by omega), List.getElem?_set_ne (by omega)]; exact e4
/-- its cells are there, and may be written. -/
theorem FillA.there {G : Nat} {w : World} {ats : List At} {m k : Nat} (h : FillA G w ats m k) (hk : k < m) :
    ∃ z0 z1 z2 z3, (w.cell? ⟨G, k * 4, none⟩ = some z0 ∧ w.cell? ⟨G, k * 4 + 1, none⟩ = some z1 ∧ w.cell? ⟨G, k * 4 + 2, none⟩ = some z2 ∧ w.cell? ⟨G, k * 4 + 3, none⟩ = some z3) ∧ (w.frozen? ⟨G, k * 4, none⟩ = false ∧ w.frozen? ⟨G, k * 4 + 1, none⟩ = false ∧ w.frozen? ⟨G, k * 4 + 2, none⟩ = false ∧ w.frozen? ⟨G, k * 4 + 3, none⟩ = false) := by
  obtain ⟨xs, h1, _⟩ := h
  have hl : xs.length = m * 4 := h1.1
  have e : ∀ j, j < m * 4 → ∃ z, w.cell? ⟨G, j, none⟩ = some z := fun j hj => ⟨xs[j]'(by omega), by rw [h1.cellAt j hj, List.getElem?_eq_getElem]⟩
  obtain ⟨z0, e0⟩ := e (k * 4) (by omega)
  obtain ⟨z1, e1⟩ := e (k * 4 + 1) (by omega)
  obtain ⟨z2, e2⟩ := e (k * 4 + 2) (by omega)
  obtain ⟨z3, e3⟩ := e (k * 4 + 3) (by omega)
  exact ⟨z0, z1, z2, z3, ⟨e0, e1, e2, e3⟩, h1.frozenAt _, h1.frozenAt _, h1.frozenAt _, h1.frozenAt _⟩

theorem set4_far {w : World} {G B o0 o1 o2 o3 j : Nat} {u0 u1 u2 u3 : Value} (h : G ≠ B) : ((((w.setCell ⟨G, o0, none⟩ u0).setCell ⟨G, o1, none⟩ u1).setCell ⟨G, o2, none⟩ u2).setCell ⟨G, o3, none⟩ u3).cell? ⟨B, j, none⟩ = w.cell? ⟨B, j, none⟩ := by
  have e : ∀ (W : World) (o : Nat) (u : Value), (W.setCell ⟨G, o, none⟩ u).cell? ⟨B, j, none⟩ = W.cell? ⟨B, j, none⟩ := fun W o u => by
    apply World.cell?_setCell_other
    intro e
    injection e with e1
    exact h e1
  rw [e, e, e, e]

set_option maxHeartbeats 4000000 in
theorem copies_any (ats : List At) (v : Value) (w : World) (hA : ReadsA w v ats) (h0 : 0 < ats.length) (h6 : ats.length ≤ 6) (hall : ∀ a ∈ ats, a.s.length ≤ 40 ∧ a.t.length ≤ 40) :
    Calls Tryd.prog 32 #[v] w fun e w' => ∃ G, w.heap.size ≤ G ∧ e = .returned (.slice (some ⟨G, 0, none⟩) ats.length ats.length) ∧ FillA G w' ats ats.length ats.length ∧ Below w.heap.size w w' := by
  obtain ⟨i0, hi, hz0, hz1, hz2⟩ := info_parts infoA
  rcases hA with ⟨_, _, _, rfl⟩ | ⟨B, off, cap, rfl, hB, _, ⟨_, hcap⟩, hatm⟩
  · simp at h0
  have HA : Hid (∀ W, Below w.heap.size w W → ∀ k a, ats[k]? = some a → AtomAt W B (off + k * 4) a) := fun W hW k a h => (hatm k a h).below hB hW
  have HAl : Hid (∀ a ∈ ats, a.s.length ≤ 40 ∧ a.t.length ≤ 40) := hall
  clear hall hatm hB
  obtain ⟨m, hm⟩ : ∃ m, m = ats.length := ⟨_, rfl⟩
  rw [← hm] at h0 h6 hcap ⊢
  have HM : Hid (m = ats.length) := hm
  clear hm
  obtain ⟨G, hG⟩ : ∃ G, G = w.heap.size := ⟨_, rfl⟩
  have HG : Hid (w.heap.size = G) := hG.symm
  go_enter Tryd.func32, Tryd.ntmps32
  go_wp2_with (first | (at_make; refine wpList_make_full _ rfl _ _ 22 rfl G 38 i0 (.agg #[.int .i64 0, .slice none 0 0, .slice none 0 0, .int .i64 0]) 4 Tryd.underlying22 hi hz0 hz1 .i64 .i64 _ _ m rfl rfl ?m0 ?m1 ?m2 ?m3 ?m4 ?_))
  case m0 => rfl
  case m1 => rfl
  case m2 => rw [hz2]; omega
  case m3 => unfold maxLen; omega
  case m4 => omega
  intro w3 hown1 hgrow1
  have HO : Hid (FillA G w3 ats m 0 ∧ Below G w w3) := by
    have h3 : ∃ xs, w3.ownsRow G 38 4 (.slice (some ⟨G, 0, none⟩) m m) m xs := by
      have h4 := hown1
      rw [hG]
      exact ⟨_, h4⟩
    obtain ⟨xs, h3⟩ := h3
    exact ⟨⟨xs, h3, fun i a h => by omega⟩, (Below.refl _ _).grown hgrow1 (by omega) (fun k hk => by cases hk)⟩
  rw [← hG]
  clear hown1 hgrow1 hG
  go_wp2
  go_loopw [11] (fun i wr => ∃ k : Nat, k ≤ m ∧ i = .int .i64 k ∧ FillA G wr ats m k ∧ Below G w wr) (fun i _ => m - (intOf i).toNat)
  case atStart => exact ⟨0, Nat.zero_le _, rfl, HO.out.1, HO.out.2⟩
  case round =>
    obtain ⟨k, hk, rfl, hfill, hbel⟩ := hrel
    have HF : Hid (FillA G wr ats m k) := hfill
    have HB : Hid (Below G w wr) := hbel
    clear hfill hbel
    by_cases hlt : k < m
    · obtain ⟨a, ha⟩ : ∃ a, ats[k]? = some a := ⟨_, List.getElem?_eq_getElem (by have := HM.out; omega)⟩
      have HGr : Hid (G < wr.heap.size) := by
        obtain ⟨xs, h1, _⟩ := HF.out
        exact (ownsRow_block h1).2.1
      obtain ⟨vs, vt, c0, c1, c2, c3, r1, r2⟩ := HA.out wr (by rw [HG.out]; exact HB.out) k a ha
      obtain ⟨sao, scap, rfl, _⟩ := r1.slice
      obtain ⟨tao, tcap, rfl, _⟩ := r2.slice
      have HAll := HAl.out a (List.mem_of_getElem? ha)
      obtain ⟨ak, as', at', an⟩ := a
      simp only at c0 c1 c2 c3 r1 r2 HAll ⊢
      have Ha : Hid (ats[k]? = some ⟨ak, as', at', an⟩) := ha
      clear ha
      obtain ⟨w5, hw5⟩ : ∃ w5, w5 = wr.alloc (.cells #[.int .i64 ak, .slice sao as'.length scap, .slice tao at'.length tcap, .int .i64 an] 38) := ⟨_, rfl⟩
      have HB5 : Hid (Below wr.heap.size wr w5) := by unfold Hid; rw [hw5]; exact below_alloc1 wr _
      have HS5 : Hid (w5.heap.size = wr.heap.size + 1) := by unfold Hid; rw [hw5]; simp
      have HX5 : Hid (w5.cell? ⟨wr.heap.size, 0, none⟩ = some (.int .i64 ak) ∧ w5.cell? ⟨wr.heap.size, 1, none⟩ = some (.slice sao as'.length scap) ∧ w5.cell? ⟨wr.heap.size, 2, none⟩ = some (.slice tao at'.length tcap) ∧ w5.cell? ⟨wr.heap.size, 3, none⟩ = some (.int .i64 an)) := by
        unfold Hid; rw [hw5]; simp
      have HF5 : Hid (FillA G w5 ats m k) := HF.out.below HB5.out
      have HX : Hid (∀ W, Below w5.heap.size w5 W → (W.cell? ⟨wr.heap.size, 0, none⟩ = some (.int .i64 ak) ∧ W.cell? ⟨wr.heap.size, 1, none⟩ = some (.slice sao as'.length scap) ∧ W.cell? ⟨wr.heap.size, 2, none⟩ = some (.slice tao at'.length tcap) ∧ W.cell? ⟨wr.heap.size, 3, none⟩ = some (.int .i64 an))) := fun W hW => by
        have e : ∀ j, W.cell? ⟨wr.heap.size, j, none⟩ = w5.cell? ⟨wr.heap.size, j, none⟩ := fun j => hW.cell (show (⟨wr.heap.size, j, none⟩ : Addr).block < _ by have := HS5.out; simp; omega)
        simp only [e]; exact HX5.out
      obtain ⟨z0, z1, z2, z3, ⟨t0, t1, t2, t3⟩, ⟨f0, f1, f2, f3⟩⟩ := HF5.out.there hlt
      have HT : Hid (∀ W, Below w5.heap.size w5 W → (W.cell? ⟨G, k * 4, none⟩ = some z0 ∧ W.cell? ⟨G, k * 4 + 1, none⟩ = some z1 ∧ W.cell? ⟨G, k * 4 + 2, none⟩ = some z2 ∧ W.cell? ⟨G, k * 4 + 3, none⟩ = some z3) ∧ (W.frozen? ⟨G, k * 4, none⟩ = false ∧ W.frozen? ⟨G, k * 4 + 1, none⟩ = false ∧ W.frozen? ⟨G, k * 4 + 2, none⟩ = false ∧ W.frozen? ⟨G, k * 4 + 3, none⟩ = false)) := fun W hW => by
        have hb : G < w5.heap.size := by have := HS5.out; have := HGr.out; omega
        refine ⟨⟨?_, ?_, ?_, ?_⟩, ?_, ?_, ?_, ?_⟩
        · rw [hW.cell hb]; exact t0
        · rw [hW.cell hb]; exact t1
        · rw [hW.cell hb]; exact t2
        · rw [hW.cell hb]; exact t3
        · rw [hW.frozen hb]; exact f0
        · rw [hW.frozen hb]; exact f1
        · rw [hW.frozen hb]; exact f2
        · rw [hW.frozen hb]; exact f3
      clear t0 t1 t2 t3 f0 f1 f2 f3
      have HCs : Hid (∀ (v : Value) (x : List Int), Reads w5 v x → x.length ≤ 40 → ∀ W, Below w5.heap.size w5 W → Calls Tryd.prog 60 #[v] W fun e w' => ∃ o c, e = .returned (.slice o x.length c) ∧ Fresh W.heap.size w' (.slice o x.length c) x ∧ Below W.heap.size W w' ∧ Below w5.heap.size w5 w' ∧ (w'.cell? ⟨wr.heap.size, 0, none⟩ = some (.int .i64 ak) ∧ w'.cell? ⟨wr.heap.size, 1, none⟩ = some (.slice sao as'.length scap) ∧ w'.cell? ⟨wr.heap.size, 2, none⟩ = some (.slice tao at'.length tcap) ∧ w'.cell? ⟨wr.heap.size, 3, none⟩ = some (.int .i64 an)) ∧ ((w'.cell? ⟨G, k * 4, none⟩ = some z0 ∧ w'.cell? ⟨G, k * 4 + 1, none⟩ = some z1 ∧ w'.cell? ⟨G, k * 4 + 2, none⟩ = some z2 ∧ w'.cell? ⟨G, k * 4 + 3, none⟩ = some z3) ∧ (w'.frozen? ⟨G, k * 4, none⟩ = false ∧ w'.frozen? ⟨G, k * 4 + 1, none⟩ = false ∧ w'.frozen? ⟨G, k * 4 + 2, none⟩ = false ∧ w'.frozen? ⟨G, k * 4 + 3, none⟩ = false))) := fun v x hR hx W hW => by
        refine (copied_any x v W (hR.below hW) hx).mono ?_
        rintro e w' ⟨v', rfl, hfr, hb⟩
        obtain ⟨o, c, rfl⟩ := fresh_slice hfr
        have hb5 : Below w5.heap.size w5 w' := hW.trans (hb.mono hW.size)
        exact ⟨o, c, rfl, hfr, hb, hb5, HX.out w' hb5, HT.out w' hb5⟩
      have HCS : Hid (∀ W, Below w5.heap.size w5 W → _) := HCs.out (.slice sao as'.length scap) as' (r1.below HB5.out) HAll.1
      have HCT : Hid (∀ W, Below w5.heap.size w5 W → _) := HCs.out (.slice tao at'.length tcap) at' (r2.below HB5.out) HAll.2
      clear HCs r1 r2 HAll
      have hk0 : (0 : Int) ≤ (k : Int) := by omega
      have hk1 : (k : Int) < (m : Int) := by omega
      have hGne : G ≠ wr.heap.size := by have := HGr.out; omega
      obtain ⟨lS, hlS⟩ : ∃ lS, lS = as'.length := ⟨_, rfl⟩
      obtain ⟨lT, hlT⟩ : ∃ lT, lT = at'.length := ⟨_, rfl⟩
      rw [← hlS] at c1 hw5 HX5 HX HCS HCT
      rw [← hlT] at c2 hw5 HX5 HX HCS HCT
      clear hlS hlT
      go_wp2_with fail
      rw [← hw5]
      clear hw5 c0 c1 c2 c3
      obtain ⟨y0, y1, y2, y3⟩ := HX5.out
      clear HX5
      go_region_held3 (fun w' => w'.cell? ⟨wr.heap.size, 0, none⟩ = some (.int .i64 ak) ∧ w'.cell? ⟨wr.heap.size, 1, none⟩ = some (.slice sao lS scap) ∧ w'.cell? ⟨wr.heap.size, 2, none⟩ = some (.slice tao lT tcap) ∧ w'.cell? ⟨wr.heap.size, 3, none⟩ = some (.int .i64 an)) (first | go_keep | (go_split_ands; refine ⟨?_, ?_, ?_, ?_⟩ <;> (rw [set4_far hGne]; assumption)))
        (first
          | (go_at_call_of 60 (Value.slice sao lS scap); refine (HCS.out _ ?_).mono ?_; (first | assumption | exact (Below.refl _ _).drew); rintro e w6 ⟨o1, q1, rfl, hfs, hbs, hb5s, _, ⟨⟨t0, t1, t2, t3⟩, ⟨f0, f1, f2, f3⟩⟩⟩)
          | (go_at_call_of 60 (Value.slice tao lT tcap); refine (HCT.out _ ?_).mono ?_; (first | assumption | exact (Below.refl _ _).drew); rintro e w' ⟨o2, q2, rfl, hft, hbt, hb5t, _, ⟨⟨t0, t1, t2, t3⟩, ⟨f0, f1, f2, f3⟩⟩⟩))
      have hGw : G + 1 ≤ w5.heap.size := by have := HS5.out; have := HGr.out; omega
      have hs6 : w5.heap.size ≤ w6.heap.size := hb5s.size
      have HR : Hid (FillA G ((((w'.setCell ⟨G, k * 4, none⟩ (.int .i64 ak)).setCell ⟨G, k * 4 + 1, none⟩ (.slice o1 lS q1)).setCell ⟨G, k * 4 + 2, none⟩ (.slice o2 lT q2)).setCell ⟨G, k * 4 + 3, none⟩ (.int .i64 an)) ats m (k + 1) ∧ Below G w ((((w'.setCell ⟨G, k * 4, none⟩ (.int .i64 ak)).setCell ⟨G, k * 4 + 1, none⟩ (.slice o1 lS q1)).setCell ⟨G, k * 4 + 2, none⟩ (.slice o2 lT q2)).setCell ⟨G, k * 4 + 3, none⟩ (.int .i64 an))) := by
        refine ⟨FillA.set (HF5.out.below hb5t) Ha.out hlt (World.ownsRow.mono (hfs.below hbt) hGw) (World.ownsRow.mono hft (by omega)), ?_⟩
        have hb : Below G w w' := HB.out.trans ((HB5.out.trans (hb5t.mono HB5.out.size)).mono (by have := HGr.out; omega))
        exact (((hb.setCell (Nat.le_refl _) _).setCell (Nat.le_refl _) _).setCell (Nat.le_refl _) _).setCell (Nat.le_refl _) _
      clear hfs hbs hb5s hft hbt hb5t hs6 hGw
      go_wp2
      go_roundw
      case rel => exact ⟨k + 1, by omega, by go_num, HR.out.1, HR.out.2⟩
      case measure => simp [intOf]; omega
    · obtain rfl : k = m := by omega
      go_wp2
      go_ret
      refine ⟨G, by rw [HG.out]; exact Nat.le_refl _, rfl, HF.out, ?_⟩
      rw [HG.out]; exact HB.out

/-- a full row of atoms reads as they do. -/
theorem FillA.reads {G : Nat} {w : World} {ats : List At} (h : FillA G w ats ats.length ats.length) (h0 : 0 < ats.length) (h6 : ats.length ≤ 40) : ReadsA w (.slice (some ⟨G, 0, none⟩) ats.length ats.length) ats := by
  obtain ⟨xs, h1, h2⟩ := h
  refine Or.inr ⟨G, 0, ats.length, rfl, (ownsRow_block h1).2.1, h0, ⟨by omega, Nat.le_refl _⟩, fun i a ha => ?_⟩
  have hi : i < ats.length := (List.getElem?_eq_some_iff.1 ha).1
  obtain ⟨vs, vt, e1, e2, e3, e4, f1, f2⟩ := h2 i a hi ha
  rw [Nat.zero_add]
  exact ⟨vs, vt, by rw [h1.cellAt _ (by omega)]; exact e1, by rw [h1.cellAt _ (by omega)]; exact e2, by rw [h1.cellAt _ (by omega)]; exact e3, by rw [h1.cellAt _ (by omega)]; exact e4, f1.reads, f2.reads⟩
end Go.Proofs.YtenmheenieifpacDoor
