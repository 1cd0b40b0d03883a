/-
  Proved: what form.copies returns, of right atoms: a new row that reads as they do; what was in memory is as it was (a contract that the statements lean on).
  Proved: what form.Negate returns, of any formula: its opposite, in new rows; what was in memory is as it was (a contract that the statements lean on).
  Proved: what form.Negate returns, of any formula: its opposite, in new rows; what was in memory is as it was (a contract that the statements lean on).
-/
import Derived.Test.YtgkgbpbohgklhafGreatDoorLibPB20
import Derived.Test.YtgkgbpbohgklhafGreatDoorLibPB9
import Derived.Deep.Onto
import Derived.Laws.ResultCell
import Derived.Laws.World
namespace Go.Proofs.YtgkgbpbohgklhafGreatDoor
open Go.ChangeShapes Go.WideShapes Go.ChangeAt Go.RowKit
set_option maxRecDepth 100000

theorem infoA : (Tryz.prog.info? 51).map (fun i => (i.zero, i.size, i.bytes)) = some (some (.agg #[.int .i64 0, .slice none 0 0, .slice none 0 0, .int .i64 0]), 4, 64) := by kernel_rfl

/-- four cells that are an atom, whose rows lie in K or behind. -/
def AtomOf (K : Nat) (w : World) (xs : List Value) (i : Nat) (a : At) : Prop :=
  ∃ vs vt, xs[i * 4]? = some (.int .i64 a.k) ∧ xs[i * 4 + 1]? = some vs ∧ xs[i * 4 + 2]? = some vt ∧ xs[i * 4 + 3]? = some (.int .i64 a.n) ∧ Fresh K w vs a.s ∧ Fresh K w vt a.t
theorem AtomOf.below {K : Nat} {w w' : World} {xs : List Value} {i : Nat} {a : At} (h : AtomOf K w xs i a) (hb : Below w.heap.size w w') : AtomOf K w' xs i a := by
  obtain ⟨vs, vt, h1, h2, h3, h4, h5, h6⟩ := h
  exact ⟨vs, vt, h1, h2, h3, h4, h5.below hb, h6.below hb⟩
theorem AtomOf.mono {K K' : Nat} {w : World} {xs : List Value} {i : Nat} {a : At} (h : AtomOf K w xs i a) (hK : K' ≤ K) : AtomOf K' w xs i a := by
  obtain ⟨vs, vt, h1, h2, h3, h4, h5, h6⟩ := h
  exact ⟨vs, vt, h1, h2, h3, h4, World.ownsRow.mono h5 hK, World.ownsRow.mono h6 hK⟩
/-- what lies behind a place is as it was when that place is written. -/
theorem Fresh.set {K G j : Nat} {w : World} {v u : Value} {t : List Int} (h : Fresh K w v t) (hG : G < K) : Fresh K (w.setCell ⟨G, j, none⟩ u) v t := by
  obtain ⟨h1, h2⟩ := h
  refine ⟨h1, ?_⟩
  rcases h2 with h2 | ⟨g, cap, cur, hv, hg, hh, r⟩
  · exact .inl h2
  · refine .inr ⟨g, cap, cur, hv, hg, ?_, r⟩
    rw [RowKit.Below.heap_setCell _ _ _ _ (by simp; omega)]; exact hh
theorem AtomOf.set {K G j : Nat} {w : World} {xs : List Value} {i : Nat} {a : At} (h : AtomOf K w xs i a) (hG : G < K) (u : Value) : AtomOf K (w.setCell ⟨G, j, none⟩ u) xs i a := by
  obtain ⟨vs, vt, h1, h2, h3, h4, h5, h6⟩ := h
  exact ⟨vs, vt, h1, h2, h3, h4, h5.set hG, h6.set hG⟩
theorem fresh_slice {K : Nat} {w : World} {v : Value} {t : List Int} (h : Fresh K w v t) : ∃ o c, v = .slice o t.length c := by
  rcases h.2 with ⟨rfl, h0⟩ | ⟨g, cap, cur, rfl, _⟩
  · exact ⟨none, 0, by rw [h0]⟩
  · exact ⟨_, cap, rfl⟩
/-- the row of atoms, as far as it is filled. -/
def FillA (G : Nat) (w : World) (ats : List At) (m k : Nat) : Prop :=
  ∃ xs, w.ownsRow G 51 4 (.slice (some ⟨G, 0, none⟩) m m) m xs ∧ ∀ i a, i < k → ats[i]? = some a → AtomOf (G + 1) w xs i a
theorem FillA.below {G : Nat} {w w' : World} {ats : List At} {m k : Nat} (h : FillA G w ats m k) (hb : Below w.heap.size w w') : FillA G w' ats m k := by
  obtain ⟨xs, h1, h2⟩ := h
  exact ⟨xs, ownsRow_below h1 hb, fun i a hi ha => (h2 i a hi ha).below hb⟩
/-- one atom more. -/
theorem FillA.set {G : Nat} {w : World} {ats : List At} {m k : Nat} (h : FillA G w ats m k) {a : At} (ha : ats[k]? = some a) (hk : k < m) {vs vt : Value} (hs : Fresh (G + 1) w vs a.s) (ht : Fresh (G + 1) w vt a.t) :
    FillA G ((((w.setCell ⟨G, k * 4, none⟩ (.int .i64 a.k)).setCell ⟨G, k * 4 + 1, none⟩ vs).setCell ⟨G, k * 4 + 2, none⟩ vt).setCell ⟨G, k * 4 + 3, none⟩ (.int .i64 a.n)) ats m (k + 1) := by
  obtain ⟨xs, h1, h2⟩ := h
  have hl : xs.length = m * 4 := h1.1
  have g1 := (h1.stored (k * 4) (.int .i64 a.k)).1
  have g2 := (g1.stored (k * 4 + 1) vs).1
  have g3 := (g2.stored (k * 4 + 2) vt).1
  have g4 := (g3.stored (k * 4 + 3) (.int .i64 a.n)).1
  refine ⟨_, g4, fun i b hi hb => ?_⟩
  have hG : G < G + 1 := by omega
  by_cases hik : i = k
  · subst hik
    obtain rfl := Option.some.inj (ha.symm.trans hb)
    refine ⟨vs, vt, ?_, ?_, ?_, ?_, (((hs.set hG).set hG).set hG).set hG, (((ht.set hG).set hG).set hG).set hG⟩
    · rw [List.getElem?_set_ne (by omega), List.getElem?_set_ne (by omega), List.getElem?_set_ne (by omega), List.getElem?_set_self (by omega)]
    · rw [List.getElem?_set_ne (by omega), List.getElem?_set_ne (by omega), List.getElem?_set_self (by simp; omega)]
    · rw [List.getElem?_set_ne (by omega), List.getElem?_set_self (by simp; omega)]
    · rw [List.getElem?_set_self (by simp; omega)]
  · obtain ⟨us, ut, e1, e2, e3, e4, f1, f2⟩ := h2 i b (by omega) hb
    refine ⟨us, ut, ?_, ?_, ?_, ?_, (((f1.set hG).set hG).set hG).set hG, (((f2.set hG).set hG).set hG).set hG⟩
    · rw [List.getElem?_set_ne (by omega), List.getElem?_set_ne (by omega), List.getElem?_set_ne (by omega), List.getElem?_set_ne (by omega)]; exact e1
    · rw [List.getElem?_set_ne (by omega), List.getElem?_set_ne (by omega), List.getElem?_set_ne (by omega), List.getElem?_set_ne (by omega)]; exact e2
    · rw [List.getElem?_set_ne (by omega), List.getElem?_set_ne (by omega), List.getElem?_set_ne (by omega), List.getElem?_set_ne (by omega)]; exact e3
    · rw [List.getElem?_set_ne (by omega), List.getElem?_set_ne (by omega), List.getElem?_set_ne (by omega), List.getElem?_set_ne (by omega)]; exact e4
/-- its cells are there, and may be written. -/
theorem FillA.there {G : Nat} {w : World} {ats : List At} {m k : Nat} (h : FillA G w ats m k) (hk : k < m) :
    ∃ z0 z1 z2 z3, (w.cell? ⟨G, k * 4, none⟩ = some z0 ∧ w.cell? ⟨G, k * 4 + 1, none⟩ = some z1 ∧ w.cell? ⟨G, k * 4 + 2, none⟩ = some z2 ∧ w.cell? ⟨G, k * 4 + 3, none⟩ = some z3) ∧ (w.frozen? ⟨G, k * 4, none⟩ = false ∧ w.frozen? ⟨G, k * 4 + 1, none⟩ = false ∧ w.frozen? ⟨G, k * 4 + 2, none⟩ = false ∧ w.frozen? ⟨G, k * 4 + 3, none⟩ = false) := by
  obtain ⟨xs, h1, _⟩ := h
  have hl : xs.length = m * 4 := h1.1
  have e : ∀ j, j < m * 4 → ∃ z, w.cell? ⟨G, j, none⟩ = some z := fun j hj => ⟨xs[j]'(by omega), by rw [h1.cellAt j hj, List.getElem?_eq_getElem]⟩
  obtain ⟨z0, e0⟩ := e (k * 4) (by omega)
  obtain ⟨z1, e1⟩ := e (k * 4 + 1) (by omega)
  obtain ⟨z2, e2⟩ := e (k * 4 + 2) (by omega)
  obtain ⟨z3, e3⟩ := e (k * 4 + 3) (by omega)
  exact ⟨z0, z1, z2, z3, ⟨e0, e1, e2, e3⟩, h1.frozenAt _, h1.frozenAt _, h1.frozenAt _, h1.frozenAt _⟩

theorem set4_far {w : World} {G B o0 o1 o2 o3 j : Nat} {u0 u1 u2 u3 : Value} (h : G ≠ B) : ((((w.setCell ⟨G, o0, none⟩ u0).setCell ⟨G, o1, none⟩ u1).setCell ⟨G, o2, none⟩ u2).setCell ⟨G, o3, none⟩ u3).cell? ⟨B, j, none⟩ = w.cell? ⟨B, j, none⟩ := by
  have e : ∀ (W : World) (o : Nat) (u : Value), (W.setCell ⟨G, o, none⟩ u).cell? ⟨B, j, none⟩ = W.cell? ⟨B, j, none⟩ := fun W o u => by
    apply World.cell?_setCell_other
    intro e
    injection e with e1
    exact h e1
  rw [e, e, e, e]

set_option maxHeartbeats 4000000 in
theorem copies_any (ats : List At) (v : Value) (w : World) (hA : ReadsA w v ats) (h0 : 0 < ats.length) (h6 : ats.length ≤ 6) (hall : ∀ a ∈ ats, a.s.length ≤ 40 ∧ a.t.length ≤ 40) :
    Calls Tryz.prog 34 #[v] w fun e w' => ∃ G, w.heap.size ≤ G ∧ e = .returned (.slice (some ⟨G, 0, none⟩) ats.length ats.length) ∧ FillA G w' ats ats.length ats.length ∧ Below w.heap.size w w' := by
  obtain ⟨i0, hi, hz0, hz1, hz2⟩ := info_parts infoA
  rcases hA with ⟨_, _, _, rfl⟩ | ⟨B, off, cap, rfl, hB, _, ⟨_, hcap⟩, hatm⟩
  · simp at h0
  have HA : Hid (∀ W, Below w.heap.size w W → ∀ k a, ats[k]? = some a → AtomAt W B (off + k * 4) a) := fun W hW k a h => (hatm k a h).below hB hW
  have HAl : Hid (∀ a ∈ ats, a.s.length ≤ 40 ∧ a.t.length ≤ 40) := hall
  clear hall hatm hB
  obtain ⟨m, hm⟩ : ∃ m, m = ats.length := ⟨_, rfl⟩
  rw [← hm] at h0 h6 hcap ⊢
  have HM : Hid (m = ats.length) := hm
  clear hm
  obtain ⟨G, hG⟩ : ∃ G, G = w.heap.size := ⟨_, rfl⟩
  have HG : Hid (w.heap.size = G) := hG.symm
  go_enter Tryz.func34, Tryz.ntmps34
  go_wp2_with (first | (at_make; refine wpList_make_full _ rfl _ _ 26 rfl G 51 i0 (.agg #[.int .i64 0, .slice none 0 0, .slice none 0 0, .int .i64 0]) 4 Tryz.underlying26 hi hz0 hz1 .i64 .i64 _ _ m rfl rfl ?m0 ?m1 ?m2 ?m3 ?m4 ?_))
  case m0 => rfl
  case m1 => rfl
  case m2 => rw [hz2]; omega
  case m3 => unfold maxLen; omega
  case m4 => omega
  intro w3 hown1 hgrow1
  have HO : Hid (FillA G w3 ats m 0 ∧ Below G w w3) := by
    have h3 : ∃ xs, w3.ownsRow G 51 4 (.slice (some ⟨G, 0, none⟩) m m) m xs := by
      have h4 := hown1
      rw [hG]
      exact ⟨_, h4⟩
    obtain ⟨xs, h3⟩ := h3
    exact ⟨⟨xs, h3, fun i a h => by omega⟩, (Below.refl _ _).grown hgrow1 (by omega) (fun k hk => by cases hk)⟩
  rw [← hG]
  clear hown1 hgrow1 hG
  go_wp2
  go_loopw [11] (fun i wr => ∃ k : Nat, k ≤ m ∧ i = .int .i64 k ∧ FillA G wr ats m k ∧ Below G w wr) (fun i _ => m - (intOf i).toNat)
  case atStart => exact ⟨0, Nat.zero_le _, rfl, HO.out.1, HO.out.2⟩
  case round =>
    obtain ⟨k, hk, rfl, hfill, hbel⟩ := hrel
    have HF : Hid (FillA G wr ats m k) := hfill
    have HB : Hid (Below G w wr) := hbel
    clear hfill hbel
    by_cases hlt : k < m
    · obtain ⟨a, ha⟩ : ∃ a, ats[k]? = some a := ⟨_, List.getElem?_eq_getElem (by have := HM.out; omega)⟩
      have HGr : Hid (G < wr.heap.size) := by
        obtain ⟨xs, h1, _⟩ := HF.out
        exact (ownsRow_block h1).2.1
      obtain ⟨vs, vt, c0, c1, c2, c3, r1, r2⟩ := HA.out wr (by rw [HG.out]; exact HB.out) k a ha
      obtain ⟨sao, scap, rfl, _⟩ := r1.slice
      obtain ⟨tao, tcap, rfl, _⟩ := r2.slice
      have HAll := HAl.out a (List.mem_of_getElem? ha)
      obtain ⟨ak, as', at', an⟩ := a
      simp only at c0 c1 c2 c3 r1 r2 HAll ⊢
      have Ha : Hid (ats[k]? = some ⟨ak, as', at', an⟩) := ha
      clear ha
      obtain ⟨w5, hw5⟩ : ∃ w5, w5 = wr.alloc (.cells #[.int .i64 ak, .slice sao as'.length scap, .slice tao at'.length tcap, .int .i64 an] 51) := ⟨_, rfl⟩
      have HB5 : Hid (Below wr.heap.size wr w5) := by unfold Hid; rw [hw5]; exact below_alloc1 wr _
      have HS5 : Hid (w5.heap.size = wr.heap.size + 1) := by unfold Hid; rw [hw5]; simp
      have HX5 : Hid (w5.cell? ⟨wr.heap.size, 0, none⟩ = some (.int .i64 ak) ∧ w5.cell? ⟨wr.heap.size, 1, none⟩ = some (.slice sao as'.length scap) ∧ w5.cell? ⟨wr.heap.size, 2, none⟩ = some (.slice tao at'.length tcap) ∧ w5.cell? ⟨wr.heap.size, 3, none⟩ = some (.int .i64 an)) := by
        unfold Hid; rw [hw5]; simp
      have HF5 : Hid (FillA G w5 ats m k) := HF.out.below HB5.out
      have HX : Hid (∀ W, Below w5.heap.size w5 W → (W.cell? ⟨wr.heap.size, 0, none⟩ = some (.int .i64 ak) ∧ W.cell? ⟨wr.heap.size, 1, none⟩ = some (.slice sao as'.length scap) ∧ W.cell? ⟨wr.heap.size, 2, none⟩ = some (.slice tao at'.length tcap) ∧ W.cell? ⟨wr.heap.size, 3, none⟩ = some (.int .i64 an))) := fun W hW => by
        have e : ∀ j, W.cell? ⟨wr.heap.size, j, none⟩ = w5.cell? ⟨wr.heap.size, j, none⟩ := fun j => hW.cell (show (⟨wr.heap.size, j, none⟩ : Addr).block < _ by have := HS5.out; simp; omega)
        simp only [e]; exact HX5.out
      obtain ⟨z0, z1, z2, z3, ⟨t0, t1, t2, t3⟩, ⟨f0, f1, f2, f3⟩⟩ := HF5.out.there hlt
      have HT : Hid (∀ W, Below w5.heap.size w5 W → (W.cell? ⟨G, k * 4, none⟩ = some z0 ∧ W.cell? ⟨G, k * 4 + 1, none⟩ = some z1 ∧ W.cell? ⟨G, k * 4 + 2, none⟩ = some z2 ∧ W.cell? ⟨G, k * 4 + 3, none⟩ = some z3) ∧ (W.frozen? ⟨G, k * 4, none⟩ = false ∧ W.frozen? ⟨G, k * 4 + 1, none⟩ = false ∧ W.frozen? ⟨G, k * 4 + 2, none⟩ = false ∧ W.frozen? ⟨G, k * 4 + 3, none⟩ = false)) := fun W hW => by
        have hb : G < w5.heap.size := by have := HS5.out; have := HGr.out; omega
        refine ⟨⟨?_, ?_, ?_, ?_⟩, ?_, ?_, ?_, ?_⟩
        · rw [hW.cell hb]; exact t0
        · rw [hW.cell hb]; exact t1
        · rw [hW.cell hb]; exact t2
        · rw [hW.cell hb]; exact t3
        · rw [hW.frozen hb]; exact f0
        · rw [hW.frozen hb]; exact f1
        · rw [hW.frozen hb]; exact f2
        · rw [hW.frozen hb]; exact f3
      clear t0 t1 t2 t3 f0 f1 f2 f3
      have HCs : Hid (∀ (v : Value) (x : List Int), Reads w5 v x → x.length ≤ 40 → ∀ W, Below w5.heap.size w5 W → Calls Tryz.prog 62 #[v] W fun e w' => ∃ o c, e = .returned (.slice o x.length c) ∧ Fresh W.heap.size w' (.slice o x.length c) x ∧ Below W.heap.size W w' ∧ Below w5.heap.size w5 w' ∧ (w'.cell? ⟨wr.heap.size, 0, none⟩ = some (.int .i64 ak) ∧ w'.cell? ⟨wr.heap.size, 1, none⟩ = some (.slice sao as'.length scap) ∧ w'.cell? ⟨wr.heap.size, 2, none⟩ = some (.slice tao at'.length tcap) ∧ w'.cell? ⟨wr.heap.size, 3, none⟩ = some (.int .i64 an)) ∧ ((w'.cell? ⟨G, k * 4, none⟩ = some z0 ∧ w'.cell? ⟨G, k * 4 + 1, none⟩ = some z1 ∧ w'.cell? ⟨G, k * 4 + 2, none⟩ = some z2 ∧ w'.cell? ⟨G, k * 4 + 3, none⟩ = some z3) ∧ (w'.frozen? ⟨G, k * 4, none⟩ = false ∧ w'.frozen? ⟨G, k * 4 + 1, none⟩ = false ∧ w'.frozen? ⟨G, k * 4 + 2, none⟩ = false ∧ w'.frozen? ⟨G, k * 4 + 3, none⟩ = false))) := fun v x hR hx W hW => by
        refine (copied_any x v W (hR.below hW) hx).mono ?_
        rintro e w' ⟨v', rfl, hfr, hb⟩
        obtain ⟨o, c, rfl⟩ := fresh_slice hfr
        have hb5 : Below w5.heap.size w5 w' := hW.trans (hb.mono hW.size)
        exact ⟨o, c, rfl, hfr, hb, hb5, HX.out w' hb5, HT.out w' hb5⟩
      have HCS : Hid (∀ W, Below w5.heap.size w5 W → _) := HCs.out (.slice sao as'.length scap) as' (r1.below HB5.out) HAll.1
      have HCT : Hid (∀ W, Below w5.heap.size w5 W → _) := HCs.out (.slice tao at'.length tcap) at' (r2.below HB5.out) HAll.2
      clear HCs r1 r2 HAll
      have hk0 : (0 : Int) ≤ (k : Int) := by omega
      have hk1 : (k : Int) < (m : Int) := by omega
      have hGne : G ≠ wr.heap.size := by have := HGr.out; omega
      obtain ⟨lS, hlS⟩ : ∃ lS, lS = as'.length := ⟨_, rfl⟩
      obtain ⟨lT, hlT⟩ : ∃ lT, lT = at'.length := ⟨_, rfl⟩
      rw [← hlS] at c1 hw5 HX5 HX HCS HCT
      rw [← hlT] at c2 hw5 HX5 HX HCS HCT
      clear hlS hlT
      go_wp2_with fail
      rw [← hw5]
      clear hw5 c0 c1 c2 c3
      obtain ⟨y0, y1, y2, y3⟩ := HX5.out
      clear HX5
      go_region_held3 (fun w' => w'.cell? ⟨wr.heap.size, 0, none⟩ = some (.int .i64 ak) ∧ w'.cell? ⟨wr.heap.size, 1, none⟩ = some (.slice sao lS scap) ∧ w'.cell? ⟨wr.heap.size, 2, none⟩ = some (.slice tao lT tcap) ∧ w'.cell? ⟨wr.heap.size, 3, none⟩ = some (.int .i64 an)) (first | go_keep | (go_split_ands; refine ⟨?_, ?_, ?_, ?_⟩ <;> (rw [set4_far hGne]; assumption)))
        (first
          | (go_at_call_of 62 (Value.slice sao lS scap); refine (HCS.out _ ?_).mono ?_; (first | assumption | exact (Below.refl _ _).drew); rintro e w6 ⟨o1, q1, rfl, hfs, hbs, hb5s, _, ⟨⟨t0, t1, t2, t3⟩, ⟨f0, f1, f2, f3⟩⟩⟩)
          | (go_at_call_of 62 (Value.slice tao lT tcap); refine (HCT.out _ ?_).mono ?_; (first | assumption | exact (Below.refl _ _).drew); rintro e w' ⟨o2, q2, rfl, hft, hbt, hb5t, _, ⟨⟨t0, t1, t2, t3⟩, ⟨f0, f1, f2, f3⟩⟩⟩))
      have hGw : G + 1 ≤ w5.heap.size := by have := HS5.out; have := HGr.out; omega
      have hs6 : w5.heap.size ≤ w6.heap.size := hb5s.size
      have HR : Hid (FillA G ((((w'.setCell ⟨G, k * 4, none⟩ (.int .i64 ak)).setCell ⟨G, k * 4 + 1, none⟩ (.slice o1 lS q1)).setCell ⟨G, k * 4 + 2, none⟩ (.slice o2 lT q2)).setCell ⟨G, k * 4 + 3, none⟩ (.int .i64 an)) ats m (k + 1) ∧ Below G w ((((w'.setCell ⟨G, k * 4, none⟩ (.int .i64 ak)).setCell ⟨G, k * 4 + 1, none⟩ (.slice o1 lS q1)).setCell ⟨G, k * 4 + 2, none⟩ (.slice o2 lT q2)).setCell ⟨G, k * 4 + 3, none⟩ (.int .i64 an))) := by
        refine ⟨FillA.set (HF5.out.below hb5t) Ha.out hlt (World.ownsRow.mono (hfs.below hbt) hGw) (World.ownsRow.mono hft (by omega)), ?_⟩
        have hb : Below G w w' := HB.out.trans ((HB5.out.trans (hb5t.mono HB5.out.size)).mono (by have := HGr.out; omega))
        exact (((hb.setCell (Nat.le_refl _) _).setCell (Nat.le_refl _) _).setCell (Nat.le_refl _) _).setCell (Nat.le_refl _) _
      clear hfs hbs hb5s hft hbt hb5t hs6 hGw
      go_wp2
      go_roundw
      case rel => exact ⟨k + 1, by omega, by go_num, HR.out.1, HR.out.2⟩
      case measure => simp [intOf]; omega
    · obtain rfl : k = m := by omega
      go_wp2
      go_ret
      refine ⟨G, by rw [HG.out]; exact Nat.le_refl _, rfl, HF.out, ?_⟩
      rw [HG.out]; exact HB.out

/-- a full row of atoms reads as they do. -/
theorem FillA.reads {G : Nat} {w : World} {ats : List At} (h : FillA G w ats ats.length ats.length) (h0 : 0 < ats.length) (h6 : ats.length ≤ 40) : ReadsA w (.slice (some ⟨G, 0, none⟩) ats.length ats.length) ats := by
  obtain ⟨xs, h1, h2⟩ := h
  refine Or.inr ⟨G, 0, ats.length, rfl, (ownsRow_block h1).2.1, h0, ⟨by omega, Nat.le_refl _⟩, fun i a ha => ?_⟩
  have hi : i < ats.length := (List.getElem?_eq_some_iff.1 ha).1
  obtain ⟨vs, vt, e1, e2, e3, e4, f1, f2⟩ := h2 i a hi ha
  rw [Nat.zero_add]
  exact ⟨vs, vt, by rw [h1.cellAt _ (by omega)]; exact e1, by rw [h1.cellAt _ (by omega)]; exact e2, by rw [h1.cellAt _ (by omega)]; exact e3, by rw [h1.cellAt _ (by omega)]; exact e4, f1.reads, f2.reads⟩
end Go.Proofs.YtgkgbpbohgklhafGreatDoor

namespace Go.Proofs.YtgkgbpbohgklhafGreatDoor
open Go.ChangeShapes Go.WideShapes Go.ChangeAt Go.RowKit
set_option maxRecDepth 100000

theorem load_form {W : World} {R : Nat} {c0 c1 : Value} (h0 : W.cell? ⟨R, 0, none⟩ = some c0) (h1 : W.cell? ⟨R, 1, none⟩ = some c1) : (loadVar 29 ⟨R, 0, none⟩).run Tryz.prog W = .ok (.agg #[c0, c1]) W := by
  have hl := run_loadCells_list (P := Tryz.prog) W ⟨R, 0, none⟩ [c0, c1] (fun j v hj => by
    match j, hj with
    | 0, hj => simp at hj; subst hj; simpa [Addr.add] using h0
    | 1, hj => simp at hj; subst hj; simpa [Addr.add] using h1)
  simp [loadVar, Tryz.isAgg29, Tryz.sizeOf29, Result.andThen] at hl ⊢
  simp [hl]
theorem FillA.far {G R j : Nat} {w : World} {ats : List At} {m k : Nat} (h : FillA G w ats m k) (hR : R < G) (u : Value) : FillA G (w.setCell ⟨R, j, none⟩ u) ats m k := by
  obtain ⟨xs, ⟨h1, h2⟩, h3⟩ := h
  refine ⟨xs, ⟨h1, ?_⟩, fun i a hi ha => (h3 i a hi ha).set (by omega) u⟩
  rcases h2 with h2 | ⟨g, cap, cur, hv, hg, hh, r⟩
  · exact .inl h2
  · refine .inr ⟨g, cap, cur, hv, hg, ?_, r⟩
    rw [RowKit.Below.heap_setCell _ _ _ _ (by simp; omega)]; exact hh
/-- two cells that are written: what lies in them, and elsewhere. -/
theorem set2_cells {w : World} {R : Nat} {z0 z1 u0 u1 : Value} (h0 : w.cell? ⟨R, 0, none⟩ = some z0) (h1 : w.cell? ⟨R, 1, none⟩ = some z1) : ((w.setCell ⟨R, 0, none⟩ u0).setCell ⟨R, 1, none⟩ u1).cell? ⟨R, 0, none⟩ = some u0 ∧ ((w.setCell ⟨R, 0, none⟩ u0).setCell ⟨R, 1, none⟩ u1).cell? ⟨R, 1, none⟩ = some u1 := by
  have n1 : (⟨R, 1, none⟩ : Addr) ≠ ⟨R, 0, none⟩ := by intro e; injection e with _ e; omega
  refine ⟨?_, ?_⟩
  · rw [World.cell?_setCell_other (w.setCell ⟨R, 0, none⟩ u0) _ _ _ n1]
    exact World.cell?_setCell_same _ _ _ h0
  · exact World.cell?_setCell_same _ _ _ ((World.cell?_setCell_other w _ _ _ n1.symm).trans h1)
theorem set2_far {w : World} {R B o0 o1 j : Nat} {u0 u1 : Value} (h : R ≠ B) : ((w.setCell ⟨R, o0, none⟩ u0).setCell ⟨R, o1, none⟩ u1).cell? ⟨B, j, none⟩ = w.cell? ⟨B, j, none⟩ := by
  have e : ∀ (W : World) (o : Nat) (u : Value), (W.setCell ⟨R, o, none⟩ u).cell? ⟨B, j, none⟩ = W.cell? ⟨B, j, none⟩ := fun W o u => by
    apply World.cell?_setCell_other
    intro e
    injection e with e1
    exact h e1
  rw [e, e]

/-- the two places that Negate makes: the formula's, and the answer's. -/
def BoxN (W : World) (S0 : Nat) (va vc : Value) : Prop :=
  (W.cell? ⟨S0, 0, none⟩ = some va ∧ W.cell? ⟨S0, 1, none⟩ = some vc) ∧ (W.cell? ⟨S0 + 1, 0, none⟩ = some (.slice none 0 0) ∧ W.cell? ⟨S0 + 1, 1, none⟩ = some (.slice none 0 0)) ∧ (W.frozen? ⟨S0 + 1, 0, none⟩ = false ∧ W.frozen? ⟨S0 + 1, 1, none⟩ = false)
theorem boxN_alloc (w : World) (va vc : Value) : BoxN ((w.alloc (.cells #[va, vc] 29)).alloc (.cells #[.slice none 0 0, .slice none 0 0] 29)) w.heap.size va vc := by
  have r : ∀ o j, ((w.alloc (.cells #[va, vc] 29)).alloc o).cell? ⟨w.heap.size, j, none⟩ = (w.alloc (.cells #[va, vc] 29)).cell? ⟨w.heap.size, j, none⟩ := fun o j => World.cell?_alloc_lt _ _ ⟨w.heap.size, j, none⟩ (by simp)
  have q : w.heap.size + 1 = (w.alloc (.cells #[va, vc] 29)).heap.size := by simp
  unfold BoxN
  simp only [r]
  rw [q]
  simp
theorem BoxN.below {W W' : World} {S0 : Nat} {va vc : Value} (h : BoxN W S0 va vc) (hS : S0 + 1 < W.heap.size) (hb : Below W.heap.size W W') : BoxN W' S0 va vc := by
  obtain ⟨⟨a0, a1⟩, ⟨b0, b1⟩, f0, f1⟩ := h
  have h0 : S0 < W.heap.size := by omega
  exact ⟨⟨(hb.cell h0).trans a0, (hb.cell h0).trans a1⟩, ⟨(hb.cell hS).trans b0, (hb.cell hS).trans b1⟩, (hb.frozen hS).trans f0, (hb.frozen hS).trans f1⟩

set_option maxHeartbeats 2000000 in
theorem negate_bad (va vc : Value) (ats : List At) (c : List Int) (w : World) (hA : ReadsA w va ats) (hC : Reads w vc c) (hK : KindsLaid w) (hf : ¬ formFault ats c = 0) :
    Calls Tryz.prog 13 #[.agg #[va, vc]] w fun e w' => e = .returned (.tuple #[.agg #[.slice none 0 0, .slice none 0 0], .iface 61 (.int .i64 (formFault ats c))]) ∧ Below w.heap.size w w' := by
  obtain ⟨ao, acap, rfl, _⟩ := hA.slice
  obtain ⟨co, ccap, rfl, _⟩ := hC.slice
  obtain ⟨w1, hw1⟩ : ∃ w1, w1 = (w.alloc (.cells #[.slice ao ats.length acap, .slice co c.length ccap] 29)).alloc (.cells #[.slice none 0 0, .slice none 0 0] 29) := ⟨_, rfl⟩
  have HB1 : Hid (Below w.heap.size w w1) := by unfold Hid; rw [hw1]; exact (below_alloc1 _ _).trans ((below_alloc1 _ _).mono (by simp))
  have HS1 : Hid (w1.heap.size = w.heap.size + 2) := by unfold Hid; rw [hw1]; simp
  have HX1 : Hid (BoxN w1 w.heap.size (.slice ao ats.length acap) (.slice co c.length ccap)) := by unfold Hid; rw [hw1]; exact boxN_alloc w _ _
  have HC : Hid (Calls Tryz.prog 30 #[.agg #[.slice ao ats.length acap, .slice co c.length ccap]] w1 fun e w' => e = .returned (.iface 61 (.int .i64 (formFault ats c))) ∧ Below w1.heap.size w1 w') := by
    have := fcheck_any _ _ ats c w1 (hA.below HB1.out) (hC.below HB1.out) (hK.below HB1.out)
    rw [errV_no hf] at this
    exact this
  clear hA hC hK
  obtain ⟨F, hF⟩ : ∃ F, F = formFault ats c := ⟨_, rfl⟩
  rw [← hF] at HC ⊢
  clear hF hf
  obtain ⟨m, hm⟩ : ∃ m, m = ats.length := ⟨_, rfl⟩
  obtain ⟨n, hn⟩ : ∃ n, n = c.length := ⟨_, rfl⟩
  rw [← hm, ← hn] at HC hw1 HX1 ⊢
  clear hm hn
  obtain ⟨⟨x0, x1⟩, _, _⟩ := HX1.out
  rw [hw1] at x0 x1
  go_enter Tryz.func13, Tryz.ntmps13
  go_wp2_with fail
  rw [← hw1]
  clear hw1 x0 x1
  go_at_call 30
  refine HC.out.mono ?_
  rintro e w2 ⟨rfl, hb⟩
  have HB2 : Hid (Below w.heap.size w w2) := HB1.out.trans (hb.mono HB1.out.size)
  obtain ⟨⟨x0, x1⟩, ⟨y0, y1⟩, ⟨f0, f1⟩⟩ := HX1.out.below (by have := HS1.out; omega) hb
  clear hb
  go_wp2_with fail
  obtain ⟨m0, m1⟩ := set2_cells (u0 := .slice none 0 0) (u1 := .slice none 0 0) y0 y1
  have hld := load_form m0 m1
  refine bodyPost_ret (v := .tuple #[.agg #[.slice none 0 0, .slice none 0 0], .iface 61 (.int .i64 F)]) ?_ rfl ⟨rfl, ?_⟩
  · rw [results_cell_tmp rfl]
    simp [asAddr, Result.andThen, hld]
  · exact (HB2.out.setCell (by simp) _).setCell (by simp) _

set_option maxHeartbeats 2000000 in
theorem negate_full (va vc : Value) (ats : List At) (c : List Int) (w : World) (hA : ReadsA w va ats) (hC : Reads w vc c) (hK : KindsLaid w) (hf : formFault ats c = 0) (h20 : c.length = 20) :
    Calls Tryz.prog 13 #[.agg #[va, vc]] w fun e w' => e = .returned (.tuple #[.agg #[.slice none 0 0, .slice none 0 0], .iface 61 (.int .i64 4)]) ∧ Below w.heap.size w w' := by
  obtain ⟨⟨m1, m6⟩, _, _⟩ := formFault_zero.1 hf
  obtain ⟨ao, acap, rfl, _⟩ := hA.slice
  obtain ⟨co, ccap, rfl, _⟩ := hC.slice
  obtain ⟨w1, hw1⟩ : ∃ w1, w1 = (w.alloc (.cells #[.slice ao ats.length acap, .slice co c.length ccap] 29)).alloc (.cells #[.slice none 0 0, .slice none 0 0] 29) := ⟨_, rfl⟩
  have HB1 : Hid (Below w.heap.size w w1) := by unfold Hid; rw [hw1]; exact (below_alloc1 _ _).trans ((below_alloc1 _ _).mono (by simp))
  have HS1 : Hid (w1.heap.size = w.heap.size + 2) := by unfold Hid; rw [hw1]; simp
  have HX1 : Hid (BoxN w1 w.heap.size (.slice ao ats.length acap) (.slice co c.length ccap)) := by unfold Hid; rw [hw1]; exact boxN_alloc w _ _
  have HC : Hid (Calls Tryz.prog 30 #[.agg #[.slice ao ats.length acap, .slice co c.length ccap]] w1 fun e w' => e = .returned .nilIface ∧ Below w1.heap.size w1 w') := by
    have := fcheck_any _ _ ats c w1 (hA.below HB1.out) (hC.below HB1.out) (hK.below HB1.out)
    rw [hf, errV_0] at this
    exact this
  clear hA hC hK hf
  obtain ⟨m, hm⟩ : ∃ m, m = ats.length := ⟨_, rfl⟩
  rw [← hm] at HC hw1 HX1 m6 ⊢
  rw [h20] at HC hw1 HX1 ⊢
  clear hm h20 m1
  have HT : Hid (∀ W, Calls Tryz.prog 33 #[.int .i64 m, .int .i64 21] W fun e w' => e = .returned (.bool true) ∧ W = w') := fun W => by
    have := tooMany_any m 21 W
    rw [show (decide (6 < (m : Int)) || decide ((20 : Int) < 21)) = true by simp] at this
    exact this
  obtain ⟨⟨x0, x1⟩, _, _⟩ := HX1.out
  rw [hw1] at x0 x1
  go_enter Tryz.func13, Tryz.ntmps13
  go_wp2_with fail
  rw [← hw1]
  clear hw1 x0 x1
  go_at_call 30
  refine HC.out.mono ?_
  rintro e w2 ⟨rfl, hb⟩
  have HB2 : Hid (Below w.heap.size w w2) := HB1.out.trans (hb.mono HB1.out.size)
  obtain ⟨⟨x0, x1⟩, ⟨y0, y1⟩, ⟨f0, f1⟩⟩ := HX1.out.below (by have := HS1.out; omega) hb
  clear hb
  go_wp2_with fail
  go_at_call 33
  refine (HT.out _).mono ?_
  rintro e w' ⟨rfl, rfl⟩
  go_wp2_with fail
  obtain ⟨m0, m1⟩ := set2_cells (u0 := .slice none 0 0) (u1 := .slice none 0 0) y0 y1
  have hld := load_form m0 m1
  refine bodyPost_ret (v := .tuple #[.agg #[.slice none 0 0, .slice none 0 0], .iface 61 (.int .i64 4)]) ?_ rfl ⟨rfl, ?_⟩
  · rw [results_cell_tmp rfl]
    simp [asAddr, Result.andThen, hld]
  · exact (HB2.out.setCell (by simp) _).setCell (by simp) _
end Go.Proofs.YtgkgbpbohgklhafGreatDoor

namespace Go.Proofs.YtgkgbpbohgklhafGreatDoor
open Go.ChangeShapes Go.WideShapes Go.ChangeAt Go.RowKit
set_option maxRecDepth 100000

/-- a row of numbers as one of those that are put together. -/
def rowI (b off cap : Nat) (t : List Int) : RowI := ⟨b, off, cap, t.length, t.map (Value.int .i64)⟩
theorem rowI_lies {w : World} {b off cap : Nat} {t : List Int} (hb : b < w.heap.size) (h0 : 0 < t.length) (hc : t.length ≤ cap) (h : ∀ k, k < t.length → w.cell? ⟨b, off + k, none⟩ = some (.int .i64 (t.getD k 0))) : (rowI b off cap t).Lies w := by
  refine ⟨hb, h0, hc, by simp [rowI], fun u hu => ?_, fun j u hu => ?_⟩
  · simp [rowI] at hu
    obtain ⟨_, _, rfl⟩ := hu
    rfl
  · simp only [rowI] at hu ⊢
    have hj : j < t.length := by have := (List.getElem?_eq_some_iff.1 hu).1; simpa using this
    rw [h j hj, ← hu]
    simp [List.getElem?_eq_getElem hj]

set_option maxHeartbeats 4000000 in
theorem negate_good (va vc : Value) (ats : List At) (c : List Int) (w : World) (hA : ReadsA w va ats) (hC : Reads w vc c) (hK : KindsLaid w) (hf : formFault ats c = 0) (h19 : c.length ≤ 19) :
    Calls Tryz.prog 13 #[.agg #[va, vc]] w fun e w' => ∃ va' vc', e = .returned (.tuple #[.agg #[va', vc'], .nilIface]) ∧ ReadsA w' va' ats ∧ Reads w' vc' (c ++ [12]) ∧ Below w.heap.size w w' := by
  obtain ⟨⟨m1, m6⟩, ⟨n1, _⟩, hall, _, _⟩ := formFault_zero.1 hf
  have hAl : ∀ a ∈ ats, a.s.length ≤ 40 ∧ a.t.length ≤ 40 := fun a ha => by
    have h0 := hall a ha
    obtain ⟨_, hs, ht, _⟩ := atomFault_zero.1 h0
    have h1 := (fault_zero.1 hs).2.1
    refine ⟨by omega, ?_⟩
    unfold secondFault at ht
    split at ht
    · have := (fault_zero.1 ht).2.1; omega
    · split at ht
      · cases ht
      · omega
  obtain ⟨ao, acap, rfl, _⟩ := hA.slice
  obtain ⟨co, ccap, rfl, _⟩ := hC.slice
  obtain ⟨w1, hw1⟩ : ∃ w1, w1 = (w.alloc (.cells #[.slice ao ats.length acap, .slice co c.length ccap] 29)).alloc (.cells #[.slice none 0 0, .slice none 0 0] 29) := ⟨_, rfl⟩
  have HB1 : Hid (Below w.heap.size w w1) := by unfold Hid; rw [hw1]; exact (below_alloc1 _ _).trans ((below_alloc1 _ _).mono (by simp))
  have HS1 : Hid (w1.heap.size = w.heap.size + 2) := by unfold Hid; rw [hw1]; simp
  have HX1 : Hid (BoxN w1 w.heap.size (.slice ao ats.length acap) (.slice co c.length ccap)) := by unfold Hid; rw [hw1]; exact boxN_alloc w _ _
  have HX : Hid (∀ W, Below w1.heap.size w1 W → BoxN W w.heap.size (.slice ao ats.length acap) (.slice co c.length ccap)) := fun W hW => HX1.out.below (by have := HS1.out; omega) hW
  have HCk : Hid (Calls Tryz.prog 30 #[.agg #[.slice ao ats.length acap, .slice co c.length ccap]] w1 fun e w' => e = .returned .nilIface ∧ Below w1.heap.size w1 w') := by
    have := fcheck_any _ _ ats c w1 (hA.below HB1.out) (hC.below HB1.out) (hK.below HB1.out)
    rw [hf, errV_0] at this
    exact this
  have HCp : Hid (∀ W, Below w1.heap.size w1 W → Calls Tryz.prog 34 #[.slice ao ats.length acap] W fun e w' => ∃ G, e = .returned (.slice (some ⟨G, 0, none⟩) ats.length ats.length) ∧ (w1.heap.size ≤ G ∧ FillA G w' ats ats.length ats.length) ∧ Below W.heap.size W w' ∧ Below w1.heap.size w1 w' ∧ BoxN w' w.heap.size (.slice ao ats.length acap) (.slice co c.length ccap)) := fun W hW => by
    refine (copies_any ats _ W ((hA.below HB1.out).below hW) (by omega) m6 hAl).mono ?_
    rintro e w' ⟨G, hG, rfl, hfill, hb⟩
    have hb1 : Below w1.heap.size w1 w' := hW.trans (hb.mono hW.size)
    exact ⟨G, rfl, ⟨Nat.le_trans hW.size hG, hfill⟩, hb, hb1, HX.out w' hb1⟩
  have HCc : Hid (∀ (W : World) (A D : Nat), Below w1.heap.size w1 W → A < W.heap.size → D < W.heap.size → W.cell? ⟨A, 0, none⟩ = some (.slice co c.length ccap) → W.cell? ⟨A, 1, none⟩ = some (.slice (some ⟨D, 0, none⟩) 1 1) → W.cell? ⟨D, 0, none⟩ = some (.int .i64 12) → Calls Tryz.prog 35 #[.slice (some ⟨A, 0, none⟩) 2 2] W fun e w' => ∃ o q, e = .returned (.slice o (c.length + 1) q) ∧ Fresh w1.heap.size w' (.slice o (c.length + 1) q) (c ++ [12]) ∧ Below W.heap.size W w' ∧ Below w1.heap.size w1 w' ∧ BoxN w' w.heap.size (.slice ao ats.length acap) (.slice co c.length ccap)) := fun W A D hW hA' hD c0 c1 d0 => by
    rcases (hC.below HB1.out).below hW with ⟨_, _, _, hcn⟩ | ⟨B, off, cap, hv, hb, _, ⟨_, hcc⟩, hc⟩
    · rw [hcn] at n1; simp at n1
    cases hv
    have hl : ∀ r ∈ [rowI B off ccap c, rowI D 0 1 [12]], r.Lies W := fun r hr => by
      simp only [List.mem_cons, List.mem_nil_iff, or_false] at hr
      rcases hr with rfl | rfl
      · exact rowI_lies hb (by omega) hcc hc
      · refine rowI_lies hD (by simp) (by simp) (fun k hk => ?_)
        obtain rfl : k = 0 := by simpa using hk
        exact d0
    have hlen : (c ++ [(12 : Int)]).length = c.length + 1 := by simp
    have hmany : manyI [rowI B off ccap c, rowI D 0 1 [12]] = c.length + 1 := by simp [manyI, rowI]
    have hallI : allI [rowI B off ccap c, rowI D 0 1 [12]] = (c ++ [12]).map (Value.int .i64) := by simp [allI, rowI]
    refine (concatI [rowI B off ccap c, rowI D 0 1 [12]] A 2 W (by simp) hA' (fun k r hr => ?_) hl (by rw [hmany]; omega) (by rw [hmany]; omega)).mono ?_
    · match k, hr with
      | 0, hr => simp at hr; subst hr; exact c0
      | 1, hr => simp at hr; subst hr; exact c1
    · rintro e w' ⟨v, rfl, hown, hb'⟩
      rw [hmany, hallI] at hown
      have hfr : Fresh W.heap.size w' v (c ++ [12]) := by
        unfold Fresh
        rw [hlen]
        exact hown
      obtain ⟨o, q, rfl⟩ := fresh_slice hfr
      have hb1 : Below w1.heap.size w1 w' := hW.trans (hb'.mono hW.size)
      rw [hlen] at hfr ⊢
      exact ⟨o, q, rfl, World.ownsRow.mono hfr hW.size, hb', hb1, HX.out w' hb1⟩
  clear hA hC hK hf hall hAl HX1
  obtain ⟨m, hm⟩ : ∃ m, m = ats.length := ⟨_, rfl⟩
  obtain ⟨n, hn⟩ : ∃ n, n = c.length := ⟨_, rfl⟩
  have HM : Hid (m = ats.length) := hm
  rw [← hm] at HCk HCp HCc HX hw1 m1 m6 ⊢
  rw [← hn] at HCk HCp HCc HX hw1 n1 h19 ⊢
  clear hm hn
  have HT : Hid (∀ W, Calls Tryz.prog 33 #[.int .i64 m, .int .i64 ((n : Int) + 1)] W fun e w' => e = .returned (.bool false) ∧ W = w') := fun W => by
    have := tooMany_any m ((n : Int) + 1) W
    rw [show (decide (6 < (m : Int)) || decide (20 < (n : Int) + 1)) = false by simp; omega] at this
    exact this
  have hn1 : (n : Int) ≤ 19 := by omega
  obtain ⟨⟨x0, x1⟩, _, _⟩ := HX.out w1 (Below.refl _ _)
  rw [hw1] at x0 x1
  go_enter Tryz.func13, Tryz.ntmps13
  go_wp2_with fail
  rw [← hw1]
  clear hw1 x0 x1
  go_at_call 30
  refine HCk.out.mono ?_
  rintro e w2 ⟨rfl, hb⟩
  have HB2 : Hid (Below w1.heap.size w1 w2) := hb
  obtain ⟨⟨x0, x1⟩, _, _⟩ := HX.out w2 hb
  clear hb HCk
  have HwA : Hid (∀ w5, Below w1.heap.size w1 w5 → Calls Tryz.prog 35 #[.slice (some ⟨w5.heap.size + 1, 0, none⟩) 2 2] ((w5.alloc (.cells #[.int .i64 12] 3)).alloc (.cells #[.slice co n ccap, .slice (some ⟨w5.heap.size, 0, none⟩) 1 1] 27)) fun e w' => ∃ o q, e = .returned (.slice o (n + 1) q) ∧ Fresh w1.heap.size w' (.slice o (n + 1) q) (c ++ [12]) ∧ Below w5.heap.size w5 w' ∧ Below w1.heap.size w1 w' ∧ BoxN w' w.heap.size (.slice ao m acap) (.slice co n ccap)) := fun w5 hb => by
    have q : w5.heap.size + 1 = (w5.alloc (.cells #[.int .i64 12] 3)).heap.size := by simp
    have hb5 : Below w5.heap.size w5 ((w5.alloc (.cells #[.int .i64 12] 3)).alloc (.cells #[.slice co n ccap, .slice (some ⟨w5.heap.size, 0, none⟩) 1 1] 27)) := (below_alloc1 _ _).trans ((below_alloc1 _ _).mono (by simp))
    refine (HCc.out _ (w5.heap.size + 1) w5.heap.size (hb.trans (hb5.mono hb.size)) (by simp) (by simp; omega) ?_ ?_ ?_).mono ?_
    · rw [q]; simp
    · rw [q]; simp
    · rw [World.cell?_alloc_lt _ _ ⟨w5.heap.size, 0, none⟩ (by simp)]; simp
    · rintro e w' ⟨o, q, h1, h2, h3, h4, h5⟩
      exact ⟨o, q, h1, h2, hb5.trans (h3.mono hb5.size), h4, h5⟩
  have HwB : Hid (∀ w5, Below w1.heap.size w1 w5 → Below (w2.alloc (.cells #[.int .i64 12] 3)).drew.heap.size (w2.alloc (.cells #[.int .i64 12] 3)).drew w5 → Calls Tryz.prog 35 #[.slice (some ⟨w5.heap.size, 0, none⟩) 2 2] (w5.alloc (.cells #[.slice co n ccap, .slice (some ⟨w2.heap.size, 0, none⟩) 1 1] 27)) fun e w' => ∃ o q, e = .returned (.slice o (n + 1) q) ∧ Fresh w1.heap.size w' (.slice o (n + 1) q) (c ++ [12]) ∧ Below w5.heap.size w5 w' ∧ Below w1.heap.size w1 w' ∧ BoxN w' w.heap.size (.slice ao m acap) (.slice co n ccap)) := fun w5 hb hd => by
    have hlt : w2.heap.size < w5.heap.size := by have := hd.size; simp at this; omega
    have hb5 : Below w5.heap.size w5 (w5.alloc (.cells #[.slice co n ccap, .slice (some ⟨w2.heap.size, 0, none⟩) 1 1] 27)) := below_alloc1 _ _
    refine (HCc.out _ w5.heap.size w2.heap.size (hb.trans (hb5.mono hb.size)) (by simp) (by simp; omega) (by simp) (by simp) ?_).mono ?_
    · rw [World.cell?_alloc_lt _ _ ⟨w2.heap.size, 0, none⟩ hlt, hd.cell (show (⟨w2.heap.size, 0, none⟩ : Addr).block < _ by simp)]; simp
    · rintro e w' ⟨o, q, h1, h2, h3, h4, h5⟩
      exact ⟨o, q, h1, h2, hb5.trans (h3.mono hb5.size), h4, h5⟩
  have HwC : Hid (∀ w5, Below w1.heap.size w1 w5 → Below ((w2.alloc (.cells #[.int .i64 12] 3)).alloc (.cells #[.slice co n ccap, .slice (some ⟨w2.heap.size, 0, none⟩) 1 1] 27)).drew.heap.size ((w2.alloc (.cells #[.int .i64 12] 3)).alloc (.cells #[.slice co n ccap, .slice (some ⟨w2.heap.size, 0, none⟩) 1 1] 27)).drew w5 → Calls Tryz.prog 35 #[.slice (some ⟨w2.heap.size + 1, 0, none⟩) 2 2] w5 fun e w' => ∃ o q, e = .returned (.slice o (n + 1) q) ∧ Fresh w1.heap.size w' (.slice o (n + 1) q) (c ++ [12]) ∧ Below w5.heap.size w5 w' ∧ Below w1.heap.size w1 w' ∧ BoxN w' w.heap.size (.slice ao m acap) (.slice co n ccap)) := fun w5 hb hd => by
    have hlt : w2.heap.size + 1 < w5.heap.size := by have := hd.size; simp at this; omega
    have q : w2.heap.size + 1 = (w2.alloc (.cells #[.int .i64 12] 3)).heap.size := by simp
    refine (HCc.out _ (w2.heap.size + 1) w2.heap.size hb hlt (by omega) ?_ ?_ ?_).mono ?_
    · rw [hd.cell (show (⟨w2.heap.size + 1, 0, none⟩ : Addr).block < _ by simp), q]; simp
    · rw [hd.cell (show (⟨w2.heap.size + 1, 1, none⟩ : Addr).block < _ by simp), q]; simp
    · rw [hd.cell (show (⟨w2.heap.size, 0, none⟩ : Addr).block < _ by simp; omega)]
      show ((w2.alloc (.cells #[.int .i64 12] 3)).alloc (.cells #[.slice co n ccap, .slice (some ⟨w2.heap.size, 0, none⟩) 1 1] 27)).cell? _ = _
      rw [World.cell?_alloc_lt _ _ ⟨w2.heap.size, 0, none⟩ (by simp)]; simp
    · rintro e w' ⟨o, q, h1, h2, h3, h4, h5⟩
      exact ⟨o, q, h1, h2, h3, h4, h5⟩
  have HpA : Hid (Below w1.heap.size w1 w2.drew) := HB2.out.drew
  have HpB : Hid (Below w1.heap.size w1 (w2.alloc (.cells #[.int .i64 12] 3)).drew) := (HB2.out.alloc HB2.out.size _).drew
  have HpC : Hid (Below w1.heap.size w1 ((w2.alloc (.cells #[.int .i64 12] 3)).alloc (.cells #[.slice co n ccap, .slice (some ⟨w2.heap.size, 0, none⟩) 1 1] 27)).drew) := ((HB2.out.alloc HB2.out.size _).alloc (by have := HB2.out.size; simp; omega) _).drew
  go_wp2_with fail
  go_at_call 33
  refine (HT.out _).mono ?_
  rintro e w' ⟨rfl, rfl⟩
  go_wp2_with fail
  go_region_held3 (fun w' => w'.cell? ⟨w.heap.size, 0, none⟩ = some (.slice ao m acap) ∧ w'.cell? ⟨w.heap.size, 1, none⟩ = some (.slice co n ccap)) (first | go_keep | (go_split_ands; refine ⟨?_, ?_⟩ <;> (rw [set2_far (by omega)]; assumption)))
    (first
      | (go_at_call 34; refine (HCp.out _ ?_).mono ?_; (first | exact HpA.out | exact HpB.out | exact HpC.out); rintro e w5 ⟨G, rfl, hfill, hb5, hb15, ⟨⟨_, _⟩, _⟩⟩)
      | (go_at_call 35; (with_reducible have hh := HwB.out w5 hb15 hb5); refine hh.mono ?_; clear hh; rintro e w6 ⟨o, q, rfl, hfr, hb6, hb16, ⟨⟨_, _⟩, ⟨y0, y1⟩, ⟨f0, f1⟩⟩⟩)
      | (go_at_call 35; (with_reducible have hh := HwC.out w5 hb15 hb5); refine hh.mono ?_; clear hh; rintro e w6 ⟨o, q, rfl, hfr, hb6, hb16, ⟨⟨_, _⟩, ⟨y0, y1⟩, ⟨f0, f1⟩⟩⟩)
      | (go_at_call 35; refine (HwA.out w5 hb15).mono ?_; rintro e w6 ⟨o, q, rfl, hfr, hb6, hb16, ⟨⟨_, _⟩, ⟨y0, y1⟩, ⟨f0, f1⟩⟩⟩))
  all_goals
    have hR : w.heap.size + 1 < w1.heap.size := by have := HS1.out; omega
    have HRA : Hid (ReadsA ((w6.setCell ⟨w.heap.size + 1, 0, none⟩ (.slice (some ⟨G, 0, none⟩) m m)).setCell ⟨w.heap.size + 1, 1, none⟩ (.slice o (n + 1) q)) (.slice (some ⟨G, 0, none⟩) m m) ats) := by
      have h1 := ((hfill.2.below hb6).far (j := 0) (Nat.lt_of_lt_of_le hR hfill.1) (.slice (some ⟨G, 0, none⟩) m m)).far (j := 1) (Nat.lt_of_lt_of_le hR hfill.1) (.slice o (n + 1) q)
      have h2 := HM.out
      unfold Hid
      rw [h2] at h1 ⊢
      exact h1.reads (by omega) (by omega)
    have HRC : Hid (Reads ((w6.setCell ⟨w.heap.size + 1, 0, none⟩ (.slice (some ⟨G, 0, none⟩) m m)).setCell ⟨w.heap.size + 1, 1, none⟩ (.slice o (n + 1) q)) (.slice o (n + 1) q) (c ++ [12])) := ((hfr.set hR).set hR).reads
    have HBE : Hid (Below w.heap.size w w6) := HB1.out.trans (hb16.mono HB1.out.size)
    clear hfill hb5 hb15 hfr hb6 hb16
    go_wp2_with fail
    obtain ⟨m0, m1'⟩ := set2_cells (u0 := .slice (some ⟨G, 0, none⟩) m m) (u1 := .slice o (n + 1) q) y0 y1
    have hld := load_form m0 m1'
    refine bodyPost_ret (v := .tuple #[.agg #[.slice (some ⟨G, 0, none⟩) m m, .slice o (n + 1) q], .nilIface]) ?_ rfl ⟨_, _, rfl, HRA.out, HRC.out, ?_⟩
    · rw [results_cell_tmp rfl]
      simp [asAddr, Result.andThen, hld]
    · exact (HBE.out.setCell (by simp) _).setCell (by simp) _

/-- Negate, whatever the formula. -/
theorem negate_any (va vc : Value) (ats : List At) (c : List Int) (w : World) (hA : ReadsA w va ats) (hC : Reads w vc c) (hK : KindsLaid w) :
    Calls Tryz.prog 13 #[.agg #[va, vc]] w fun e w' => ∃ va' vc', e = .returned (.tuple #[.agg #[va', vc'], errV (negFault ats c)]) ∧ (negFault ats c = 0 → ReadsA w' va' ats ∧ Reads w' vc' (c ++ [12])) ∧ (¬ negFault ats c = 0 → va' = .slice none 0 0 ∧ vc' = .slice none 0 0) ∧ Below w.heap.size w w' := by
  by_cases hf : formFault ats c = 0
  · by_cases h19 : 19 < c.length
    · have e0 : negFault ats c = 4 := by unfold negFault; rw [if_pos hf, if_pos h19]
      have h20 : c.length = 20 := by have := (formFault_zero.1 hf).2.1; omega
      rw [e0]
      refine (negate_full va vc ats c w hA hC hK hf h20).mono ?_
      rintro e w' ⟨rfl, hb⟩
      exact ⟨_, _, rfl, fun h => (by cases h), fun _ => ⟨rfl, rfl⟩, hb⟩
    · have e0 : negFault ats c = 0 := by unfold negFault; rw [if_pos hf, if_neg h19]
      rw [e0, errV_0]
      refine (negate_good va vc ats c w hA hC hK hf (by omega)).mono ?_
      rintro e w' ⟨va', vc', rfl, h1, h2, hb⟩
      exact ⟨_, _, rfl, fun _ => ⟨h1, h2⟩, fun h => absurd rfl h, hb⟩
  · have e0 : negFault ats c = formFault ats c := by unfold negFault; rw [if_neg hf]
    rw [e0, errV_no hf]
    refine (negate_bad va vc ats c w hA hC hK hf).mono ?_
    rintro e w' ⟨rfl, hb⟩
    exact ⟨_, _, rfl, fun h => absurd h hf, fun _ => ⟨rfl, rfl⟩, hb⟩
end Go.Proofs.YtgkgbpbohgklhafGreatDoor
