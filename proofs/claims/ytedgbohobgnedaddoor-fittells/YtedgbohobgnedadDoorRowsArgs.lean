/-
  Proved: what an argument of rows is, and one that is a boolean. (What the statements' frames lean on.)
-/
import Derived.Test.YtedgbohobgnedadDoorFieldsArgs
import Derived.Test.YtedgbohobgnedadDoorRowsAny
import Derived.Deep.Slices
namespace Go.Proofs.YtedgbohobgnedadDoor
open Go.ChangeShapes Go.WideShapes Go.ChangeAt Go.RowKit Go.WideMaps Go.WideElems
set_option maxRecDepth 100000

theorem cellsRow : Tryd.prog.cellsOf 29 = 9 := by kernel_rfl
theorem nineCells {cs : List Value} (h : cs.length = 9) : ∃ c0 c1 c2 c3 c4 c5 c6 c7 c8, cs = [c0, c1, c2, c3, c4, c5, c6, c7, c8] := by
  match cs, h with
  | [c0, c1, c2, c3, c4, c5, c6, c7, c8], _ => exact ⟨c0, c1, c2, c3, c4, c5, c6, c7, c8, rfl⟩
theorem row_trod {H : Type} {enc : TypeId × Value → H} {W : World} {fuel : Nat} {cs : List Value} {x : DataW H × List MemPlace} (h : DataW.trod enc Tryd.prog W 0 (fun _ => true) true fuel 29 cs = some x) :
    ∃ r : Rw, cs = (arrR r.t r.m).toList := by
  obtain ⟨y0, y1, n, _, hl, h0, h1⟩ := trod_struct2 Tryd.underlying29 h
  rw [cellsRow] at hl
  obtain ⟨c0, c1, c2, c3, c4, c5, c6, c7, c8, rfl⟩ := nineCells hl
  simp only [cells8, cellsInt] at h0 h1
  obtain ⟨xs, m, _, _, _, hxl, hx⟩ := DataW.trod_array Tryd.underlying26 h0
  have g : ∀ j, j < 8 → ∃ n : Int, [c0, c1, c2, c3, c4, c5, c6, c7][j]? = some (.int .i64 n) := fun j hj => by
    have gj := hx j hj
    simp only [cellsInt] at gj
    rw [List.getElem?_eq_getElem (show j < xs.length by omega)] at gj
    obtain ⟨n, e, _, _⟩ := DataW.trod_int Tryd.underlying3 gj
    refine ⟨n, ?_⟩
    rcases eight hj with rfl | rfl | rfl | rfl | rfl | rfl | rfl | rfl <;> simpa using e
  obtain ⟨m8, e8, _, _⟩ := DataW.trod_int Tryd.underlying3 h1
  obtain ⟨n0, e0⟩ := g 0 (by omega)
  obtain ⟨n1, e1⟩ := g 1 (by omega)
  obtain ⟨n2, e2⟩ := g 2 (by omega)
  obtain ⟨n3, e3⟩ := g 3 (by omega)
  obtain ⟨n4, e4⟩ := g 4 (by omega)
  obtain ⟨n5, e5⟩ := g 5 (by omega)
  obtain ⟨n6, e6⟩ := g 6 (by omega)
  obtain ⟨n7, e7⟩ := g 7 (by omega)
  simp at e0 e1 e2 e3 e4 e5 e6 e7 e8
  subst e0 e1 e2 e3 e4 e5 e6 e7 e8
  exact ⟨⟨fun j => match j with | 0 => n0 | 1 => n1 | 2 => n2 | 3 => n3 | 4 => n4 | 5 => n5 | 6 => n6 | _ => n7, m8⟩, rfl⟩
theorem rowsAt_of {w : World} (b off : Nat) (n : Nat) (h : ∀ i, i < n → ∃ r : Rw, RowAt w b (off + i * 9) r) : ∃ l : List Rw, l.length = n ∧ ∀ i r, l[i]? = some r → RowAt w b (off + i * 9) r := by
  induction n with
  | zero => exact ⟨[], rfl, fun i a h => by simp at h⟩
  | succ n ih =>
    obtain ⟨l, hl, ha⟩ := ih (fun i hi => h i (by omega))
    obtain ⟨r, hr⟩ := h n (by omega)
    refine ⟨l ++ [r], by simp [hl], fun i x hx => ?_⟩
    rcases Nat.lt_or_ge i n with hi | hi
    · rw [List.getElem?_append_left (by omega)] at hx; exact ha i x hx
    · rw [List.getElem?_append_right (by omega), hl] at hx
      obtain rfl : i = n := by
        have := (List.getElem?_eq_some_iff.1 hx).1
        simp at this; omega
      simp at hx
      subst hx
      exact hr
theorem rows_trod {H : Type} {enc : TypeId × Value → H} {W : World} {fuel : Nat} {cs : List Value} {x : DataW H × List MemPlace} (h : DataW.trod enc Tryd.prog W 0 (fun _ => true) true fuel 25 cs = some x) :
    ∃ v l, cs = [v] ∧ ReadsR W v l := by
  rcases Go.Deep.open_slice Tryd.underlying25 h with ⟨hcs, _⟩ | ⟨a, len, cap, m, n, D, Pl, hcs, _, hl, hm, hmm, _, hx⟩
  · exact ⟨_, [], hcs, Or.inl ⟨none, 0, rfl, rfl⟩⟩
  · rw [if_pos rfl] at hmm
    rcases Nat.eq_zero_or_pos len with h0 | h0
    · subst h0; exact ⟨_, [], hcs, Or.inl ⟨_, _, rfl, rfl⟩⟩
    · obtain ⟨b, off, spot⟩ := a
      have cell : ∀ i, i < m → ∃ r : Rw, ∀ j, j < 9 → W.cell? ((Addr.add ⟨b, off, spot⟩ (i * 9)).add j) = (arrR r.t r.m).toList[j]? := by
        intro i hi
        obtain ⟨cs', h1, h2⟩ := hx i hi
        rw [cellsRow] at h1
        obtain ⟨r, rfl⟩ := row_trod h2
        exact ⟨r, (World.cells?_some h1).2.2⟩
      have hspot : spot = none := by
        obtain ⟨r, hc⟩ := cell 0 (by omega)
        have := hc 0 (by omega)
        simpa [Addr.add] using World.cell?_spot this
      subst hspot
      obtain ⟨l, hlen, has⟩ := rowsAt_of (w := W) b off len (fun i hi => by
        obtain ⟨r, hc⟩ := cell i (by omega)
        have k : ∀ j, j < 9 → W.cell? ⟨b, off + i * 9 + j, none⟩ = (arrR r.t r.m).toList[j]? := fun j hj => by
          have := hc j hj
          rw [Go.WideShapes.add_plain, Go.WideShapes.add_plain] at this
          exact this
        exact ⟨r, k 0 (by omega), k 1 (by omega), k 2 (by omega), k 3 (by omega), k 4 (by omega), k 5 (by omega), k 6 (by omega), k 7 (by omega), k 8 (by omega)⟩)
      unfold maxLen at hm
      refine ⟨_, l, hcs, Or.inr ⟨b, off, cap, by rw [hlen], ?_, by omega, ⟨by omega, by omega⟩, has⟩⟩
      obtain ⟨h1, _⟩ := has 0 (l[0]'(by omega)) (List.getElem?_eq_getElem _)
      exact World.block_lt_of_cell? W ⟨b, off + 0 * 9, none⟩ h1
theorem rows_arg {H : Type} {enc : TypeId × Value → H} {W : World} {v : Value} {d : DataW H} {p : List MemPlace} {r : Reach} {b0 : Nat} (hv : Value.okWide Tryd.prog W r b0 25 v) (h : DataW.Trod enc Tryd.prog W 0 (fun _ => true) true 25 v d p) :
    ∃ l, ReadsR W v l := by
  obtain ⟨a0, len, cap, rfl⟩ := okWide_slice Tryd.underlying25 hv
  obtain ⟨fuel, hf⟩ := h
  obtain ⟨v', l, e, hr⟩ := rows_trod hf
  simp [Value.cells] at e
  subst e
  exact ⟨l, hr⟩
theorem row_arg {H : Type} {enc : TypeId × Value → H} {W : World} {v : Value} {d : DataW H} {p : List MemPlace} {r : Reach} {b0 : Nat} (hv : Value.okWide Tryd.prog W r b0 29 v) (h : DataW.Trod enc Tryd.prog W 0 (fun _ => true) true 29 v d p) :
    ∃ q : Rw, v = .agg #[.int .i64 (q.t 0), .int .i64 (q.t 1), .int .i64 (q.t 2), .int .i64 (q.t 3), .int .i64 (q.t 4), .int .i64 (q.t 5), .int .i64 (q.t 6), .int .i64 (q.t 7), .int .i64 q.m] := by
  obtain ⟨cs, rfl, hsz⟩ := okWide_struct Tryd.underlying29 hv
  obtain ⟨fuel, hf⟩ := h
  obtain ⟨q, e⟩ := row_trod hf
  refine ⟨q, ?_⟩
  have e' : cs.toList = (arrR q.t q.m).toList := e
  rw [show cs = arrR q.t q.m from Array.toList_inj.1 e']
  rfl
theorem bool_arg {H : Type} {enc : TypeId × Value → H} {W : World} {v : Value} {d : DataW H} {p : List MemPlace} {r : Reach} {b0 : Nat} (hv : Value.okWide Tryd.prog W r b0 4 v) (_h : DataW.Trod enc Tryd.prog W 0 (fun _ => true) true 4 v d p) :
    ∃ b, v = .bool b := by
  exact okWide_bool Tryd.underlying4 hv
end Go.Proofs.YtedgbohobgnedadDoor
