/-
  Proved: appending a list of rows to none, and what the row then reads as. (What the walks of chapter 8's statements lean on.)
-/
import Derived.Test.YtedgbohobgnedadDoorFitMath
import Derived.Test.YtedgbohobgnedadDoorRowsAny
import Derived.Maps.AppendAt
import Derived.Deep.AppendLies
namespace Go.Proofs.YtedgbohobgnedadDoor
open Go.ChangeShapes Go.WideShapes Go.ChangeAt Go.RowKit
set_option maxRecDepth 100000

/-- the cells of a list of rows. -/
def cellsR (l : List Rw) : List Value := l.flatMap fun r => (arrR r.t r.m).toList
theorem cellsR_append (l m : List Rw) : cellsR (l ++ m) = cellsR l ++ cellsR m := by unfold cellsR; rw [List.flatMap_append]
theorem cellsR_one (r : Rw) : cellsR [r] = (arrR r.t r.m).toList := by unfold cellsR; simp
theorem cellsR_length (l : List Rw) : (cellsR l).length = l.length * 9 := by
  induction l with
  | nil => rfl
  | cons r l ih =>
    have e : cellsR (r :: l) = (arrR r.t r.m).toList ++ cellsR l := by unfold cellsR; rw [List.flatMap_cons]
    rw [e, List.length_append, ih, List.length_cons]
    show 9 + _ = _
    omega
theorem cellsR_at (l : List Rw) : ∀ (i : Nat) (r : Rw), l[i]? = some r → ∀ f, f < 9 → (cellsR l)[i * 9 + f]? = (arrR r.t r.m)[f]? := by
  induction l with
  | nil => intro i r h; simp at h
  | cons q l ih =>
    intro i r h f hf
    have e : cellsR (q :: l) = (arrR q.t q.m).toList ++ cellsR l := by unfold cellsR; rw [List.flatMap_cons]
    have hl : (arrR q.t q.m).toList.length = 9 := rfl
    rw [e]
    cases i with
    | zero =>
      obtain rfl : q = r := by simpa using h
      rw [List.getElem?_append_left (by omega), show 0 * 9 + f = f by omega, Array.getElem?_toList]
    | succ i =>
      rw [List.getElem?_append_right (by omega), hl, show (i + 1) * 9 + f - 9 = i * 9 + f by omega]
      exact ih i r (by simpa using h) f hf
theorem cellsR_one' (l : List Rw) : ∀ u ∈ cellsR l, u.oneCell' = true := by
  intro u hu
  unfold cellsR at hu
  rw [List.mem_flatMap] at hu
  obtain ⟨r, _, h⟩ := hu
  simp [arrR] at h
  rcases h with rfl | rfl | rfl | rfl | rfl | rfl | rfl | rfl | rfl <;> rfl
theorem RowAt.all {w : World} {b off : Nat} {r : Rw} (h : RowAt w b off r) : ∀ f, f < 9 → w.cell? ⟨b, off + f, none⟩ = (arrR r.t r.m)[f]? := by
  obtain ⟨h0, h1, h2, h3, h4, h5, h6, h7, h8⟩ := h
  intro f hf
  have d : f = 0 ∨ f = 1 ∨ f = 2 ∨ f = 3 ∨ f = 4 ∨ f = 5 ∨ f = 6 ∨ f = 7 ∨ f = 8 := by omega
  rcases d with rfl | rfl | rfl | rfl | rfl | rfl | rfl | rfl | rfl
  · exact h0
  · exact h1
  · exact h2
  · exact h3
  · exact h4
  · exact h5
  · exact h6
  · exact h7
  · exact h8
theorem rows_news {w : World} {b off : Nat} {l : List Rw} (h : ∀ i r, l[i]? = some r → RowAt w b (off + i * 9) r) : ∀ j u, (cellsR l)[j]? = some u → w.cell? ((⟨b, off, none⟩ : Addr).add j) = some u := by
  intro j u hu
  have hj : j < l.length * 9 := by rw [← cellsR_length]; exact (List.getElem?_eq_some_iff.1 hu).1
  have hi : j / 9 < l.length := by omega
  have hr := List.getElem?_eq_getElem hi
  have h1 := cellsR_at l (j / 9) _ hr (j % 9) (by omega)
  rw [show j / 9 * 9 + j % 9 = j by omega, hu] at h1
  have h2 := (h (j / 9) _ hr).all (j % 9) (by omega)
  rw [← h1] at h2
  rw [show (⟨b, off, none⟩ : Addr).add j = ⟨b, off + j, none⟩ by simp [Addr.add], show off + j = off + j / 9 * 9 + j % 9 by omega]
  exact h2
theorem own_readsR {w : World} {K : Nat} {v : Value} {l : List Rw} (h : w.ownsRow K 29 9 v l.length (cellsR l)) (hm : l.length ≤ 9223372036854775807) : ReadsR w v l := by
  rcases h.2 with ⟨rfl, h0⟩ | ⟨g, cap, cur, rfl, hb, hg, hc, hmx, hs, ht⟩
  · exact Or.inl ⟨none, 0, rfl, List.eq_nil_of_length_eq_zero h0⟩
  · rcases Nat.eq_zero_or_pos l.length with h0 | h0
    · have e : l = [] := List.eq_nil_of_length_eq_zero h0
      subst e
      exact Or.inl ⟨_, _, rfl, rfl⟩
    · refine Or.inr ⟨g, 0, cap, rfl, (Array.getElem?_eq_some_iff.1 hg).1, h0, ⟨hm, hc⟩, fun i r hr => ?_⟩
      have hi : i < l.length := (List.getElem?_eq_some_iff.1 hr).1
      have k : ∀ f, f < 9 → w.cell? ⟨g, 0 + i * 9 + f, none⟩ = (arrR r.t r.m)[f]? := fun f hf => by
        rw [cell_of_row w g _ cur _ (0, 0) hg]
        have hx := cellsR_at l i r hr f hf
        rw [← ht, List.getElem?_take_of_lt (by omega)] at hx
        rw [show 0 + i * 9 + f = i * 9 + f by omega, ← Array.getElem?_toList]
        exact hx
      exact ⟨k 0 (by omega), k 1 (by omega), k 2 (by omega), k 3 (by omega), k 4 (by omega), k 5 (by omega), k 6 (by omega), k 7 (by omega), k 8 (by omega)⟩
theorem infoI9 : (Tryd.prog.info? 29).isSome = true := by kernel_rfl
theorem zeroI9 : (Tryd.prog.info? 29).bind (·.zero) = some (.agg #[.int .i64 0, .int .i64 0, .int .i64 0, .int .i64 0, .int .i64 0, .int .i64 0, .int .i64 0, .int .i64 0, .int .i64 0]) := by kernel_rfl
theorem sizeI9 : (Tryd.prog.info? 29).map (·.size) = some 9 := by kernel_rfl
theorem bytesI9 : (Tryd.prog.info? 29).map (·.bytes) = some 72 := by kernel_rfl
/-- a list of rows, appended to none. -/
theorem append_rows {w : World} {ops : Array Oper} {rest : List Oper} {o : Oper} {a : Act} {Q : Exit → Act → World → Prop} (hgd : o.guard = none) (s x : Operand)
    (ho : o.op = .call { callee := .builtin .append, args := #[s, x], argTypes := #[25, 25] }) (hs : a.eval s = .slice none 0 0) (v : Value) (hx : a.eval x = v) (l : List Rw) (hR : ReadsR w v l) (h12 : l.length ≤ 12)
    (h : ∀ v' w', w'.ownsRow w.heap.size 29 9 v' l.length (cellsR l) → w.grownBy w' none → wpList Tryd.prog ops Q rest (a.put o.dst v') w') :
    wpList Tryd.prog ops Q (o :: rest) a w := by
  obtain ⟨i9, hi⟩ : ∃ i, Tryd.prog.info? 29 = some i := Option.isSome_iff_exists.1 infoI9
  have hz0 : i9.zero = some (.agg #[.int .i64 0, .int .i64 0, .int .i64 0, .int .i64 0, .int .i64 0, .int .i64 0, .int .i64 0, .int .i64 0, .int .i64 0]) := by have := zeroI9; rw [hi] at this; simpa using this
  have hz1 : i9.size = 9 := by have := sizeI9; rw [hi] at this; simpa using this
  have hz2 : i9.bytes = 72 := by have := bytesI9; rw [hi] at this; simpa using this
  rcases hR with ⟨ao, cap, rfl, rfl⟩ | ⟨b, off, cap, rfl, hB, h0, ⟨hl, hcp⟩, hc⟩
  · have hrun : (Builtin.append_ #[25, 25] o.type #[.slice none 0 0, .slice ao 0 cap]).run Tryd.prog w = .ok (.slice none 0 0) w := by
      cases ao <;> simp [Builtin.append_, run_underlying Tryd.underlying25, sizeOf, typeInfo, hi, Builtin.lenOf, Builtin.firstCells, loadCells, loadCellsFrom]
    refine wpList_plain hgd fun K hK' => ?_
    unfold Oper.wp
    simp [execOp, ho, resolve, invoke, builtin, hs, hx, hrun, Result.andThen]
    exact hK' _ _ (h _ _ (World.ownsRow_nil _ _ _ _) ⟨rfl, rfl, rfl, Nat.le_refl _, fun _ _ _ => rfl⟩)
  · refine wpList_append_own_at w hgd s x 25 ho w.heap.size 29 i9 _ 9 72 Tryd.underlying25 hi hz0 hz1 hz2 rfl (by decide) (.slice none 0 0) 0 [] hs (World.ownsRow_nil _ _ _ _) ⟨b, off, none⟩ l.length cap (cellsR l) hx (cellsR_length l) (rows_news hc) (cellsR_one' l) (by unfold maxLen; omega) (by omega) (Nat.le_refl _) ?_
    intro v' w' h1 h2 _ _
    rw [Nat.zero_add, List.nil_append] at h1
    exact h v' w' h1 h2
/-- one row more, out of a block of its own. -/
theorem append_one {w : World} {ops : Array Oper} {rest : List Oper} {o : Oper} {a : Act} {Q : Exit → Act → World → Prop} (hgd : o.guard = none) (s x : Operand)
    (ho : o.op = .call { callee := .builtin .append, args := #[s, x], argTypes := #[25, 25] }) (K : Nat) (v : Value) (hs : a.eval s = v) (l : List Rw) (r : Rw) (B c : Nat) (hx : a.eval x = .slice (some ⟨B, 0, none⟩) 1 c)
    (hown : w.ownsRow K 29 9 v l.length (cellsR l)) (hB : w.heap[B]? = some (.cells (arrR r.t r.m) 29 (0, 0))) (hK : K ≤ w.heap.size) (h12 : l.length ≤ 12)
    (h : ∀ v' w', w'.ownsRow K 29 9 v' (l ++ [r]).length (cellsR (l ++ [r])) → w.grownBy w' v.ownBlock → wpList Tryd.prog ops Q rest (a.put o.dst v') w') :
    wpList Tryd.prog ops Q (o :: rest) a w := by
  obtain ⟨i9, hi⟩ : ∃ i, Tryd.prog.info? 29 = some i := Option.isSome_iff_exists.1 infoI9
  have hz0 : i9.zero = some (.agg #[.int .i64 0, .int .i64 0, .int .i64 0, .int .i64 0, .int .i64 0, .int .i64 0, .int .i64 0, .int .i64 0, .int .i64 0]) := by have := zeroI9; rw [hi] at this; simpa using this
  have hz1 : i9.size = 9 := by have := sizeI9; rw [hi] at this; simpa using this
  have hz2 : i9.bytes = 72 := by have := bytesI9; rw [hi] at this; simpa using this
  refine wpList_append_own_at w hgd s x 25 ho K 29 i9 _ 9 72 Tryd.underlying25 hi hz0 hz1 hz2 rfl (by decide) v l.length (cellsR l) hs hown ⟨B, 0, none⟩ 1 c (arrR r.t r.m).toList hx rfl (World.news_of_block hB) (by simp [arrR, Value.oneCell']) (by unfold maxLen; omega) (by omega) hK ?_
  intro v' w' h1 h2 _ _
  refine h v' w' ?_ h2
  rw [cellsR_append, cellsR_one, List.length_append]
  exact h1
end Go.Proofs.YtedgbohobgnedadDoor
