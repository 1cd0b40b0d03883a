/-
  Proved: what an atom is, as an argument of a statement: two numbers, and two slices that read as lists. (What the statements' frames lean on.)
  Proved: what a formula is, as an argument of a statement: a slice of atoms, and a slice of numbers. (What the statements' frames lean on.)
  Proved: what an argument of three numbers is. (What the statements' frames lean on.)
  Plain facts on how many worlds there are, how many are alike, and in how many a formula holds (chapter 11). No program is read here.
  Plain facts: a formula with other names holds in as many worlds (chapters 11 and 16), of at most four things. No program is read here.
  Rows of booleans in memory (facts that the contracts lean on).
  Proved: what form.made and form.work return, of a right Code and which atoms hold; what was in memory is as it was (contracts that the statements lean on).
-/
import Derived.Test.YteknlcachfhfkahDoorLibTU15
import Derived.Test.YteknlcachfhfkahDoorLibTU8
import Derived.Deep.Slices
import Derived.Test.YteknlcachfhfkahDoorLibTU5
import Derived.Test.YteknlcachfhfkahDoorLibTU6
import Derived.Deep.RegionHeld3
import Derived.Deep.AppendLies
namespace Go.Proofs.YteknlcachfhfkahDoor
open Go.ChangeShapes Go.WideShapes Go.ChangeAt Go.RowKit Go.WideMaps Go.WideElems
set_option maxRecDepth 100000

theorem cellsAtom : Tryd.prog.cellsOf 49 = 4 := by kernel_rfl
theorem cellsInts : Tryd.prog.cellsOf 23 = 1 := by kernel_rfl

theorem reads_trod {H : Type} {enc : TypeId × Value → H} {W : World} {fuel : Nat} {cs : List Value} {x : DataW H × List MemPlace} (h : DataW.trod enc Tryd.prog W 0 (fun _ => true) true fuel 23 cs = some x) :
    ∃ v t, cs = [v] ∧ Reads W v t := by
  rcases open_ints Tryd.underlying23 Tryd.underlying3 cellsInt h with ⟨hcs, hx⟩ | ⟨a, len, cap, zs, hcs, _, hl, hm, hz, hx, hcell, hwz⟩
  · exact ⟨_, [], hcs, Or.inl ⟨none, 0, rfl, rfl⟩⟩
  · refine ⟨_, zs.take len, hcs, ?_⟩
    rw [if_pos rfl] at hz
    rcases Nat.eq_zero_or_pos len with h0 | h0
    · subst h0; exact Or.inl ⟨_, _, rfl, rfl⟩
    · obtain ⟨b, off, rfl, hc⟩ := ints_at hcell (by omega)
      have hlen : (zs.take len).length = len := by rw [List.length_take]; omega
      unfold maxLen at hm
      refine Or.inr ⟨b, off, cap, by rw [hlen], ?_, by omega, ⟨by omega, by omega⟩, fun k hk => ?_⟩
      · exact World.block_lt_of_cell? W ⟨b, off, none⟩ (hc 0 (by omega))
      · rw [hc k (by omega)]
        rw [hlen] at hk
        simp [hk]
theorem atom_trod {H : Type} {enc : TypeId × Value → H} {W : World} {fuel : Nat} {cs : List Value} {x : DataW H × List MemPlace} (h : DataW.trod enc Tryd.prog W 0 (fun _ => true) true fuel 49 cs = some x) :
    ∃ k vs vt n s t, cs = [.int .i64 k, vs, vt, .int .i64 n] ∧ Reads W vs s ∧ Reads W vt t := by
  obtain ⟨y0, y1, y2, y3, n, _, hl, h0, h1, h2, h3⟩ := Go.Joins.trod_struct4 Tryd.underlying49 h
  rw [cellsAtom] at hl
  obtain ⟨c0, c1, c2, c3, rfl⟩ : ∃ c0 c1 c2 c3, cs = [c0, c1, c2, c3] := by
    match cs, hl with
    | [a, b, c, d], _ => exact ⟨a, b, c, d, rfl⟩
  simp only [cellsInt, cellsInts] at h0 h1 h2 h3
  obtain ⟨k, e0, _, _⟩ := DataW.trod_int Tryd.underlying3 h0
  obtain ⟨vs, s, e1, r1⟩ := reads_trod h1
  obtain ⟨vt, t, e2, r2⟩ := reads_trod h2
  obtain ⟨m, e3, _, _⟩ := DataW.trod_int Tryd.underlying3 h3
  simp at e0 e1 e2 e3
  subst e0 e1 e2 e3
  exact ⟨k, _, _, m, s, t, rfl, r1, r2⟩
theorem atom_arg {H : Type} {enc : TypeId × Value → H} {W : World} {v : Value} {d : DataW H} {p : List MemPlace} {r : Reach} {b0 : Nat} (hv : Value.okWide Tryd.prog W r b0 49 v) (h : DataW.Trod enc Tryd.prog W 0 (fun _ => true) true 49 v d p) :
    ∃ k n vs vt s t, v = .agg #[.int .i64 k, vs, vt, .int .i64 n] ∧ Reads W vs s ∧ Reads W vt t := by
  obtain ⟨cs, rfl, hsz⟩ := okWide_struct Tryd.underlying49 hv
  obtain ⟨c0, c1, c2, c3, rfl⟩ := Go.Joins.array4 (hsz.trans cellsAtom)
  obtain ⟨fuel, hf⟩ := h
  obtain ⟨k, vs, vt, n, s, t, e, r1, r2⟩ := atom_trod hf
  simp [Value.cells] at e
  obtain ⟨rfl, rfl, rfl, rfl⟩ := e
  exact ⟨k, n, _, _, s, t, rfl, r1, r2⟩
end Go.Proofs.YteknlcachfhfkahDoor

namespace Go.Proofs.YteknlcachfhfkahDoor
open Go.ChangeShapes Go.WideShapes Go.ChangeAt Go.RowKit Go.WideMaps Go.WideElems
set_option maxRecDepth 100000

theorem cellsForm : Tryd.prog.cellsOf 25 = 2 := by kernel_rfl
theorem cellsAtoms : Tryd.prog.cellsOf 22 = 1 := by kernel_rfl

theorem atoms_of {w : World} (b off : Nat) (n : Nat) (h : ∀ i, i < n → ∃ a : At, AtomAt w b (off + i * 4) a) : ∃ ats : List At, ats.length = n ∧ ∀ i a, ats[i]? = some a → AtomAt w b (off + i * 4) a := by
  induction n with
  | zero => exact ⟨[], rfl, fun i a h => by simp at h⟩
  | succ n ih =>
    obtain ⟨ats, hl, ha⟩ := ih (fun i hi => h i (by omega))
    obtain ⟨a, haa⟩ := h n (by omega)
    refine ⟨ats ++ [a], by simp [hl], fun i x hx => ?_⟩
    rcases Nat.lt_or_ge i n with hi | hi
    · rw [List.getElem?_append_left (by omega)] at hx; exact ha i x hx
    · rw [List.getElem?_append_right (by omega), hl] at hx
      obtain rfl : i = n := by
        have := (List.getElem?_eq_some_iff.1 hx).1
        simp at this; omega
      simp at hx
      subst hx
      exact haa
theorem atoms_trod {H : Type} {enc : TypeId × Value → H} {W : World} {fuel : Nat} {cs : List Value} {x : DataW H × List MemPlace} (h : DataW.trod enc Tryd.prog W 0 (fun _ => true) true fuel 22 cs = some x) :
    ∃ v ats, cs = [v] ∧ ReadsA W v ats := by
  rcases Go.Deep.open_slice Tryd.underlying22 h with ⟨hcs, _⟩ | ⟨a, len, cap, m, n, D, Pl, hcs, _, hl, hm, hmm, _, hx⟩
  · exact ⟨_, [], hcs, Or.inl ⟨none, 0, rfl, rfl⟩⟩
  · rw [if_pos rfl] at hmm
    rcases Nat.eq_zero_or_pos len with h0 | h0
    · subst h0; exact ⟨_, [], hcs, Or.inl ⟨_, _, rfl, rfl⟩⟩
    · obtain ⟨b, off, spot⟩ := a
      have cell : ∀ i, i < m → ∀ j, j < 4 → ∃ cs', DataW.trod enc Tryd.prog W 0 (fun _ => true) true n 49 cs' = some (D i, Pl i) ∧ ∀ j, j < 4 → W.cell? ((Addr.add ⟨b, off, spot⟩ (i * 4)).add j) = cs'[j]? := by
        intro i hi j hj
        obtain ⟨cs', h1, h2⟩ := hx i hi
        rw [cellsAtom] at h1
        exact ⟨cs', h2, (World.cells?_some h1).2.2⟩
      have hspot : spot = none := by
        obtain ⟨cs', h2, hc⟩ := cell 0 (by omega) 0 (by omega)
        obtain ⟨k, vs, vt, n', s, t, rfl, _, _⟩ := atom_trod h2
        have := hc 0 (by omega)
        simpa [Addr.add] using World.cell?_spot this
      subst hspot
      obtain ⟨ats, hlen, has⟩ := atoms_of (w := W) b off len (fun i hi => by
        obtain ⟨cs', h2, hc⟩ := cell i (by omega) 0 (by omega)
        obtain ⟨k, vs, vt, n', s, t, rfl, r1, r2⟩ := atom_trod h2
        refine ⟨⟨k, s, t, n'⟩, vs, vt, ?_, ?_, ?_, ?_, r1, r2⟩
        · have := hc 0 (by omega)
          rw [Go.WideShapes.add_plain, Go.WideShapes.add_plain] at this
          simpa using this
        · have := hc 1 (by omega)
          rw [Go.WideShapes.add_plain, Go.WideShapes.add_plain] at this
          simpa using this
        · have := hc 2 (by omega)
          rw [Go.WideShapes.add_plain, Go.WideShapes.add_plain] at this
          simpa using this
        · have := hc 3 (by omega)
          rw [Go.WideShapes.add_plain, Go.WideShapes.add_plain] at this
          simpa using this)
      unfold maxLen at hm
      refine ⟨_, ats, hcs, Or.inr ⟨b, off, cap, by rw [hlen], ?_, by omega, ⟨by omega, by omega⟩, has⟩⟩
      obtain ⟨vs, vt, h1, _⟩ := has 0 (ats[0]'(by omega)) (List.getElem?_eq_getElem _)
      exact World.block_lt_of_cell? W ⟨b, off + 0 * 4, none⟩ h1
theorem form_arg {H : Type} {enc : TypeId × Value → H} {W : World} {v : Value} {d : DataW H} {p : List MemPlace} {r : Reach} {b0 : Nat} (hv : Value.okWide Tryd.prog W r b0 25 v) (h : DataW.Trod enc Tryd.prog W 0 (fun _ => true) true 25 v d p) :
    ∃ va vc ats c, v = .agg #[va, vc] ∧ ReadsA W va ats ∧ Reads W vc c := by
  obtain ⟨cs, rfl, hsz⟩ := okWide_struct Tryd.underlying25 hv
  obtain ⟨c0, c1, rfl⟩ : ∃ c0 c1, cs = #[c0, c1] := by
    obtain ⟨l⟩ := cs
    match l, hsz.trans cellsForm with
    | [c0, c1], _ => exact ⟨c0, c1, rfl⟩
  obtain ⟨fuel, hf⟩ := h
  obtain ⟨y0, y1, n, _, _, h0, h1⟩ := trod_struct2 Tryd.underlying25 hf
  simp only [Value.cells, cellsAtoms, cellsInts] at h0 h1
  obtain ⟨va, ats, e0, r0⟩ := atoms_trod h0
  obtain ⟨vc, c, e1, r1⟩ := reads_trod h1
  simp at e0 e1
  subst e0 e1
  exact ⟨_, _, ats, c, rfl, r0, r1⟩
end Go.Proofs.YteknlcachfhfkahDoor

namespace Go.Proofs.YteknlcachfhfkahDoor
open Go.ChangeShapes Go.WideShapes Go.ChangeAt Go.RowKit Go.WideMaps Go.WideElems

theorem cellsT3 : Tryd.prog.cellsOf 36 = 3 := by kernel_rfl
set_option maxRecDepth 100000 in
theorem three_arg {H : Type} {enc : TypeId × Value → H} {W : World} {v : Value} {d : DataW H} {p : List MemPlace} {r : Reach} {b0 : Nat} (hv : Value.okWide Tryd.prog W r b0 36 v) (h : DataW.Trod enc Tryd.prog W 0 (fun _ => true) true 36 v d p) :
    ∃ N : Nat → Int, v = .agg #[.int .i64 (N 0), .int .i64 (N 1), .int .i64 (N 2)] := by
  simp only [Value.okWide, Tryd.underlying36] at hv
  obtain ⟨cs, rfl, hsz, _⟩ := hv
  rw [cellsT3] at hsz
  obtain ⟨fuel, hf⟩ := h
  obtain ⟨xs, m, _, _, _, hxl, hx⟩ := DataW.trod_array Tryd.underlying36 hf
  have g : ∀ j, j < 3 → ∃ n : Int, cs[j]? = some (.int .i64 n) := fun j hj => by
    have gj := hx j hj
    simp only [cellsInt] at gj
    rw [List.getElem?_eq_getElem (show j < xs.length by omega)] at gj
    obtain ⟨n, e, _, _⟩ := DataW.trod_int Tryd.underlying3 gj
    refine ⟨n, ?_⟩
    have hj' : j < cs.size := by omega
    simp [Value.cells] at e
    rw [Array.getElem?_eq_getElem hj']
    have := congrArg List.head? e
    simp [List.head?_take, List.head?_drop, hj'] at this
    simpa using this
  refine ⟨fun j => match cs[j]? with | some (.int _ n) => n | _ => 0, ?_⟩
  congr 1
  apply Array.ext_getElem?
  intro j
  rcases Nat.lt_or_ge j 3 with hj | hj
  · obtain ⟨n, hn⟩ := g j hj
    rcases (by omega : j = 0 ∨ j = 1 ∨ j = 2) with rfl | rfl | rfl <;> (rw [hn]; simp [hn])
  · rw [Array.getElem?_eq_none (by omega), Array.getElem?_eq_none (by simpa using hj)]
end Go.Proofs.YteknlcachfhfkahDoor

namespace Go.Proofs.YteknlcachfhfkahDoor
open Go.RowKit

def facN : Nat → Int
  | 0 => 1
  | n + 1 => ((n : Int) + 1) * facN n
/-- parted by 2, by 3, and on, up to n. -/
def downN (w : Int) : Nat → Int
  | 0 => w
  | 1 => w
  | k + 2 => (downN w (k + 1)).tdiv ((k : Int) + 2)
def likeTo (N : Nat → Int) : Nat → Int
  | 0 => facN (sumN N 8).toNat
  | i + 1 => downN (likeTo N i) (N i).toNat
/-- how many worlds have so many things in each field. -/
def likeN (N : Nat → Int) : Int := likeTo N 8
def eightN : Nat → Int
  | 0 => 1
  | n + 1 => eightN n * 8
/-- the worlds of those counts that are so. -/
def sumL (p : (Nat → Int) → Bool) : List (Nat → Int) → Int
  | [] => 0
  | N :: A => (if p N = true then likeN N else 0) + sumL p A

theorem downN_range {w : Int} (h : 0 ≤ w) (k : Nat) : 0 ≤ downN w k ∧ downN w k ≤ w := by
  induction k with
  | zero => exact ⟨h, Int.le_refl _⟩
  | succ k ih =>
    cases k with
    | zero => exact ⟨h, Int.le_refl _⟩
    | succ k =>
      show 0 ≤ (downN w (k + 1)).tdiv ((k : Int) + 2) ∧ (downN w (k + 1)).tdiv ((k : Int) + 2) ≤ w
      exact ⟨Int.tdiv_nonneg ih.1 (by omega), Int.le_trans (Int.tdiv_le_self _ ih.1) ih.2⟩
theorem downN_step (w : Int) (k : Nat) : downN w (k + 2) = (downN w (k + 1)).tdiv ((k : Int) + 2) := rfl
theorem facN_range : ∀ n, n ≤ 6 → 1 ≤ facN n ∧ facN n ≤ 720 := by decide
theorem likeTo_range {N : Nat → Int} (h : countsFault N = 0) (i : Nat) : 0 ≤ likeTo N i ∧ likeTo N i ≤ 720 := by
  induction i with
  | zero =>
    have := facN_range (sumN N 8).toNat (by have := (counts_zero.1 h).2; omega)
    exact ⟨by show 0 ≤ facN _; omega, this.2⟩
  | succ i ih =>
    have := downN_range ih.1 (N i).toNat
    exact ⟨this.1, Int.le_trans this.2 ih.2⟩
theorem likeTo_same {N M : Nat → Int} (h : ∀ g, g < 8 → N g = M g) : ∀ i, i ≤ 8 → likeTo N i = likeTo M i := by
  intro i
  induction i with
  | zero =>
    intro _
    have e : ∀ k, k ≤ 8 → sumN N k = sumN M k := by
      intro k
      induction k with
      | zero => intro _; rfl
      | succ k ih => intro hk; unfold sumN; rw [ih (by omega), h k (by omega)]
    show facN _ = facN _
    rw [e 8 (by omega)]
  | succ i ih =>
    intro hi
    show downN _ _ = downN _ _
    rw [ih (by omega), h i (by omega)]
theorem likeN_same {N M : Nat → Int} (h : ∀ g, g < 8 → N g = M g) : likeN N = likeN M := likeTo_same h 8 (by omega)
theorem like_facts : ∀ u, u ≤ 6 → ((everyC u).all fun N => decide (1 ≤ likeN N)) = true ∧ sumL (fun _ => true) (everyC u) = eightN u := by decide +kernel
theorem like_pos {u : Nat} (hu : u ≤ 6) {N : Nat → Int} (h : N ∈ everyC u) : 1 ≤ likeN N := of_decide_eq_true (List.all_eq_true.1 (like_facts u hu).1 N h)
theorem eight_le : ∀ u, u ≤ 6 → eightN u ≤ 262144 := by decide
theorem sumL_take {p : (Nat → Int) → Bool} : ∀ {A : List (Nat → Int)} {k : Nat} {N : Nat → Int}, A[k]? = some N → sumL p (A.take (k + 1)) = sumL p (A.take k) + if p N = true then likeN N else 0 := by
  intro A
  induction A with
  | nil => intro k N h; simp at h
  | cons M A ih =>
    intro k N h
    cases k with
    | zero =>
      obtain rfl : M = N := by simpa using h
      simp [sumL]
    | succ k =>
      have := ih (k := k) (N := N) (by simpa using h)
      simp only [List.take_succ_cons, sumL]
      rw [this]
      omega
theorem eight_pos (u : Nat) : 1 ≤ eightN u := by
  induction u with
  | zero => exact Int.le_refl _
  | succ u ih => show 1 ≤ eightN u * 8; omega
theorem sumL_part {A : List (Nat → Int)} (hp : ∀ N ∈ A, 0 ≤ likeN N) {p : (Nat → Int) → Bool} : ∀ k, sumL p (A.take k) ≤ sumL p A := by
  induction A with
  | nil => intro k; simp
  | cons M A ih =>
    intro k
    have h1 := hp M List.mem_cons_self
    have h2 := ih fun N hN => hp N (List.mem_cons_of_mem _ hN)
    cases k with
    | zero =>
      have h3 := h2 0
      simp only [List.take_zero, sumL] at h3 ⊢
      by_cases h : p M = true
      · rw [if_pos h]; omega
      · rw [if_neg h]; omega
    | succ k =>
      have := h2 k
      simp only [List.take_succ_cons, sumL]
      omega
theorem sumL_range {A : List (Nat → Int)} (hp : ∀ N ∈ A, 1 ≤ likeN N) (p : (Nat → Int) → Bool) : 0 ≤ sumL p A ∧ sumL p A ≤ sumL (fun _ => true) A := by
  induction A with
  | nil => exact ⟨Int.le_refl _, Int.le_refl _⟩
  | cons N A ih =>
    have h1 := hp N List.mem_cons_self
    have h2 := ih fun M hM => hp M (List.mem_cons_of_mem _ hM)
    simp only [sumL, if_true]
    by_cases h : p N = true
    · rw [if_pos h]; omega
    · rw [if_neg h]; omega
theorem sumL_not {A : List (Nat → Int)} {p q : (Nat → Int) → Bool} (h : ∀ N ∈ A, q N = !p N) : sumL p A + sumL q A = sumL (fun _ => true) A := by
  induction A with
  | nil => rfl
  | cons N A ih =>
    have h1 := h N List.mem_cons_self
    have h2 := ih fun M hM => h M (List.mem_cons_of_mem _ hM)
    simp only [sumL, if_true]
    rw [h1]
    cases p N <;> simp <;> omega
theorem sumL_has {A : List (Nat → Int)} (hp : ∀ N ∈ A, 1 ≤ likeN N) {p : (Nat → Int) → Bool} {N : Nat → Int} (hN : N ∈ A) (h : p N = true) : likeN N ≤ sumL p A := by
  induction A with
  | nil => cases hN
  | cons M A ih =>
    have h1 := hp M List.mem_cons_self
    have h2 := sumL_range (fun M hM => hp M (List.mem_cons_of_mem _ hM)) p
    simp only [sumL]
    rcases List.mem_cons.1 hN with rfl | hN
    · rw [if_pos h]; omega
    · have := ih (fun M hM => hp M (List.mem_cons_of_mem _ hM)) hN
      by_cases hm : p M = true
      · rw [if_pos hm]; omega
      · rw [if_neg hm]; omega
theorem sumL_none {A : List (Nat → Int)} {p : (Nat → Int) → Bool} (h : ∀ N ∈ A, p N = false) : sumL p A = 0 := by
  induction A with
  | nil => rfl
  | cons M A ih =>
    simp only [sumL]
    rw [h M List.mem_cons_self, if_neg (by decide), ih fun N hN => h N (List.mem_cons_of_mem _ hN)]
    rfl

theorem made_same {N M : Nat → Int} (h : ∀ g, g < 8 → N g = M g) : madeN N 8 = madeN M 8 := by
  have e : ∀ k, k ≤ 8 → madeN N k = madeN M k := by
    intro k
    induction k with
    | zero => intro _; rfl
    | succ k ih => intro hk; unfold madeN; rw [ih (by omega), h k (by omega)]
  exact e 8 (by omega)

def allFault (u : Int) : Int := if 0 ≤ u ∧ u ≤ 6 then 0 else 1
def allW (u : Int) : Int := if 0 ≤ u ∧ u ≤ 6 then eightN u.toNat else 0
def likeW (w : Wd) : Int := if w.ok = true then likeN (w.fc w.u.toNat) else 0
def worldsFault (ats : List At) (c : List Int) (u : Int) : Int := if formFault ats c = 0 then allFault u else formFault ats c
def worldsN (ats : List At) (c : List Int) (u : Int) : Int := if worldsFault ats c u = 0 then sumL (fun N => (madeN N 8).formIs ats c) (everyC u.toNat) else 0
theorem worlds_zero {ats : List At} {c : List Int} {u : Int} (h : worldsFault ats c u = 0) : formFault ats c = 0 ∧ (0 ≤ u ∧ u ≤ 6) := by
  unfold worldsFault at h
  by_cases hf : formFault ats c = 0
  · rw [if_pos hf] at h
    unfold allFault at h
    by_cases hu : 0 ≤ u ∧ u ≤ 6
    · exact ⟨hf, hu⟩
    · rw [if_neg hu] at h; exact absurd h (by decide)
  · rw [if_neg hf] at h; exact absurd h hf
theorem worlds_range {ats : List At} {c : List Int} {u : Int} (h : worldsFault ats c u = 0) : 0 ≤ worldsN ats c u ∧ worldsN ats c u ≤ allW u := by
  obtain ⟨_, hu⟩ := worlds_zero h
  have hn : u.toNat ≤ 6 := by omega
  unfold worldsN allW
  rw [if_pos h, if_pos hu, ← (like_facts _ hn).2]
  exact sumL_range (fun N hN => like_pos hn hN) _
/-- where it holds and where it does not is all. -/
theorem worlds_not {ats : List At} {c : List Int} {u : Int} (h : worldsFault ats c u = 0) (hn : negFault ats c = 0) : worldsFault ats (c ++ [12]) u = 0 ∧ worldsN ats c u + worldsN ats (c ++ [12]) u = allW u := by
  obtain ⟨hf, hu⟩ := worlds_zero h
  obtain ⟨_, h19, hf'⟩ := neg_good hn
  have hn6 : u.toNat ≤ 6 := by omega
  have h' : worldsFault ats (c ++ [12]) u = 0 := by unfold worldsFault allFault; rw [if_pos hf', if_pos hu]
  refine ⟨h', ?_⟩
  unfold worldsN allW
  rw [if_pos h, if_pos h', if_pos hu, ← (like_facts _ hn6).2]
  refine sumL_not fun N hN => ?_
  exact formIs_no hf h19 (made_ok (everyC_right hn6 hN))
/-- the counts of a world are among all. -/
theorem world_counts {w : Wd} (hw : w.ok = true) {u : Int} (hu : w.u = u) : ∃ A ∈ everyC u.toNat, (∀ g, g < 8 → A g = w.fc w.u.toNat g) ∧ ∀ ats c, (madeN A 8).formIs ats c = w.formIs ats c := by
  have hcf := counts_fc hw
  have hsum : sumN (w.fc w.u.toNat) 8 = ((u.toNat : Nat) : Int) := by rw [sum_fc, hu]
  obtain ⟨A, hA, hAw⟩ := everyC_all (u := u.toNat) (fun g hg => ((counts_zero.1 hcf).1 g hg).1) hsum
  refine ⟨A, hA, hAw, fun ats c => ?_⟩
  have e := made_same (N := A) (M := w.fc w.u.toNat) hAw
  rw [e]
  exact (alike_made hw).form ats c
theorem worlds_some {ats : List At} {c : List Int} {u : Int} (h : worldsFault ats c u = 0) {w : Wd} (hw : w.ok = true) (hu : w.u = u) (hh : w.formIs ats c = true) : likeW w ≤ worldsN ats c u := by
  obtain ⟨_, hu6⟩ := worlds_zero h
  obtain ⟨A, hA, hAw, hAf⟩ := world_counts hw hu
  unfold likeW worldsN
  rw [if_pos hw, if_pos h, ← likeN_same hAw]
  exact sumL_has (fun N hN => like_pos (by omega) hN) hA (by rw [hAf]; exact hh)
theorem worlds_rest {ats : List At} {c : List Int} {u : Int} (h : worldsFault ats c u = 0) {w : Wd} (hw : w.ok = true) (hu : w.u = u) (hh : w.formIs ats c = false) : likeW w ≤ allW u - worldsN ats c u := by
  obtain ⟨_, hu6⟩ := worlds_zero h
  have hn6 : u.toNat ≤ 6 := by omega
  obtain ⟨A, hA, hAw, hAf⟩ := world_counts hw hu
  have hs := sumL_not (A := everyC u.toNat) (p := fun N => (madeN N 8).formIs ats c) (q := fun N => !(madeN N 8).formIs ats c) fun _ _ => rfl
  have hq := sumL_has (A := everyC u.toNat) (fun N hN => like_pos hn6 hN) (p := fun N => !(madeN N 8).formIs ats c) hA (by simp only [hAf, hh]; rfl)
  unfold likeW worldsN allW
  rw [if_pos hw, if_pos h, if_pos hu6, ← likeN_same hAw, ← (like_facts _ hn6).2]
  omega
theorem like_range {w : Wd} (hw : w.ok = true) {u : Int} (hu : w.u = u) (hu6 : 0 ≤ u ∧ u ≤ 6) : 1 ≤ likeW w ∧ likeW w ≤ allW u := by
  have hn6 : u.toNat ≤ 6 := by omega
  obtain ⟨A, hA, hAw, _⟩ := world_counts hw hu
  unfold likeW allW
  rw [if_pos hw, if_pos hu6, ← likeN_same hAw, ← (like_facts _ hn6).2]
  exact ⟨like_pos hn6 hA, sumL_has (fun N hN => like_pos hn6 hN) hA rfl⟩
/-- there is one just if there is a model. -/
theorem worlds_model {ats : List At} {c : List Int} {u : Int} (h : worldsFault ats c u = 0) : (modelFault ats c u = 0 → ¬ worldsN ats c u = 0) ∧ (modelFault ats c u = 5 → worldsN ats c u = 0) := by
  obtain ⟨hf, hu6⟩ := worlds_zero h
  refine ⟨fun hm => ?_, fun hm => ?_⟩
  · obtain ⟨_, g2, g3, g4⟩ := model_zero hm
    have h1 := worlds_some h g2 g3 g4
    have h2 := (like_range g2 g3 hu6).1
    omega
  · unfold worldsN
    rw [if_pos h]
    refine sumL_none fun N hN => ?_
    have hc := everyC_right (by omega) hN
    exact model_five hm hf (made_ok hc) (by rw [made_u hc, (everyC_sum hN).2]; omega)
end Go.Proofs.YteknlcachfhfkahDoor

namespace Go.Proofs.YteknlcachfhfkahDoor
open Go.RowKit

def bitN (g k : Nat) : Nat := g / 2 ^ k % 2
/-- in which field a thing lay that lies in this one now. -/
def tauN (p : Nat → Nat) (g : Nat) : Nat := bitN g (p 0) + 2 * bitN g (p 1) + 4 * bitN g (p 2)
def tup (N : Nat → Int) : List Int := [N 0, N 1, N 2, N 3, N 4, N 5, N 6, N 7]
def untup (t : List Int) : Nat → Int := fun i => t.getD i 0
def tauL (p : Nat → Nat) (t : List Int) : List Int := tup fun g => untup t (tauN p g)
def sixP (i : Nat) : Nat → Nat := fun k => ([[0, 1, 2], [0, 2, 1], [1, 0, 2], [1, 2, 0], [2, 0, 1], [2, 1, 0]].getD i []).getD k 0

theorem tup_same (N : Nat → Int) {g : Nat} (hg : g < 8) : untup (tup N) g = N g := by
  rcases eight hg with rfl | rfl | rfl | rfl | rfl | rfl | rfl | rfl <;> rfl
theorem tau_facts : ∀ i, i < 6 → (∀ g, g < 8 → tauN (sixP i) g < 8) ∧ ∀ g, g < 8 → ∀ h, h < 8 → tauN (sixP i) g = tauN (sixP i) h → g = h := by decide
theorem like_turn : ∀ u, u < 5 → ∀ i, i < 6 → ((everyC u).all fun N => decide (likeN (fun g => N (tauN (sixP i) g)) = likeN N)) = true := by decide +kernel
theorem tau_perm : ∀ i, i < 6 → ((List.range 8).map (tauN (sixP i))).isPerm (List.range 8) = true := by decide
def invI (i : Nat) : Nat := [0, 1, 2, 4, 3, 5].getD i 0
theorem tau_inv : ∀ i, i < 6 → invI i < 6 ∧ ∀ g, g < 8 → tauN (sixP (invI i)) (tauN (sixP i) g) = g := by decide
theorem tup_eq {N M : Nat → Int} (h : ∀ g, g < 8 → N g = M g) : tup N = tup M := by
  unfold tup
  rw [h 0 (by omega), h 1 (by omega), h 2 (by omega), h 3 (by omega), h 4 (by omega), h 5 (by omega), h 6 (by omega), h 7 (by omega)]
theorem tup_inj {N M : Nat → Int} (h : tup N = tup M) : ∀ g, g < 8 → N g = M g := fun g hg => by rw [← tup_same N hg, ← tup_same M hg, h]
theorem tauL_tup (q : Nat → Nat) (hq : ∀ g, g < 8 → q g < 8) (N : Nat → Int) (p : Nat → Nat) (hp : tauN p = q) : tauL p (tup N) = tup fun g => N (q g) := by
  unfold tauL
  refine tup_eq fun g hg => ?_
  rw [hp]
  exact tup_same N (hq g hg)
theorem sum_range (N : Nat → Int) : sumN N 8 = ((List.range 8).map N).sum := by
  simp [sumN, List.range, List.range.loop]
  omega
/-- so many in other fields are so many. -/
theorem every_tau {u i : Nat} (hi : i < 6) {N : Nat → Int} (hN : N ∈ everyC u) : tup (fun g => N (tauN (sixP i) g)) ∈ (everyC u).map tup := by
  have h8 := (tau_facts i hi).1
  obtain ⟨h1, h2⟩ := everyC_sum hN
  have hs : sumN (fun g => N (tauN (sixP i) g)) 8 = u := by
    rw [sum_range, ← h2, sum_range, ← perm_sum (List.isPerm_iff.1 (tau_perm i hi)) N, List.map_map]
    rfl
  obtain ⟨A, hA, hAg⟩ := everyC_all (u := u) (M := fun g => N (tauN (sixP i) g)) (fun g hg => (h1 _ (h8 g hg)).1) hs
  exact List.mem_map.2 ⟨A, hA, tup_eq hAg⟩
theorem tups_nodup (u : Nat) : ((everyC u).map tup).Nodup := by
  unfold List.Nodup
  rw [List.pairwise_iff_getElem]
  intro a b ha hb hab e
  simp only [List.length_map] at ha hb
  simp only [List.getElem_map] at e
  have := everyC_once (List.getElem?_eq_getElem ha) (List.getElem?_eq_getElem hb) (tup_inj e)
  omega
theorem tau_count {u i : Nat} (hi : i < 6) : (((everyC u).map tup).map (tauL (sixP i))).Perm ((everyC u).map tup) := by
  have h8 := (tau_facts i hi).1
  have hT := fun N => tauL_tup (tauN (sixP i)) h8 N (sixP i) rfl
  obtain ⟨hj, hinv⟩ := tau_inv i hi
  have hn1 : (((everyC u).map tup).map (tauL (sixP i))).Nodup := by
    unfold List.Nodup
    rw [List.pairwise_iff_getElem]
    intro a b ha hb hab e
    simp only [List.length_map] at ha hb
    simp only [List.getElem_map] at e
    rw [hT, hT] at e
    have e' := tup_inj e
    have : ∀ g, g < 8 → (everyC u)[a] g = (everyC u)[b] g := fun g hg => by
      obtain ⟨k, hk, hkg⟩ : ∃ k, k < 8 ∧ tauN (sixP i) k = g := by
        have := (List.isPerm_iff.1 (tau_perm i hi)).mem_iff.2 (List.mem_range.2 hg)
        obtain ⟨k, hk, e⟩ := List.mem_map.1 this
        exact ⟨k, List.mem_range.1 hk, e⟩
      rw [← hkg]
      exact e' k hk
    have := everyC_once (List.getElem?_eq_getElem ha) (List.getElem?_eq_getElem hb) this
    omega
  have hmem : ∀ t, t ∈ ((everyC u).map tup).map (tauL (sixP i)) ↔ t ∈ (everyC u).map tup := fun t => by
    constructor
    · intro h
      obtain ⟨x, hx, rfl⟩ := List.mem_map.1 h
      obtain ⟨N, hN, rfl⟩ := List.mem_map.1 hx
      rw [hT]
      exact every_tau hi hN
    · intro h
      obtain ⟨N, hN, rfl⟩ := List.mem_map.1 h
      refine List.mem_map.2 ⟨_, every_tau hj hN, ?_⟩
      rw [hT]
      exact tup_eq fun g hg => by rw [hinv g hg]
  rw [List.perm_iff_count]
  intro a
  have c1 := List.nodup_iff_count.1 hn1 a
  have c2 := List.nodup_iff_count.1 (tups_nodup u) a
  by_cases h : a ∈ (everyC u).map tup
  · have p1 := List.count_pos_iff.2 ((hmem a).2 h)
    have p2 := List.count_pos_iff.2 h
    omega
  · rw [List.count_eq_zero.2 h, List.count_eq_zero.2 fun g => h ((hmem a).1 g)]
theorem six_of {p : Nat → Int} (h : onceB (listP p) = true) : ∃ i, i < 6 ∧ p 0 = (sixP i 0 : Nat) ∧ p 1 = (sixP i 1 : Nat) ∧ p 2 = (sixP i 2 : Nat) := by
  rcases perm_six h with ⟨a, b, c⟩ | ⟨a, b, c⟩ | ⟨a, b, c⟩ | ⟨a, b, c⟩ | ⟨a, b, c⟩ | ⟨a, b, c⟩
  · exact ⟨0, by decide, a, b, c⟩
  · exact ⟨1, by decide, a, b, c⟩
  · exact ⟨2, by decide, a, b, c⟩
  · exact ⟨3, by decide, a, b, c⟩
  · exact ⟨4, by decide, a, b, c⟩
  · exact ⟨5, by decide, a, b, c⟩
theorem tau_bits : ∀ i, i < 6 → ∀ x y z : Bool, tauN (sixP i) ((if sixP i 0 = 0 then x else if sixP i 1 = 0 then y else z).toNat + 2 * (if sixP i 0 = 1 then x else if sixP i 1 = 1 then y else z).toNat + 4 * (if sixP i 0 = 2 then x else if sixP i 1 = 2 then y else z).toNat) = x.toNat + 2 * y.toNat + 4 * z.toNat := by decide
theorem turn_field {p : Nat → Int} {i : Nat} (hi : i < 6) (h0 : p 0 = (sixP i 0 : Nat)) (h1 : p 1 = (sixP i 1 : Nat)) (w : Wd) (t : Nat) : tauN (sixP i) ((turnW p w).field t) = w.field t := by
  have hb := tau_bits i hi (hasB w.a t) (hasB w.b t) (hasB w.c t)
  have e : ∀ j : Nat, hasB (pickN p w (j : Int)) t = if sixP i 0 = j then hasB w.a t else if sixP i 1 = j then hasB w.b t else hasB w.c t := fun j => by
    unfold pickN
    rw [h0, h1]
    by_cases a : sixP i 0 = j
    · rw [if_pos a, if_pos (by omega)]
    · rw [if_neg a, if_neg (by omega)]
      by_cases b : sixP i 1 = j
      · rw [if_pos b, if_pos (by omega)]
      · rw [if_neg b, if_neg (by omega)]
  unfold Wd.field turnW
  simp only
  have e0 : hasB (pickN p w 0) t = _ := e 0
  have e1 : hasB (pickN p w 1) t = _ := e 1
  have e2 : hasB (pickN p w 2) t = _ := e 2
  rw [e0, e1, e2]
  exact hb
theorem turn_fc {p : Nat → Int} {i : Nat} (hi : i < 6) (h0 : p 0 = (sixP i 0 : Nat)) (h1 : p 1 = (sixP i 1 : Nat)) (w : Wd) (n : Nat) {g : Nat} (hg : g < 8) : (turnW p w).fc n g = w.fc n (tauN (sixP i) g) := by
  rw [fc_sum, fc_sum]
  congr 1
  refine List.map_congr_left fun t _ => ?_
  have hf := turn_field hi h0 h1 w t
  by_cases h : (turnW p w).field t = g
  · rw [if_pos h, if_pos (by rw [← hf, h])]
  · rw [if_neg h, if_neg fun e => h ((tau_facts i hi).2 _ (field_lt _ _) g hg (by rw [hf, e]))]
theorem counts_same {N M : Nat → Int} (h : ∀ g, g < 8 → N g = M g) : madeN N 8 = madeN M 8 := by
  have e : ∀ k, k ≤ 8 → madeN N k = madeN M k := by
    intro k
    induction k with
    | zero => intro _; rfl
    | succ k ih => intro hk; unfold madeN; rw [ih (by omega), h k (by omega)]
  exact e 8 (Nat.le_refl _)
theorem sumL_tup {q : (Nat → Int) → Bool} {P : List Int → Bool} : ∀ {A : List (Nat → Int)}, (∀ N ∈ A, q N = P (tup N)) → sumL q A = ((A.map tup).map fun t => if P t = true then likeN (untup t) else 0).sum := by
  intro A
  induction A with
  | nil => intro _; rfl
  | cons N A ih =>
    intro h
    have e1 := h N List.mem_cons_self
    have e2 : likeN (untup (tup N)) = likeN N := likeN_same fun g hg => tup_same N hg
    simp only [sumL, List.map_cons, List.sum_cons]
    rw [ih fun M hM => h M (List.mem_cons_of_mem _ hM), e1, e2]
/-- a formula with other names holds in as many worlds. -/
theorem ren_count {p : Nat → Int} (h : onceB (listP p) = true) {ats : List At} {c : List Int} (hf : formFault ats c = 0) {u : Nat} (hu : u ≤ 4) : sumL (fun N => (madeN N 8).formIs (renL p ats) c) (everyC u) = sumL (fun N => (madeN N 8).formIs ats c) (everyC u) := by
  obtain ⟨i, hi, h0, h1, _⟩ := six_of h
  have hperm := tau_count (u := u) hi
  have hlike := like_turn u (by omega) i hi
  have m1 : ∀ N, madeN N 8 = madeN (untup (tup N)) 8 := fun N => counts_same fun g hg => (tup_same N hg).symm
  rw [sumL_tup (P := fun t => (madeN (untup t) 8).formIs (renL p ats) c) fun N _ => by rw [m1 N], sumL_tup (P := fun t => (madeN (untup t) 8).formIs ats c) fun N _ => by rw [m1 N]]
  rw [← perm_sum hperm, List.map_map]
  congr 1
  refine List.map_congr_left fun t ht => ?_
  obtain ⟨N, hN, rfl⟩ := List.mem_map.1 ht
  have hl : likeN (untup (tauL (sixP i) (tup N))) = likeN (untup (tup N)) := by
    have h1 : likeN (fun g => N (tauN (sixP i) g)) = likeN N := of_decide_eq_true (List.all_eq_true.1 hlike N hN)
    rw [tauL_tup (tauN (sixP i)) (tau_facts i hi).1 N (sixP i) rfl, likeN_same fun g hg => tup_same (fun g => N (tauN (sixP i) g)) hg, likeN_same fun g hg => tup_same N hg]
    exact h1
  show (if (madeN (untup (tauL (sixP i) (tup N))) 8).formIs (renL p ats) c = true then likeN (untup (tauL (sixP i) (tup N))) else 0) = _
  rw [hl]
  have hc := everyC_right (by omega) hN
  have hok := made_ok hc
  have hok' : (turnW p (madeN N 8)).ok = true := by rw [turnW_ok h]; exact hok
  have hfc : ∀ g, g < 8 → (turnW p (madeN N 8)).fc (turnW p (madeN N 8)).u.toNat g = untup (tauL (sixP i) (tup N)) g := fun g hg => by
    have ht8 := (tau_facts i hi).1 g hg
    unfold tauL
    rw [tup_same _ hg, tup_same _ ht8, turn_fc hi h0 h1 _ _ hg]
    exact made_fc hc ht8
  have e : (madeN (untup (tauL (sixP i) (tup N))) 8).formIs (renL p ats) c = (madeN (untup (tup N)) 8).formIs ats c := by
    rw [← m1 N, ← ren_is h (madeN N 8) hf, ← (alike_made hok').form (renL p ats) c]
    rw [counts_same hfc]
  rw [e]
end Go.Proofs.YteknlcachfhfkahDoor

namespace Go.Proofs.YteknlcachfhfkahDoor
open Go.ChangeShapes Go.WideShapes Go.ChangeAt Go.RowKit
set_option maxRecDepth 100000

theorem infoBool : (Tryd.prog.info? 4).map (fun i => (i.zero, i.size, i.bytes)) = some (some (.bool false), 1, 1) := by kernel_rfl

/-- the slice v reads, in the world w, as these booleans. -/
def ReadsB (w : World) (b off : Nat) (hs : List Bool) : Prop := b < w.heap.size ∧ ∀ k, k < hs.length → w.cell? ⟨b, off + k, none⟩ = some (.bool (hs.getD k false))

end Go.Proofs.YteknlcachfhfkahDoor

namespace Go.Proofs.YteknlcachfhfkahDoor
open Go.ChangeShapes Go.WideShapes Go.ChangeAt Go.RowKit
set_option maxRecDepth 100000

theorem fmade_op (s : Int) (x y : Bool) (hs : s = 10 ∨ s = 11 ∨ s = 13) (B off cap : Nat) (vh : Value) (w : World) (c0 : w.cell? ⟨B, off, none⟩ = some (.bool x)) (c1 : w.cell? ⟨B, off + 1, none⟩ = some (.bool y)) (held : List Bool) :
    Calls Tryd.prog 77 #[.int .i64 s, .slice (some ⟨B, off, none⟩) 2 cap, vh] w fun e w' => e = .returned (.bool (madeF held s [x, y])) ∧ w = w' := by
  rcases hs with rfl | rfl | rfl
  · cases x
    all_goals
      go_enter Tryd.func77, Tryd.ntmps77
      go_wp2
      go_ret
      exact ⟨rfl, rfl⟩
  · cases x
    all_goals
      go_enter Tryd.func77, Tryd.ntmps77
      go_wp2
      go_ret
      exact ⟨rfl, rfl⟩
  · cases x
    all_goals
      go_enter Tryd.func77, Tryd.ntmps77
      go_wp2
      go_ret
      exact ⟨rfl, rfl⟩
theorem fmade_no (x : Bool) (B off cap : Nat) (vh : Value) (w : World) (c0 : w.cell? ⟨B, off, none⟩ = some (.bool x)) (held : List Bool) :
    Calls Tryd.prog 77 #[.int .i64 12, .slice (some ⟨B, off, none⟩) 1 cap, vh] w fun e w' => e = .returned (.bool (madeF held 12 [x])) ∧ w = w' := by
  go_enter Tryd.func77, Tryd.ntmps77
  go_wp2
  go_ret
  exact ⟨rfl, rfl⟩
theorem fmade_leaf (s : Int) (held : List Bool) (h0 : 0 ≤ s) (h1 : s < held.length) (h6 : held.length ≤ 6) (hb ho hcap : Nat) (v : Value) (w : World) (hR : ReadsB w hb ho held) :
    Calls Tryd.prog 77 #[.int .i64 s, v, .slice (some ⟨hb, ho, none⟩) held.length hcap] w fun e w' => e = .returned (.bool (madeF held s [])) ∧ w = w' := by
  obtain ⟨k, rfl⟩ := Int.eq_ofNat_of_zero_le h0
  have e : madeF held (k : Int) [] = held.getD k false := by rw [madeF_leaf held (takesF_low (by omega)) []]; simp
  rw [e]
  have hc := hR.2 k (by omega)
  obtain ⟨x, hx⟩ : ∃ x, x = held.getD k false := ⟨_, rfl⟩
  rw [← hx] at hc ⊢
  obtain ⟨m, hm⟩ : ∃ m, m = held.length := ⟨_, rfl⟩
  rw [← hm] at h1 h6 ⊢
  clear hx hm hR e
  have g0 : ((k : Int) == 10) = false := by simp; omega
  have g1 : ((k : Int) == 11) = false := by simp; omega
  have g2 : ((k : Int) == 13) = false := by simp; omega
  have g3 : ((k : Int) == 12) = false := by simp; omega
  have h0' : (0 : Int) ≤ (k : Int) := by omega
  go_enter Tryd.func77, Tryd.ntmps77
  go_wp2
  go_ret
  exact ⟨rfl, rfl⟩
end Go.Proofs.YteknlcachfhfkahDoor
