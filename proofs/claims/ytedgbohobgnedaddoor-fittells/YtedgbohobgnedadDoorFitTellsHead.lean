/-
  Proved: facts on lists of counts in memory that the walks of chapter 8's statements lean on.
-/
import Derived.Test.YtedgbohobgnedadDoorFitAll
import Derived.Test.YtedgbohobgnedadDoorFitMath
import Derived.Test.YtedgbohobgnedadDoorFitEq
import Derived.Test.YtedgbohobgnedadDoorRowsAny
namespace Go.Proofs.YtedgbohobgnedadDoor
open Go.ChangeShapes Go.WideShapes Go.ChangeAt Go.RowKit
set_option maxRecDepth 100000

theorem Reads8.far {w : World} {v : Value} {L : List (Nat → Int)} (h : Reads8 w v L) {P : Nat} (hP : v.ownBlock ≠ some P) (j : Nat) (x : Value) : Reads8 (w.setCell ⟨P, j, none⟩ x) v L := by
  rcases h with h | ⟨b, off, cap, rfl, h2, h3, h4, h5⟩
  · exact Or.inl h
  · refine Or.inr ⟨b, off, cap, rfl, by simpa using h2, h3, h4, fun i N hN f hf => ?_⟩
    have hne : b ≠ P := fun e => hP (by rw [← e]; rfl)
    have hb : (w.setCell ⟨P, j, none⟩ x).heap[b]? = w.heap[b]? := heap_setCell_other w ⟨P, j, none⟩ b x hne
    rw [World.cell?_of_block (a := ⟨b, off + i * 8 + f, none⟩) hb]
    exact h5 i N hN f hf
theorem Reads8.put8 {w : World} {v : Value} {L : List (Nat → Int)} (h : Reads8 w v L) {P : Nat} (hP : v.ownBlock ≠ some P) (M : Nat → Int) : Reads8 (put8 w P M) v L :=
  (((((((h.far hP 0 _).far hP 1 _).far hP 2 _).far hP 3 _).far hP 4 _).far hP 5 _).far hP 6 _).far hP 7 _
/-- the place of a list of counts that is not empty. -/
theorem Reads8.place {w : World} {v : Value} {L : List (Nat → Int)} (h : Reads8 w v L) (h0 : 0 < L.length) : ∃ b off cap, v = .slice (some ⟨b, off, none⟩) L.length cap ∧ L.length ≤ cap ∧ ∀ i N, L[i]? = some N → CntAt w b (off + i * 8) N := by
  rcases h with ⟨ao, cap, rfl, rfl⟩ | ⟨b, off, cap, rfl, h2, h3, h4, h5⟩
  · simp at h0
  · exact ⟨b, off, cap, rfl, h4.2, h5⟩
theorem Reads8.at {w : World} {b off n cap : Nat} {L : List (Nat → Int)} (h : Reads8 w (.slice (some ⟨b, off, none⟩) n cap) L) (hn : L.length = n) {i : Nat} {N : Nat → Int} (hN : L[i]? = some N) : CntAt w b (off + i * 8) N := by
  rcases h with ⟨ao, c, hv, rfl⟩ | ⟨b', off', cap', hv, h2, h3, h4, h5⟩
  · simp at hN
  · obtain ⟨h1, h2', h3'⟩ := Value.slice.inj hv
    obtain ⟨rfl, rfl, _⟩ := Addr.mk.inj (Option.some.inj h1)
    exact h5 i N hN
theorem CntAt.cells {w : World} {b off : Nat} {N : Nat → Int} (h : CntAt w b off N) : w.cell? ⟨b, off, none⟩ = some (.int .i64 (N 0)) ∧ w.cell? ⟨b, off + 1, none⟩ = some (.int .i64 (N 1)) ∧ w.cell? ⟨b, off + 2, none⟩ = some (.int .i64 (N 2)) ∧ w.cell? ⟨b, off + 3, none⟩ = some (.int .i64 (N 3)) ∧ w.cell? ⟨b, off + 4, none⟩ = some (.int .i64 (N 4)) ∧ w.cell? ⟨b, off + 5, none⟩ = some (.int .i64 (N 5)) ∧ w.cell? ⟨b, off + 6, none⟩ = some (.int .i64 (N 6)) ∧ w.cell? ⟨b, off + 7, none⟩ = some (.int .i64 (N 7)) :=
  ⟨h 0 (by omega), h 1 (by omega), h 2 (by omega), h 3 (by omega), h 4 (by omega), h 5 (by omega), h 6 (by omega), h 7 (by omega)⟩
theorem allF_pos (r : Nat) : ∀ (u : Nat) (N : Nat → Int), 0 < (allF r u N).length := by
  induction r with
  | zero => intro u N; simp [allF]
  | succ r ih =>
    intro u N
    have h := ih u (putN N (6 - r) (0 : Nat))
    have hm : ∀ M ∈ allF r (u - 0) (putN N (6 - r) (0 : Nat)), M ∈ allF (r + 1) u N := fun M hM => by
      unfold allF; rw [List.mem_flatMap]; exact ⟨0, List.mem_range.2 (by omega), hM⟩
    obtain ⟨M, hM⟩ := List.exists_mem_of_length_pos (show 0 < (allF r (u - 0) (putN N (6 - r) (0 : Nat))).length from h)
    exact List.length_pos_of_mem (hm M hM)
theorem everyC_pos (u : Nat) : 0 < (everyC u).length := allF_pos 7 u _
/-- what is told of the next ones, so far. -/
def nextE (o : Option (Nat → Int)) : Int := if o.isSome = true then 0 else 5
theorem nextTo_step (A : List (Nat → Int)) (q : (Nat → Int) → Bool) (i : Nat) : nextTo A q (i + 1) = if q (A.getD i zeroC) = true then some (A.getD (i + 1) zeroC) else nextTo A q i := rfl
theorem getD_at {A : List (Nat → Int)} {i : Nat} (h : i < A.length) : A[i]? = some (A.getD i zeroC) := by
  rw [List.getD_eq_getElem?_getD, List.getElem?_eq_getElem h]; rfl
end Go.Proofs.YtedgbohobgnedadDoor
