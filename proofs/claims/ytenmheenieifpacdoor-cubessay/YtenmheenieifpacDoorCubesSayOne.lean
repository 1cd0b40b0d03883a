/-
  Proved: what the first formula of vennlaw1.CubesSay reads as where it is laid, and its cubes (facts that its walk leans on).
-/
import Derived.Test.YtenmheenieifpacDoorCubesSayHead
import Derived.Test.YtenmheenieifpacDoorCubesOf
import Derived.Test.YtenmheenieifpacDoorCubesHolds2
import Derived.Test.YtenmheenieifpacDoorFormHolds
namespace Go.Proofs.YtenmheenieifpacDoor
open Go.ChangeShapes Go.WideShapes Go.ChangeAt Go.RowKit
set_option maxRecDepth 100000

/-- the formula of two atoms: it is read where it was laid. -/
theorem say_one (w1 : World) (S : Nat) (hS : w1.heap.size = S) :
    Below w1.heap.size w1 (((((w1.alloc (.cells #[.int .i64 0] 3)).alloc (.cells #[.int .i64 1] 3)).alloc (.cells #[.int .i64 3, .slice (some ⟨S, 0, none⟩) 1 1, .slice none 0 0, .int .i64 1, .int .i64 4, .slice (some ⟨S + 1, 0, none⟩) 1 1, .slice none 0 0, .int .i64 2] 38)).alloc (.cells #[.int .i64 0, .int .i64 1, .int .i64 13] 3)).alloc (.cells #[.slice (some ⟨S + 1 + 1, 0, none⟩) 2 2, .slice (some ⟨S + 1 + 1 + 1, 0, none⟩) 3 3] 25)) ∧ (((((w1.alloc (.cells #[.int .i64 0] 3)).alloc (.cells #[.int .i64 1] 3)).alloc (.cells #[.int .i64 3, .slice (some ⟨S, 0, none⟩) 1 1, .slice none 0 0, .int .i64 1, .int .i64 4, .slice (some ⟨S + 1, 0, none⟩) 1 1, .slice none 0 0, .int .i64 2] 38)).alloc (.cells #[.int .i64 0, .int .i64 1, .int .i64 13] 3)).alloc (.cells #[.slice (some ⟨S + 1 + 1, 0, none⟩) 2 2, .slice (some ⟨S + 1 + 1 + 1, 0, none⟩) 3 3] 25)).heap.size = S + 5 ∧
    ReadsA (((((w1.alloc (.cells #[.int .i64 0] 3)).alloc (.cells #[.int .i64 1] 3)).alloc (.cells #[.int .i64 3, .slice (some ⟨S, 0, none⟩) 1 1, .slice none 0 0, .int .i64 1, .int .i64 4, .slice (some ⟨S + 1, 0, none⟩) 1 1, .slice none 0 0, .int .i64 2] 38)).alloc (.cells #[.int .i64 0, .int .i64 1, .int .i64 13] 3)).alloc (.cells #[.slice (some ⟨S + 1 + 1, 0, none⟩) 2 2, .slice (some ⟨S + 1 + 1 + 1, 0, none⟩) 3 3] 25)) (.slice (some ⟨S + 1 + 1, 0, none⟩) 2 2) [⟨3, [0], [], 1⟩, ⟨4, [1], [], 2⟩] ∧ Reads (((((w1.alloc (.cells #[.int .i64 0] 3)).alloc (.cells #[.int .i64 1] 3)).alloc (.cells #[.int .i64 3, .slice (some ⟨S, 0, none⟩) 1 1, .slice none 0 0, .int .i64 1, .int .i64 4, .slice (some ⟨S + 1, 0, none⟩) 1 1, .slice none 0 0, .int .i64 2] 38)).alloc (.cells #[.int .i64 0, .int .i64 1, .int .i64 13] 3)).alloc (.cells #[.slice (some ⟨S + 1 + 1, 0, none⟩) 2 2, .slice (some ⟨S + 1 + 1 + 1, 0, none⟩) 3 3] 25)) (.slice (some ⟨S + 1 + 1 + 1, 0, none⟩) 3 3) [0, 1, 13] ∧
    (((((w1.alloc (.cells #[.int .i64 0] 3)).alloc (.cells #[.int .i64 1] 3)).alloc (.cells #[.int .i64 3, .slice (some ⟨S, 0, none⟩) 1 1, .slice none 0 0, .int .i64 1, .int .i64 4, .slice (some ⟨S + 1, 0, none⟩) 1 1, .slice none 0 0, .int .i64 2] 38)).alloc (.cells #[.int .i64 0, .int .i64 1, .int .i64 13] 3)).alloc (.cells #[.slice (some ⟨S + 1 + 1, 0, none⟩) 2 2, .slice (some ⟨S + 1 + 1 + 1, 0, none⟩) 3 3] 25)).cell? ⟨S + 1 + 1 + 1 + 1, 0, none⟩ = some (.slice (some ⟨S + 1 + 1, 0, none⟩) 2 2) ∧ (((((w1.alloc (.cells #[.int .i64 0] 3)).alloc (.cells #[.int .i64 1] 3)).alloc (.cells #[.int .i64 3, .slice (some ⟨S, 0, none⟩) 1 1, .slice none 0 0, .int .i64 1, .int .i64 4, .slice (some ⟨S + 1, 0, none⟩) 1 1, .slice none 0 0, .int .i64 2] 38)).alloc (.cells #[.int .i64 0, .int .i64 1, .int .i64 13] 3)).alloc (.cells #[.slice (some ⟨S + 1 + 1, 0, none⟩) 2 2, .slice (some ⟨S + 1 + 1 + 1, 0, none⟩) 3 3] 25)).cell? ⟨S + 1 + 1 + 1 + 1, 1, none⟩ = some (.slice (some ⟨S + 1 + 1 + 1, 0, none⟩) 3 3) := by
  obtain ⟨v1, hv1⟩ : ∃ v1, v1 = w1.alloc (.cells #[.int .i64 0] 3) := ⟨_, rfl⟩
  obtain ⟨v2, hv2⟩ : ∃ v2, v2 = v1.alloc (.cells #[.int .i64 1] 3) := ⟨_, rfl⟩
  obtain ⟨v3, hv3⟩ : ∃ v3, v3 = v2.alloc (.cells #[.int .i64 3, .slice (some ⟨S, 0, none⟩) 1 1, .slice none 0 0, .int .i64 1, .int .i64 4, .slice (some ⟨S + 1, 0, none⟩) 1 1, .slice none 0 0, .int .i64 2] 38) := ⟨_, rfl⟩
  obtain ⟨v4, hv4⟩ : ∃ v4, v4 = v3.alloc (.cells #[.int .i64 0, .int .i64 1, .int .i64 13] 3) := ⟨_, rfl⟩
  obtain ⟨v5, hv5⟩ : ∃ v5, v5 = v4.alloc (.cells #[.slice (some ⟨S + 1 + 1, 0, none⟩) 2 2, .slice (some ⟨S + 1 + 1 + 1, 0, none⟩) 3 3] 25) := ⟨_, rfl⟩
  rw [← hv1, ← hv2, ← hv3, ← hv4, ← hv5]
  have t1 : v1.heap.size = S + 1 := by rw [hv1]; simp [hS]
  have t2 : v2.heap.size = S + 1 + 1 := by rw [hv2]; simp [t1]
  have t3 : v3.heap.size = S + 1 + 1 + 1 := by rw [hv3]; simp [t2]
  have t4 : v4.heap.size = S + 1 + 1 + 1 + 1 := by rw [hv4]; simp [t3]
  have t5 : v5.heap.size = S + 5 := by rw [hv5]; simp [t4]
  have k4 : Below v4.heap.size v4 v5 := by rw [hv5]; exact below_alloc1 _ _
  have k3 : Below v3.heap.size v3 v5 := (by rw [hv4]; exact below_alloc1 _ _ : Below v3.heap.size v3 v4).trans (k4.mono (by omega))
  have k2 : Below v2.heap.size v2 v5 := (by rw [hv3]; exact below_alloc1 _ _ : Below v2.heap.size v2 v3).trans (k3.mono (by omega))
  have k1 : Below v1.heap.size v1 v5 := (by rw [hv2]; exact below_alloc1 _ _ : Below v1.heap.size v1 v2).trans (k2.mono (by omega))
  have k0 : Below w1.heap.size w1 v5 := (by rw [hv1]; exact below_alloc1 _ _ : Below w1.heap.size w1 v1).trans (k1.mono (by omega))
  have c1 : v5.cell? ⟨S, 0, none⟩ = some (.int .i64 0) := by rw [k1.cell (show (⟨S, 0, none⟩ : Addr).block < _ by simp; omega), hv1, ← hS]; simp
  have c2 : v5.cell? ⟨S + 1, 0, none⟩ = some (.int .i64 1) := by rw [k2.cell (show (⟨S + 1, 0, none⟩ : Addr).block < _ by simp; omega), hv2, ← t1]; simp
  have c3 : ∀ j, v5.cell? ⟨S + 1 + 1, j, none⟩ = (#[.int .i64 3, .slice (some ⟨S, 0, none⟩) 1 1, .slice none 0 0, .int .i64 1, .int .i64 4, .slice (some ⟨S + 1, 0, none⟩) 1 1, .slice none 0 0, .int .i64 2] : Array Value)[j]? := fun j => by rw [k3.cell (show (⟨S + 1 + 1, j, none⟩ : Addr).block < _ by simp; omega), hv3, ← t2]; simp
  have c4 : ∀ j, v5.cell? ⟨S + 1 + 1 + 1, j, none⟩ = (#[.int .i64 0, .int .i64 1, .int .i64 13] : Array Value)[j]? := fun j => by rw [k4.cell (show (⟨S + 1 + 1 + 1, j, none⟩ : Addr).block < _ by simp; omega), hv4, ← t3]; simp
  have c5 : ∀ j, v5.cell? ⟨S + 1 + 1 + 1 + 1, j, none⟩ = (#[.slice (some ⟨S + 1 + 1, 0, none⟩) 2 2, .slice (some ⟨S + 1 + 1 + 1, 0, none⟩) 3 3] : Array Value)[j]? := fun j => by rw [hv5, ← t4]; simp
  refine ⟨k0, t5, Or.inr ⟨S + 1 + 1, 0, 2, rfl, by omega, by simp, ⟨by simp, by simp⟩, fun i a ha => ?_⟩, Or.inr ⟨S + 1 + 1 + 1, 0, 3, rfl, by omega, by simp, ⟨by simp, by simp⟩, fun k hk => ?_⟩, by rw [c5]; rfl, by rw [c5]; rfl⟩
  · have hi := (List.getElem?_eq_some_iff.1 ha).1
    have hi2 : i = 0 ∨ i = 1 := by simp at hi; omega
    rcases hi2 with rfl | rfl
    · simp at ha; subst ha
      refine ⟨_, _, by rw [c3]; rfl, by rw [c3]; rfl, by rw [c3]; rfl, by rw [c3]; rfl, Or.inr ⟨S, 0, 1, rfl, by omega, by simp, ⟨by simp, by simp⟩, fun k hk => ?_⟩, Or.inl ⟨none, 0, rfl, rfl⟩⟩
      obtain rfl : k = 0 := by simpa using hk
      exact c1
    · simp at ha; subst ha
      refine ⟨_, _, by rw [c3]; rfl, by rw [c3]; rfl, by rw [c3]; rfl, by rw [c3]; rfl, Or.inr ⟨S + 1, 0, 1, rfl, by omega, by simp, ⟨by simp, by simp⟩, fun k hk => ?_⟩, Or.inl ⟨none, 0, rfl, rfl⟩⟩
      obtain rfl : k = 0 := by simpa using hk
      exact c2
  · have hk3 : k = 0 ∨ k = 1 ∨ k = 2 := by simp at hk; omega
    rw [Nat.zero_add, c4]
    rcases hk3 with rfl | rfl | rfl <;> rfl
theorem rs2_two {S : Nat → Prop} {w : World} {v : Value} {x y : Int} (h : RS2 S w v [[x], [y]]) : ∃ b off cap b1 f1 q1 b2 f2 q2, v = .slice (some ⟨b, off, none⟩) 2 cap ∧ w.cell? ⟨b, off, none⟩ = some (.slice (some ⟨b1, f1, none⟩) 1 q1) ∧ w.cell? ⟨b1, f1, none⟩ = some (.int .i64 x) ∧ w.cell? ⟨b, off + 1, none⟩ = some (.slice (some ⟨b2, f2, none⟩) 1 q2) ∧ w.cell? ⟨b2, f2, none⟩ = some (.int .i64 y) := by
  have one : ∀ u z, RS S w u [z] → ∃ b off cap, u = .slice (some ⟨b, off, none⟩) 1 cap ∧ w.cell? ⟨b, off, none⟩ = some (.int .i64 z) := fun u z h => by
    rcases h with ⟨_, _, _, h0⟩ | ⟨b, off, cap, rfl, _, _, _, hc⟩
    · cases h0
    · exact ⟨b, off, cap, rfl, hc 0 (by simp)⟩
  rcases h with ⟨_, _, _, h0⟩ | ⟨b, off, cap, rfl, _, _, _, hc⟩
  · cases h0
  · obtain ⟨u0, h0, r0⟩ := hc 0 [x] rfl
    obtain ⟨u1, h1, r1⟩ := hc 1 [y] rfl
    obtain ⟨b1, f1, q1, rfl, d1⟩ := one u0 x r0
    obtain ⟨b2, f2, q2, rfl, d2⟩ := one u1 y r1
    exact ⟨b, off, cap, b1, f1, q1, b2, f2, q2, rfl, h0, d1, h1, d2⟩
theorem getD_mem {c : List Int} {j : Nat} (h : j < c.length) : c.getD j 0 ∈ c := by
  rw [List.getD_eq_getElem?_getD, List.getElem?_eq_getElem h]; exact List.getElem_mem h
theorem rising_at {M : Nat} {c : List Int} (h : cubeOk M c) {j : Nat} (hj : j + 1 < c.length) : (c.getD j 0).natAbs < (c.getD (j + 1) 0).natAbs := by
  have := (List.pairwise_iff_getElem.1 h.2) j (j + 1) (by omega) hj (by omega)
  simpa [List.getD_eq_getElem?_getD, List.getElem?_eq_getElem hj, List.getElem?_eq_getElem (show j < c.length by omega)] using this
theorem differ_at {L : List (List Int)} (h : L.Nodup) {i k : Nat} (hi : i < L.length) (hk : k < i) : (L.getD i [] == L.getD k []) = false := by
  have := (List.pairwise_iff_getElem.1 h) k i (by omega) hi hk
  simp [List.getD_eq_getElem?_getD, List.getElem?_eq_getElem hi, List.getElem?_eq_getElem (show k < L.length by omega)]
  exact fun e => this e.symm
theorem members_ok {M : Nat} {L : List (List Int)} (h : okL M L) : L.any (fun t => t.any (badM M)) = false := by
  rw [← Bool.not_eq_true, List.any_eq_true]
  rintro ⟨t, ht, hb⟩
  rw [List.any_eq_true] at hb
  obtain ⟨m, hm, hbm⟩ := hb
  have := (h.1 t ht).1 m hm
  unfold badM at hbm
  simp at hbm
  omega
end Go.Proofs.YtenmheenieifpacDoor
