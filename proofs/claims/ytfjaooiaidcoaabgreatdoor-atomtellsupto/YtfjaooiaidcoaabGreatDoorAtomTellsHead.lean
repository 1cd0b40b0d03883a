/-
  Proved: what ReadAtom and Parse return where vennlaw1.AtomTells calls them, of one text (contracts that its walk leans on).
-/
import Derived.Test.YtfjaooiaidcoaabGreatDoorAtomRefReadAny
import Derived.Test.YtfjaooiaidcoaabGreatDoorAtomRefText
import Derived.Test.YtfjaooiaidcoaabGreatDoorAtomRefHolds
import Derived.Test.YtfjaooiaidcoaabGreatDoorAtomBackHead
import Derived.Test.YtfjaooiaidcoaabGreatDoorSame
namespace Go.Proofs.YtfjaooiaidcoaabGreatDoor
open Go.ChangeShapes Go.WideShapes Go.ChangeAt Go.RowKit
set_option maxRecDepth 100000

theorem errA_nil (w : World) : Calls Tryz.prog 6 #[.nilIface, .int .i64 0] w fun e w' => e = .returned (.bool true) ∧ w = w' := same_nil 0 w
theorem errA_one (m : Int) (w : World) (hg : Laid w) : Calls Tryz.prog 6 #[.iface 51 (.int .i64 m), .int .i64 m] w fun e w' => e = .returned (.bool true) ∧ Below w.heap.size w w' := by
  have := same_err m m w hg
  rw [beq_self_eq_true] at this; exact this
theorem atom_none (w : World) : Calls Tryz.prog 15 #[.agg #[.int .i64 0, .slice none 0 0, .slice none 0 0, .int .i64 0], .agg #[.int .i64 0, .slice none 0 0, .slice none 0 0, .int .i64 0]] w fun e w' => e = .returned (.bool true) ∧ Below w.heap.size w w' :=
  atom_same 0 0 _ _ _ _ [] [] w (reads_nil w) (reads_nil w) (reads_nil w) (reads_nil w)
theorem seen_fault (s : ByteArray) : wordsFault (seen s) = wordsFault (cutL s.data.toList) := by
  rcases seen_cut s with h | ⟨h1, h2⟩
  · rw [h]
  · rw [h1, h2]
theorem seen_good {s : ByteArray} (h : wordsFault (cutL s.data.toList) = 0) : seen s = cutL s.data.toList := by
  rcases seen_cut s with h1 | ⟨_, h2⟩
  · exact h1
  · rw [h] at h2; cases h2
/-- ReadAtom of a text that is an atom. -/
theorem readAtom_good (s : ByteArray) (hz : s.size ≤ 1048576) {k n : Int} {p q : List Int} (h : wordsFault (cutL s.data.toList) = 0) (hk : wordsKind (cutL s.data.toList) = k) (hp : wordsS (cutL s.data.toList) = p) (hq : wordsT k (cutL s.data.toList) = q) (hn : wordsN k (cutL s.data.toList) = n) (w : World) :
    Calls Tryz.prog 13 #[.string s] w fun e w' => ∃ a0 c0 a1 c1, e = .returned (.tuple #[.agg #[.int .i64 k, .slice a0 p.length c0, .slice a1 q.length c1, .int .i64 n], .int .i64 0]) ∧ Reads w' (.slice a0 p.length c0) p ∧ Reads w' (.slice a1 q.length c1) q ∧ Below w.heap.size w w' := by
  refine (readAtom_any s hz w).mono ?_
  rintro e w' ⟨a, rfl, hg, _, hb⟩
  obtain ⟨v0, v1, rfl, r0, r1⟩ := hg h
  rw [h, hk]
  rw [hk] at r1
  rw [hp] at r0
  rw [hq] at r1
  rw [hn]
  obtain ⟨a0, c0, rfl, _⟩ := r0.slice
  obtain ⟨a1, c1, rfl, _⟩ := r1.slice
  exact ⟨a0, c0, a1, c1, rfl, r0, r1, hb⟩
/-- .. of one that is none. -/
theorem readAtom_bad (s : ByteArray) (hz : s.size ≤ 1048576) (h : ¬ wordsFault (cutL s.data.toList) = 0) (w : World) :
    Calls Tryz.prog 13 #[.string s] w fun e w' => e = .returned (.tuple #[.agg #[.int .i64 0, .slice none 0 0, .slice none 0 0, .int .i64 0], .int .i64 (wordsFault (cutL s.data.toList))]) ∧ Below w.heap.size w w' := by
  refine (readAtom_any s hz w).mono ?_
  rintro e w' ⟨a, rfl, _, hg, hb⟩
  rw [hg h]
  exact ⟨rfl, hb⟩
end Go.Proofs.YtfjaooiaidcoaabGreatDoor
