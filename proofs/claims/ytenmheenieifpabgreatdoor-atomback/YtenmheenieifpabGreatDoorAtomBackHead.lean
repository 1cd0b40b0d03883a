/-
  Proved: what Parse, Print and Holds of package atom return where vennlaw1.AtomBack calls them (contracts that its walk leans on).
-/
import Derived.Test.YtenmheenieifpabGreatDoorAtomParseAny
import Derived.Test.YtenmheenieifpabGreatDoorAtomPrint
import Derived.Test.YtenmheenieifpabGreatDoorAtomSame
import Derived.Test.YtenmheenieifpabGreatDoorAtomHolds
import Derived.Test.YtenmheenieifpabGreatDoorAtomBackFacts
import Derived.Test.YtenmheenieifpabGreatDoorSets
namespace Go.Proofs.YtenmheenieifpabGreatDoor
open Go.ChangeShapes Go.WideShapes Go.ChangeAt Go.RowKit
set_option maxRecDepth 100000

/-- what a walk carries from world to world: below K all is as it was in w1. -/
def Car (K : Nat) (w1 w : World) : Prop := Below K w1 w ∧ K ≤ w.heap.size
theorem Car.step {K : Nat} {w1 w w' : World} (h : Car K w1 w) (hb : Below w.heap.size w w') : Car K w1 w' := ⟨h.1.trans (hb.mono h.2), Nat.le_trans h.2 hb.size⟩

/-- Parse of a text that is an atom. -/
theorem aparse_good (s : ByteArray) (hz : s.size ≤ 9223372036854775806) {k n : Int} {p q : List Int} (h : wordsFault (seen s) = 0) (hk : wordsKind (seen s) = k) (hp : wordsS (seen s) = p) (hq : wordsT k (seen s) = q) (hn : wordsN k (seen s) = n) (w : World) (hK : KindsLaid w) (hL : LibLaid w) :
    Calls Tryz.prog 14 #[.string s] w fun e w' => ∃ a0 c0 a1 c1, e = .returned (.tuple #[.agg #[.int .i64 k, .slice a0 p.length c0, .slice a1 q.length c1, .int .i64 n], .nilIface]) ∧ Reads w' (.slice a0 p.length c0) p ∧ Reads w' (.slice a1 q.length c1) q ∧ Below w.heap.size w w' := by
  refine (aparse_any s hz w hK hL).mono ?_
  rintro e w' ⟨a, rfl, hg, _, hb⟩
  obtain ⟨v0, v1, rfl, r0, r1⟩ := hg h
  rw [h, errV_0, hk]
  rw [hk] at r1
  rw [hp] at r0
  rw [hq] at r1
  rw [hn]
  obtain ⟨a0, c0, rfl, _⟩ := r0.slice
  obtain ⟨a1, c1, rfl, _⟩ := r1.slice
  exact ⟨a0, c0, a1, c1, rfl, r0, r1, hb⟩
/-- .. of one that is none. -/
theorem aparse_none (s : ByteArray) (hz : s.size ≤ 9223372036854775806) (h : ¬ wordsFault (seen s) = 0) (w : World) (hK : KindsLaid w) (hL : LibLaid w) :
    Calls Tryz.prog 14 #[.string s] w fun e w' => e = .returned (.tuple #[.agg #[.int .i64 0, .slice none 0 0, .slice none 0 0, .int .i64 0], .iface 51 (.int .i64 (wordsFault (seen s)))]) ∧ Below w.heap.size w w' := by
  refine (aparse_any s hz w hK hL).mono ?_
  rintro e w' ⟨a, rfl, _, hg, hb⟩
  rw [hg h, errV_no h]
  exact ⟨rfl, hb⟩
/-- .. of nomore A B -3. -/
theorem aparse_fact (w : World) (hK : KindsLaid w) (hL : LibLaid w) :
    Calls Tryz.prog 14 #[.string { data := #[110, 111, 109, 111, 114, 101, 32, 65, 32, 66, 32, 45, 51] }] w fun e w' => ∃ a0 l0 c0 b o c, e = .returned (.tuple #[.agg #[.int .i64 5, .slice a0 l0 c0, .slice (some ⟨b, o, none⟩) 1 c, .int .i64 (-3)], .nilIface]) ∧ b < w'.heap.size ∧ w'.cell? ⟨b, o, none⟩ = some (.int .i64 1) ∧ Below w.heap.size w w' := by
  obtain ⟨h0, h1, h2, h3⟩ := words_fact
  refine (aparse_good { data := #[110, 111, 109, 111, 114, 101, 32, 65, 32, 66, 32, 45, 51] } (by decide) h0 h1 rfl h2 h3 w hK hL).mono ?_
  rintro e w' ⟨a0, c0, a1, c1, he, r0, r1, hb⟩
  rcases r1 with ⟨_, _, _, h⟩ | ⟨b, o, c, hv, hB, _, _, hc⟩
  · cases h
  · cases hv
    exact ⟨a0, _, c0, b, o, _, he, hB, hc 0 (by decide), hb⟩
/-- Print of what Parse read. -/
theorem aprint_text (k n : Int) (vs vt : Value) (s t : List Int) (P : ByteArray) (h : atomFault k s t n = 0) (hP : strOf (atomText k s t n) = P) (w : World) (hS : Reads w vs s) (hT : Reads w vt t) (hK : KindsLaid w) (hL : LibLaid w) :
    Calls Tryz.prog 9 #[.agg #[.int .i64 k, vs, vt, .int .i64 n]] w fun e w' => e = .returned (.tuple #[.string P, .nilIface]) ∧ Below w.heap.size w w' := by
  have := aprint_any k n vs vt s t w hS hT hK hL
  have e : aprintS k s t n = P := by unfold aprintS; rw [if_pos h, hP]
  rw [e, h, errV_0] at this
  exact this
theorem aprint_none (k n : Int) (vs vt : Value) (s t : List Int) (h : ¬ atomFault k s t n = 0) (w : World) (hS : Reads w vs s) (hT : Reads w vt t) (hK : KindsLaid w) (hL : LibLaid w) :
    Calls Tryz.prog 9 #[.agg #[.int .i64 k, vs, vt, .int .i64 n]] w fun e w' => e = .returned (.tuple #[.string ⟨#[]⟩, .iface 51 (.int .i64 (atomFault k s t n))]) ∧ Below w.heap.size w w' := by
  have := aprint_any k n vs vt s t w hS hT hK hL
  have e : aprintS k s t n = ⟨#[]⟩ := by unfold aprintS; rw [if_neg h]
  rw [e, errV_no h] at this
  exact this

/-! ### Holds -/
theorem same_zero {W : Wd} {p q : List Int} (h : W.holdsFault 2 p q 0 = 0) : W.ok = true ∧ faultN p = 0 ∧ faultN q = 0 := by
  unfold Wd.holdsFault at h
  by_cases h1 : atomFault 2 p q 0 = 0
  · rw [if_pos h1] at h
    obtain ⟨_, hp, hq, _⟩ := atomFault_zero.1 h1
    refine ⟨?_, hp, second_reads hq (by decide)⟩
    by_cases h2 : W.ok = true
    · exact h2
    · rw [if_neg h2] at h; cases h
  · rw [if_neg h1] at h; exact absurd h h1
theorem two_fault {k : Int} (hk : k = 1 ∨ k = 2) {p q : List Int} (hp : faultN p = 0) (hq : faultN q = 0) : atomFault k p q 0 = 0 := by
  refine atomFault_zero.2 ⟨by omega, hp, ?_, ?_⟩
  · unfold secondFault
    rcases hk with rfl | rfl <;> exact hq
  · unfold mostN
    rcases hk with rfl | rfl <;> exact ⟨by decide, by decide⟩
theorem one_fault {k n : Int} (hk : k = 3 ∨ k = 4) (h0 : -20 ≤ n) (h1 : n ≤ 20) {p : List Int} (hp : faultN p = 0) : atomFault k p [] n = 0 := by
  refine atomFault_zero.2 ⟨by omega, hp, ?_, ?_⟩
  · rcases hk with rfl | rfl <;> rfl
  · unfold mostN
    rcases hk with rfl | rfl <;> exact ⟨by simp [numberB]; omega, by simp [numberB]; omega⟩
theorem holds_good (k n : Int) (vs vt : Value) (s t : List Int) (u a b c : Int) (x : Bool) (hw : (Wd.mk u a b c).ok = true) (hf : atomFault k s t n = 0) (hx : (Wd.mk u a b c).holds k s t n = x) (w : World) (hS : Reads w vs s) (hT : Reads w vt t) (hK : KindsLaid w) :
    Calls Tryz.prog 12 #[.agg #[.int .i64 k, vs, vt, .int .i64 n], .agg #[.int .i64 u, .int .i64 a, .int .i64 b, .int .i64 c]] w fun e w' => e = .returned (.tuple #[.bool x, .nilIface]) ∧ Below w.heap.size w w' := by
  have := aholds_any k n vs vt s t u a b c w hS hT hK
  have e0 : (Wd.mk u a b c).holdsFault k s t n = 0 := by unfold Wd.holdsFault; rw [if_pos hf, if_pos hw]
  have e1 : (Wd.mk u a b c).holdsIs k s t n = x := by unfold Wd.holdsIs; rw [if_pos e0, hx]
  rw [e0, e1, errV_0] at this
  exact this
theorem holds_none (k n : Int) (vs vt : Value) (s t : List Int) (u a b c : Int) (h : ¬ (Wd.mk u a b c).holdsFault k s t n = 0) (w : World) (hS : Reads w vs s) (hT : Reads w vt t) (hK : KindsLaid w) :
    Calls Tryz.prog 12 #[.agg #[.int .i64 k, vs, vt, .int .i64 n], .agg #[.int .i64 u, .int .i64 a, .int .i64 b, .int .i64 c]] w fun e w' => e = .returned (.tuple #[.bool false, .iface 51 (.int .i64 ((Wd.mk u a b c).holdsFault k s t n))]) ∧ Below w.heap.size w w' := by
  have := aholds_any k n vs vt s t u a b c w hS hT hK
  have e1 : (Wd.mk u a b c).holdsIs k s t n = false := by unfold Wd.holdsIs; rw [if_neg h]
  rw [e1, errV_no h] at this
  exact this
theorem reads_nil (w : World) : Reads w (.slice none 0 0) [] := Or.inl ⟨none, 0, rfl, rfl⟩
end Go.Proofs.YtenmheenieifpabGreatDoor
