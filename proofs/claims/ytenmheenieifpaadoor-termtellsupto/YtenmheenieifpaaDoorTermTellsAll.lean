/-
  Proved: whatever the arguments (the text of at most 1048576 bytes), vennlaw1.TermTells returns true, and what was in memory is as it was: the cases put together.
-/
import Derived.Test.YtenmheenieifpaaDoorTermTellsWalk
namespace Go.Proofs.YtenmheenieifpaaDoor
open Go.ChangeShapes Go.WideShapes Go.ChangeAt Go.RowKit

theorem termTells_walk (t : List Int) (v : Value) (u a b c : Int) (s : ByteArray) (w : World) (hR : Reads w v t) (hz : s.size ≤ 1048576) (hL : Laid w) :
    Calls Tryd.prog 5 #[v, .agg #[.int .i64 u, .int .i64 a, .int .i64 b, .int .i64 c], .string s] w fun e w' => e = .returned (.bool true) ∧ Below w.heap.size w w' := by
  have hsc : lettersB s.data.toList = false ∨ (lettersB s.data.toList = true ∧ ¬ faultN (readN s.data.toList) = 0) ∨ (lettersB s.data.toList = true ∧ faultN (readN s.data.toList) = 0) := by
    cases hl : lettersB s.data.toList
    · exact Or.inl rfl
    · by_cases h : faultN (readN s.data.toList) = 0
      · exact Or.inr (Or.inr ⟨rfl, h⟩)
      · exact Or.inr (Or.inl ⟨rfl, h⟩)
  by_cases hf : faultN t = 0
  · have hR' := hR
    rcases hR with ⟨ao, cap, rfl, rfl⟩ | ⟨B, off, cap, rfl, hB, _, ⟨_, hle⟩, hc⟩
    · exact absurd hf (by decide)
    have hLi : Lies w B off t := ⟨hB, hc⟩
    by_cases hok : (Wd.mk u a b c).ok = true
    · rcases hsc with hs | ⟨hs, hs2⟩ | ⟨hs, hs2⟩
      · exact termTells_good_syn t B off _ cap s u a b c w hR' rfl hle hLi hL hz hf hok hs
      · exact termTells_good_bad t B off _ cap s u a b c w hR' rfl hle hLi hL hz hf hok hs hs2
      · exact termTells_good_good t B off _ cap s u a b c w hR' rfl hle hLi hL hz hf hok hs hs2
    · rcases hsc with hs | ⟨hs, hs2⟩ | ⟨hs, hs2⟩
      · exact termTells_wd_syn t B off _ cap s u a b c w hR' rfl hle hLi hL hz hf hok hs
      · exact termTells_wd_bad t B off _ cap s u a b c w hR' rfl hle hLi hL hz hf hok hs hs2
      · exact termTells_wd_good t B off _ cap s u a b c w hR' rfl hle hLi hL hz hf hok hs hs2
  · rcases hsc with hs | ⟨hs, hs2⟩ | ⟨hs, hs2⟩
    · exact termTells_bad_syn t v s u a b c w hR hL hz hf hs
    · exact termTells_bad_bad t v s u a b c w hR hL hz hf hs hs2
    · exact termTells_bad_good t v s u a b c w hR hL hz hf hs hs2
end Go.Proofs.YtenmheenieifpaaDoor
