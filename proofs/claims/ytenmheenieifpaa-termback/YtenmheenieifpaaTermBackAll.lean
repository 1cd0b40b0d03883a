/-
  Proved: whatever the arguments, vennlaw1.TermBack returns true, and what was in memory is as it was: the cases put together.
-/
import Derived.Test.YtenmheenieifpaaTermBackWalk
namespace Go.Proofs.Ytenmheenieifpaa
open Go.ChangeShapes Go.WideShapes Go.ChangeAt Go.RowKit

theorem reads_shape {w : World} {v : Value} {t : List Int} (h : Reads w v t) : ∃ ao cap, v = .slice ao t.length cap := by
  rcases h with ⟨ao, cap, rfl, rfl⟩ | ⟨B, off, cap, rfl, _⟩
  · exact ⟨ao, cap, rfl⟩
  · exact ⟨_, cap, rfl⟩
theorem fault_cases (w : Wd) (t : List Int) : (errV (w.fault t) = .nilIface ∧ faultN t = 0 ∧ w.ok = true) ∨ (∃ m, errV (w.fault t) = .iface 23 (.int .i64 m)) := by
  by_cases hf : w.fault t = 0
  · left
    refine ⟨by rw [hf]; rfl, ?_⟩
    unfold Wd.fault at hf
    by_cases h1 : faultN t = 0
    · rw [if_pos h1] at hf
      by_cases h2 : w.ok = true
      · exact ⟨h1, h2⟩
      · rw [if_neg h2] at hf; exact absurd hf (by decide)
    · rw [if_neg h1] at hf; exact absurd hf h1
  · right; exact ⟨w.fault t, by unfold errV; rw [if_neg hf]⟩

theorem termBack_walk (t : List Int) (v : Value) (s : ByteArray) (u a b c : Int) (r : List Int) (vr : Value) (what : Int) (w : World) (hR : Reads w v t) (hz : s.size ≤ 9223372036854775807) (hRr : Reads w vr r) :
    Calls Try.prog 5 #[v, .string s, .agg #[.int .i64 u, .int .i64 a, .int .i64 b, .int .i64 c], vr, .int .i64 what] w fun e w' => e = .returned (.bool true) ∧ Below w.heap.size w w' := by
  by_cases hf : faultN t = 0
  · have h12 := (fault_zero.1 hf).2.1
    have hR' := hR
    rcases hR with ⟨ao, cap, rfl, rfl⟩ | ⟨B, off, cap, rfl, hB, _, ⟨_, hcp⟩, hc⟩
    · exact absurd hf (by decide)
    obtain ⟨ar, cr, hvr⟩ := reads_shape hRr
    rcases fault_cases (Wd.mk u a b c) t with ⟨hE, _, hok⟩ | ⟨m, hE⟩
    · rcases fault_cases (Wd.mk u a b c) r with ⟨hE2, hfr, _⟩ | ⟨m, hE2⟩
      · have hlr := (fault_zero.1 hfr).2.1
        by_cases hq : (11 : Int) < (t.length : Int) + (r.length : Int)
        · by_cases hs : textFault s.data.toList = 0
          · exact termBack_len_good t r B off _ cap vr ar _ cr hvr s u a b c what _ _ w hR' hRr h12 hlr hz hs hf rfl rfl hE hE2 hq
          · exact termBack_len_bad t r B off _ cap vr ar _ cr hvr s u a b c what _ _ w hR' hRr h12 hlr hz hs hf rfl rfl hE hE2 hq
        by_cases h5 : what < 5
        · by_cases hs : textFault s.data.toList = 0
          · exact termBack_low_good t r B off _ cap vr ar _ cr hvr s u a b c what _ _ w hR' hRr h12 hlr hz hs hf rfl rfl hE hE2 hq h5
          · exact termBack_low_bad t r B off _ cap vr ar _ cr hvr s u a b c what _ _ w hR' hRr h12 hlr hz hs hf rfl rfl hE hE2 hq h5
        by_cases h7 : 7 < what
        · by_cases hs : textFault s.data.toList = 0
          · exact termBack_high_good t r B off _ cap vr ar _ cr hvr s u a b c what _ _ w hR' hRr h12 hlr hz hs hf rfl rfl hE hE2 hq h5 h7
          · exact termBack_high_bad t r B off _ cap vr ar _ cr hvr s u a b c what _ _ w hR' hRr h12 hlr hz hs hf rfl rfl hE hE2 hq h5 h7
        rcases hRr with ⟨ao, cap, rfl, rfl⟩ | ⟨Br, offr, cr, rfl, hBr, _, ⟨_, hcpr⟩, hcr⟩
        · exact absurd hfr (by decide)
        by_cases hs : textFault s.data.toList = 0
        · exact termBack_in_good t r B off _ cap Br offr _ cr s u a b c what w rfl rfl hB hBr hcp hcpr hc hcr hz hs hf hfr hok (by omega) (by omega) (by omega)
        · exact termBack_in_bad t r B off _ cap Br offr _ cr s u a b c what w rfl rfl hB hBr hcp hcpr hc hcr hz hs hf hfr hok (by omega) (by omega) (by omega)
      · by_cases hs : textFault s.data.toList = 0
        · exact termBack_e2_good t r B off _ cap vr ar _ cr hvr s u a b c what _ _ w hR' hRr h12 hz hs hf rfl rfl hE m hE2
        · exact termBack_e2_bad t r B off _ cap vr ar _ cr hvr s u a b c what _ _ w hR' hRr h12 hz hs hf rfl rfl hE m hE2
    · by_cases hs : textFault s.data.toList = 0
      · exact termBack_e1_good t r B off _ cap vr ar _ cr hvr s u a b c what _ _ w hR' hRr h12 hz hs hf rfl rfl m hE _ rfl
      · exact termBack_e1_bad t r B off _ cap vr ar _ cr hvr s u a b c what _ _ w hR' hRr h12 hz hs hf rfl rfl m hE _ rfl
  · by_cases hs : textFault s.data.toList = 0
    · exact termBack_bad_good t v vr s u a b c what w hR hz hs hf
    · exact termBack_bad_bad t v vr s u a b c what w hR hz hs hf
end Go.Proofs.Ytenmheenieifpaa
