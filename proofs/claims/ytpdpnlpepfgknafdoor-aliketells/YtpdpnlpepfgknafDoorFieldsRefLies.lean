/-
  Proved: what the reference's Lies returns, of a right term and a field; what was in memory is as it was (a contract that the statements lean on).
-/
import Derived.Test.YtpdpnlpepfgknafDoorFieldsMade
import Derived.Test.YtpdpnlpepfgknafDoorTermInOne
namespace Go.Proofs.YtpdpnlpepfgknafDoor
open Go.ChangeShapes Go.WideShapes Go.ChangeAt Go.RowKit

/-- one thing, which lies in field f. -/
def oneN (f : Nat) : Nat → Int := fun g => if g = f then 1 else 0
theorem oneN_right : ∀ f : Nat, f < 8 → countsFault (oneN f) = 0 := by decide +kernel
theorem oneN_made : ∀ f : Nat, f < 8 → (madeN (oneN f) 8).u = 1 ∧ (madeN (oneN f) 8).a = (oneW f).a ∧ (madeN (oneN f) 8).b = (oneW f).b ∧ (madeN (oneN f) 8).c = (oneW f).c := by decide +kernel
theorem made_one (f : Nat) (hf : f < 8) (w : World) :
    Calls Tryd.prog 15 #[.agg #[.int .i64 (oneN f 0), .int .i64 (oneN f 1), .int .i64 (oneN f 2), .int .i64 (oneN f 3), .int .i64 (oneN f 4), .int .i64 (oneN f 5), .int .i64 (oneN f 6), .int .i64 (oneN f 7)]] w fun e w' => e = .returned (.agg #[.int .i64 1, .int .i64 (oneW f).a, .int .i64 (oneW f).b, .int .i64 (oneW f).c]) ∧ Below w.heap.size w w' := by
  have := refMade_right (oneN f) w (oneN_right f hf)
  obtain ⟨e0, e1, e2, e3⟩ := oneN_made f hf
  have e : arrW (madeN (oneN f) 8) = #[.int .i64 1, .int .i64 (oneW f).a, .int .i64 (oneW f).b, .int .i64 (oneW f).c] := by
    unfold arrW; rw [e0, e1, e2, e3]
  rw [e] at this
  exact this

set_option maxRecDepth 100000 in
set_option maxHeartbeats 4000000 in
theorem refLies_any (t : List Int) (hft : faultN t = 0) (v : Value) (f : Nat) (hf : f < 8) (w : World) (h : Reads w v t) :
    Calls Tryd.prog 19 #[v, .int .i64 f] w fun e w' => e = .returned (.bool (liesB t f)) ∧ Below w.heap.size w w' := by
  rcases h with ⟨ao, cap, rfl, rfl⟩ | ⟨B, off, cap, rfl, hB, h0, ⟨_, hcap⟩, hc⟩
  · exact absurd hft (by decide)
  have HI : Hid (∀ W, Below w.heap.size w W → Calls Tryd.prog 38 #[.slice (some ⟨B, off, none⟩) t.length cap, .agg #[.int .i64 1, .int .i64 (oneW f).a, .int .i64 (oneW f).b, .int .i64 (oneW f).c], .int .i64 0] W fun e w' => e = .returned (.bool (liesB t f)) ∧ Below W.heap.size W w') := fun W hb =>
    In_any t hft 0 1 (oneW f).a (oneW f).b (oneW f).c (oneW_ok f) (by decide) B off cap hcap W (Lies.below ⟨hB, hc⟩ hb)
  have HM : Hid (∀ W, Calls Tryd.prog 15 #[.agg #[.int .i64 (oneN f 0), .int .i64 (oneN f 1), .int .i64 (oneN f 2), .int .i64 (oneN f 3), .int .i64 (oneN f 4), .int .i64 (oneN f 5), .int .i64 (oneN f 6), .int .i64 (oneN f 7)]] W fun e w' => e = .returned (.agg #[.int .i64 1, .int .i64 (oneW f).a, .int .i64 (oneW f).b, .int .i64 (oneW f).c]) ∧ Below W.heap.size W w') := fun W => made_one f hf W
  obtain ⟨L, hL⟩ : ∃ L, L = liesB t f := ⟨_, rfl⟩
  rw [← hL] at HI ⊢
  obtain ⟨n, hn⟩ : ∃ n, n = t.length := ⟨_, rfl⟩
  rw [← hn] at HI ⊢
  obtain ⟨oa, ha⟩ : ∃ x, x = (oneW f).a := ⟨_, rfl⟩
  obtain ⟨ob, hb⟩ : ∃ x, x = (oneW f).b := ⟨_, rfl⟩
  obtain ⟨oc, hcc⟩ : ∃ x, x = (oneW f).c := ⟨_, rfl⟩
  rw [← ha, ← hb, ← hcc] at HI HM
  clear hL hn hc hcap hB h0 hft ha hb hcc
  rcases eight hf with rfl | rfl | rfl | rfl | rfl | rfl | rfl | rfl
  all_goals
    clear hf
    simp only [oneN] at HM
    simp at HM
    go_enter Tryd.func19, Tryd.ntmps19
    go_wp2_with fail
    go_at_call 15
    refine (HM.out _).mono ?_
    rintro e w2 ⟨rfl, hb⟩
    have HB2 : Hid (Below w.heap.size w w2) := (below_alloc1 _ _).trans (hb.mono (by simp))
    clear hb
    go_wp2_with fail
    go_at_call 38
    refine (HI.out _ HB2.out).mono ?_
    rintro e w3 ⟨rfl, hb⟩
    have HB3 : Hid (Below w.heap.size w w3) := HB2.out.trans (hb.mono HB2.out.size)
    clear hb
    go_wp2
    go_ret
    exact ⟨rfl, HB3.out⟩
end Go.Proofs.YtpdpnlpepfgknafDoor
