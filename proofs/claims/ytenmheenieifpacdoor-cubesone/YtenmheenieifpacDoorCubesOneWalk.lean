/-
  Proved: whatever the atom, vennlaw4.CubesOne returns true, and what was in memory is as it was.
-/
import Derived.Test.YtenmheenieifpacDoorCubesOf
namespace Go.Proofs.YtenmheenieifpacDoor
open Go.ChangeShapes Go.WideShapes Go.ChangeAt Go.RowKit
set_option maxRecDepth 100000

/-- a formula of one atom, laid behind what there is. -/
theorem laid_form {W : World} {k n : Int} {vs vt : Value} {s t : List Int} {cs : Array Value} (c : List Int) (hc0 : 0 < c.length) (hc9 : c.length ≤ 20) (hcs : cs = (c.map (Value.int .i64)).toArray) (hS : Reads W vs s) (hT : Reads W vt t) :
    Below W.heap.size W ((W.alloc (.cells #[.int .i64 k, vs, vt, .int .i64 n] 38)).alloc (.cells cs 3)) ∧
    ReadsA ((W.alloc (.cells #[.int .i64 k, vs, vt, .int .i64 n] 38)).alloc (.cells cs 3)) (.slice (some ⟨W.heap.size, 0, none⟩) 1 1) [⟨k, s, t, n⟩] ∧
    Reads ((W.alloc (.cells #[.int .i64 k, vs, vt, .int .i64 n] 38)).alloc (.cells cs 3)) (.slice (some ⟨W.heap.size + 1, 0, none⟩) c.length c.length) c := by
  obtain ⟨v1, hv1⟩ : ∃ v1, v1 = W.alloc (.cells #[.int .i64 k, vs, vt, .int .i64 n] 38) := ⟨_, rfl⟩
  rw [← hv1]
  have s1 : v1.heap.size = W.heap.size + 1 := by rw [hv1]; simp
  have b1 : Below W.heap.size W v1 := by rw [hv1]; exact below_alloc1 _ _
  have b2 : Below v1.heap.size v1 (v1.alloc (.cells cs 3)) := below_alloc1 _ _
  have b : Below W.heap.size W (v1.alloc (.cells cs 3)) := b1.trans (b2.mono (by omega))
  have cA : ∀ j, (v1.alloc (.cells cs 3)).cell? ⟨W.heap.size, j, none⟩ = (#[.int .i64 k, vs, vt, .int .i64 n] : Array Value)[j]? := fun j => by
    rw [b2.cell (show (⟨W.heap.size, j, none⟩ : Addr).block < _ by simp; omega), hv1]; simp
  refine ⟨b, Or.inr ⟨W.heap.size, 0, 1, rfl, by simp; omega, by simp, ⟨by simp, by simp⟩, fun i a ha => ?_⟩, Or.inr ⟨W.heap.size + 1, 0, c.length, rfl, by simp [s1], hc0, ⟨by omega, Nat.le_refl _⟩, fun j hj => ?_⟩⟩
  · have hi : i = 0 := by have := (List.getElem?_eq_some_iff.1 ha).1; simpa using this
    subst hi
    simp at ha
    subst ha
    exact ⟨vs, vt, by rw [cA]; rfl, by rw [cA]; rfl, by rw [cA]; rfl, by rw [cA]; rfl, hS.below b, hT.below b⟩
  · rw [← s1, hcs]
    simp [List.getElem?_eq_getElem hj]
theorem fault_one (a : At) (c : List Int) (h : c = [0] ∨ c = [0, 0, 12, 10] ∨ c = [0, 0, 12, 10, 12]) : formFault [a] c = a.fault := by
  have hs : c.all (signF [a].length) = true := by
    show c.all (signF 1) = true
    rcases h with rfl | rfl | rfl <;> decide
  have hc : cntF c 0 = some 1 := by rcases h with rfl | rfl | rfl <;> decide
  have hl : 1 ≤ c.length ∧ c.length ≤ 20 := by rcases h with rfl | rfl | rfl <;> decide
  unfold formFault
  rw [if_neg (fun h => by rcases h with h | h; (· simp at h); (· omega)), if_neg (fun h => by rcases h with h | h; (· simp at h); (· omega))]
  by_cases h0 : a.fault = 0
  · have : firstFault [a] = 0 := by simp [firstFault, h0]
    rw [if_pos this, if_pos hs, if_pos hc, h0]
  · have : firstFault [a] = a.fault := by simp [firstFault, h0]
    rw [this, if_neg h0]
theorem rs2_one {S : Nat → Prop} {w : World} {v : Value} {x : List Int} (h : RS2 S w v [x]) : ∃ b off cap o cp, v = .slice (some ⟨b, off, none⟩) 1 cap ∧ b < w.heap.size ∧ w.cell? ⟨b, off, none⟩ = some (.slice o x.length cp) ∧ RS S w (.slice o x.length cp) x := by
  rcases h with ⟨_, _, _, h0⟩ | ⟨b, off, cap, rfl, hB, _, _, hc⟩
  · cases h0
  · obtain ⟨u, hu, hr⟩ := hc 0 x rfl
    obtain ⟨o, cp, rfl, _⟩ := hr.slice
    exact ⟨b, off, cap, o, cp, rfl, hB.2, by simpa using hu, hr⟩
theorem rs_one {S : Nat → Prop} {w : World} {v : Value} {x : Int} (h : RS S w v [x]) : ∃ b off cap, v = .slice (some ⟨b, off, none⟩) 1 cap ∧ b < w.heap.size ∧ w.cell? ⟨b, off, none⟩ = some (.int .i64 x) := by
  rcases h with ⟨_, _, _, h0⟩ | ⟨b, off, cap, rfl, hB, _, _, hc⟩
  · cases h0
  · exact ⟨b, off, cap, rfl, hB.2, hc 0 (by simp)⟩

set_option maxHeartbeats 8000000 in
theorem cubesOne_walk (k n : Int) (vs vt : Value) (s t : List Int) (w : World) (hS : Reads w vs s) (hT : Reads w vt t) (hK : KindsLaid w) :
    Calls Tryd.prog 5 #[.agg #[.int .i64 k, vs, vt, .int .i64 n]] w fun e w' => e = .returned (.bool true) ∧ Below w.heap.size w w' := by
  obtain ⟨so, scap, rfl, _⟩ := (hS.rs (S := fun _ => True) (fun _ _ => trivial)).slice
  obtain ⟨to, tcap, rfl, _⟩ := (hT.rs (S := fun _ => True) (fun _ _ => trivial)).slice
  obtain ⟨ls, hls⟩ : ∃ ls, ls = s.length := ⟨_, rfl⟩
  obtain ⟨lt, hlt⟩ : ∃ lt, lt = t.length := ⟨_, rfl⟩
  rw [← hls] at hS ⊢
  rw [← hlt] at hT ⊢
  clear hls hlt
  obtain ⟨w1, hw1⟩ : ∃ w1, w1 = w.alloc (.cells #[.int .i64 k, .slice so ls scap, .slice to lt tcap, .int .i64 n] 38) := ⟨_, rfl⟩
  have HB1 : Hid (Below w.heap.size w w1 ∧ w1.heap.size = w.heap.size + 1) := by unfold Hid; rw [hw1]; exact ⟨below_alloc1 _ _, by simp⟩
  have HX : Hid (∀ W, Below w1.heap.size w1 W → W.cell? ⟨w.heap.size, 0, none⟩ = some (.int .i64 k) ∧ W.cell? ⟨w.heap.size, 1, none⟩ = some (.slice so ls scap) ∧ W.cell? ⟨w.heap.size, 2, none⟩ = some (.slice to lt tcap) ∧ W.cell? ⟨w.heap.size, 3, none⟩ = some (.int .i64 n)) := fun W hW => by
    have e : ∀ j, W.cell? ⟨w.heap.size, j, none⟩ = w1.cell? ⟨w.heap.size, j, none⟩ := fun j => hW.cell (show (⟨w.heap.size, j, none⟩ : Addr).block < _ by have := HB1.out.2; simp; omega)
    simp only [e]
    rw [hw1]; simp
  have HF : Hid (∀ W c cs, Below w1.heap.size w1 W → 0 < c.length → c.length ≤ 20 → cs = (c.map (Value.int .i64)).toArray → Below W.heap.size W ((W.alloc (.cells #[.int .i64 k, .slice so ls scap, .slice to lt tcap, .int .i64 n] 38)).alloc (.cells cs 3)) ∧ ReadsA ((W.alloc (.cells #[.int .i64 k, .slice so ls scap, .slice to lt tcap, .int .i64 n] 38)).alloc (.cells cs 3)) (.slice (some ⟨W.heap.size, 0, none⟩) 1 1) [⟨k, s, t, n⟩] ∧ Reads ((W.alloc (.cells #[.int .i64 k, .slice so ls scap, .slice to lt tcap, .int .i64 n] 38)).alloc (.cells cs 3)) (.slice (some ⟨W.heap.size + 1, 0, none⟩) c.length c.length) c) := fun W c cs hW h0 h9 hcs => laid_form c h0 h9 hcs ((hS.below HB1.out.1).below hW) ((hT.below HB1.out.1).below hW)
  have HKd : Hid (∀ W, Below w1.heap.size w1 W → KindsLaid W) := fun W hW => (hK.below HB1.out.1).below hW
  clear hS hT hK
  by_cases hf : (⟨k, s, t, n⟩ : At).fault = 0
  · have HO : Hid (∀ W va vc c L, Below w1.heap.size w1 W → ReadsA W va [⟨k, s, t, n⟩] → Reads W vc c → (c = [0] ∨ c = [0, 0, 12, 10] ∨ c = [0, 0, 12, 10, 12]) → cubesC c = some L → Calls Tryd.prog 11 #[.agg #[va, vc]] W fun e w' => ∃ v, e = .returned (.tuple #[v, .nilIface]) ∧ RS2 (fun _ => True) w' v L ∧ Below W.heap.size W w') := fun W va vc c L hW h1 h2 h3 h4 => by
      refine (of_good va vc _ c W h1 h2 (HKd.out W hW) ((fault_one _ c h3).trans hf)).mono ?_
      rintro e w' ⟨ho, hb⟩
      rw [h4] at ho
      obtain ⟨v, rfl, hr⟩ := ho
      exact ⟨v, rfl, hr.mono fun _ _ _ => trivial, hb⟩
    clear hf
    obtain ⟨x0, x1, x2, x3⟩ := HX.out w1 (Below.refl _ _)
    obtain ⟨a0, ha0⟩ : ∃ a0, a0 = (w1.alloc (.cells #[.int .i64 k, .slice so ls scap, .slice to lt tcap, .int .i64 n] 38)).alloc (.cells #[.int .i64 0] 3) := ⟨_, rfl⟩
    have hF0 := HF.out w1 [0] #[.int .i64 0] (Below.refl _ _) (by decide) (by decide) rfl
    rw [← ha0] at hF0
    have HA0 : Hid (Below w1.heap.size w1 a0) := (((Below.refl _ _)) : Below w1.heap.size w1 w1).trans (hF0.1.mono (((Below.refl _ _)) : Below w1.heap.size w1 w1).size)
    have HC0 : Hid (Calls Tryd.prog 11 #[.agg #[.slice (some ⟨w1.heap.size, 0, none⟩) 1 1, .slice (some ⟨w1.heap.size + 1, 0, none⟩) 1 1]] a0 fun e w' => ∃ v, e = .returned (.tuple #[v, .nilIface]) ∧ RS2 (fun _ => True) w' v [[1]] ∧ Below a0.heap.size a0 w') := HO.out a0 _ _ [0] [[1]] HA0.out hF0.2.1 hF0.2.2 (by simp) (by decide +kernel)
    rw [hw1] at x0 x1 x2 x3
    have hs1 : w1.heap.size = w.heap.size + 1 := HB1.out.2
    go_enter Tryd.func5, Tryd.ntmps5
    go_wp2_with fail
    rw [← hw1, ← ha0]
    rw [hs1] at HC0
    clear hw1 ha0 x0 x1 x2 x3 hF0 hs1
    go_at_call 11
    refine HC0.out.mono ?_
    rintro e r0 ⟨v0, rfl, hr0, hb⟩
    have Hr0 : Hid (Below w1.heap.size w1 r0) := HA0.out.trans (hb.mono HA0.out.size)
    obtain ⟨b0, f0, q0, o0, p0, rfl, hb0, hc0, hr0'⟩ := rs2_one hr0
    obtain ⟨b1, f1, q1, e1, hb1, hc1⟩ := rs_one hr0'
    have HL0 : Hid (∀ W, Below r0.heap.size r0 W → W.cell? ⟨b0, f0, none⟩ = some (.slice (some ⟨b1, f1, none⟩) 1 q1) ∧ W.cell? ⟨b1, f1, none⟩ = some (.int .i64 1)) := fun W hW => ⟨by rw [hW.cell (show (⟨b0, f0, none⟩ : Addr).block < _ from hb0), hc0, e1], by rw [hW.cell (show (⟨b1, f1, none⟩ : Addr).block < _ from hb1)]; exact hc1⟩
    have HG0 : Hid (Below r0.heap.size r0 r0) := Below.refl _ _
    clear hr0 hr0' e1 hc0 hc1 hb0 hb1
    clear hb HC0 HA0
    obtain ⟨x0, x1, x2, x3⟩ := HX.out r0 Hr0.out
    obtain ⟨a1, ha1⟩ : ∃ a1, a1 = (r0.alloc (.cells #[.int .i64 k, .slice so ls scap, .slice to lt tcap, .int .i64 n] 38)).alloc (.cells #[.int .i64 0, .int .i64 0, .int .i64 12, .int .i64 10] 3) := ⟨_, rfl⟩
    have hF1 := HF.out r0 [0, 0, 12, 10] #[.int .i64 0, .int .i64 0, .int .i64 12, .int .i64 10] Hr0.out (by decide) (by decide) rfl
    rw [← ha1] at hF1
    have HA1 : Hid (Below w1.heap.size w1 a1) := ((Hr0.out) : Below w1.heap.size w1 r0).trans (hF1.1.mono ((Hr0.out) : Below w1.heap.size w1 r0).size)
    have HGa1 : Hid (Below r0.heap.size r0 a1) := HG0.out.trans (hF1.1.mono HG0.out.size)
    have HC1 : Hid (Calls Tryd.prog 11 #[.agg #[.slice (some ⟨r0.heap.size, 0, none⟩) 1 1, .slice (some ⟨r0.heap.size + 1, 0, none⟩) 4 4]] a1 fun e w' => ∃ v, e = .returned (.tuple #[v, .nilIface]) ∧ RS2 (fun _ => True) w' v [] ∧ Below a1.heap.size a1 w') := HO.out a1 _ _ [0, 0, 12, 10] [] HA1.out hF1.2.1 hF1.2.2 (by simp) (by decide +kernel)
    clear hF1
    go_wp2_with fail
    rw [← ha1]
    clear ha1 x0 x1 x2 x3
    go_at_call 11
    refine HC1.out.mono ?_
    rintro e r1 ⟨v1, rfl, hr1, hb⟩
    have Hr1 : Hid (Below w1.heap.size w1 r1) := HA1.out.trans (hb.mono HA1.out.size)
    obtain ⟨m0, mq, rfl, _⟩ := hr1.slice
    have HG1 : Hid (Below r0.heap.size r0 r1) := HGa1.out.trans (hb.mono HGa1.out.size)
    clear hr1
    clear hb HC1 HA1
    obtain ⟨x0, x1, x2, x3⟩ := HX.out r1 Hr1.out
    obtain ⟨a2, ha2⟩ : ∃ a2, a2 = (r1.alloc (.cells #[.int .i64 k, .slice so ls scap, .slice to lt tcap, .int .i64 n] 38)).alloc (.cells #[.int .i64 0, .int .i64 0, .int .i64 12, .int .i64 10, .int .i64 12] 3) := ⟨_, rfl⟩
    have hF2 := HF.out r1 [0, 0, 12, 10, 12] #[.int .i64 0, .int .i64 0, .int .i64 12, .int .i64 10, .int .i64 12] Hr1.out (by decide) (by decide) rfl
    rw [← ha2] at hF2
    have HA2 : Hid (Below w1.heap.size w1 a2) := ((Hr1.out) : Below w1.heap.size w1 r1).trans (hF2.1.mono ((Hr1.out) : Below w1.heap.size w1 r1).size)
    have HGa2 : Hid (Below r0.heap.size r0 a2) := HG1.out.trans (hF2.1.mono HG1.out.size)
    have HC2 : Hid (Calls Tryd.prog 11 #[.agg #[.slice (some ⟨r1.heap.size, 0, none⟩) 1 1, .slice (some ⟨r1.heap.size + 1, 0, none⟩) 5 5]] a2 fun e w' => ∃ v, e = .returned (.tuple #[v, .nilIface]) ∧ RS2 (fun _ => True) w' v [[]] ∧ Below a2.heap.size a2 w') := HO.out a2 _ _ [0, 0, 12, 10, 12] [[]] HA2.out hF2.2.1 hF2.2.2 (by simp) (by decide +kernel)
    clear hF2
    go_wp2_with fail
    rw [← ha2]
    clear ha2 x0 x1 x2 x3
    go_at_call 11
    refine HC2.out.mono ?_
    rintro e r2 ⟨v2, rfl, hr2, hb⟩
    have Hr2 : Hid (Below w1.heap.size w1 r2) := HA2.out.trans (hb.mono HA2.out.size)
    obtain ⟨b2, f2, q2, o2, p2, rfl, hb2, hc2, hr2'⟩ := rs2_one hr2
    have HG2 : Hid (Below r0.heap.size r0 r2) := HGa2.out.trans (hb.mono HGa2.out.size)
    clear hr2 hr2' hb2
    clear hb HC2 HA2
    obtain ⟨y0, y1⟩ := HL0.out r2 HG2.out
    simp only [List.length_nil] at hc2
    go_wp2
    go_ret
    exact ⟨rfl, HB1.out.1.trans (Hr2.out.mono HB1.out.1.size)⟩
  · have HO : Hid (∀ W va vc c, Below w1.heap.size w1 W → ReadsA W va [⟨k, s, t, n⟩] → Reads W vc c → (c = [0] ∨ c = [0, 0, 12, 10] ∨ c = [0, 0, 12, 10, 12]) → Calls Tryd.prog 11 #[.agg #[va, vc]] W fun e w' => e = .returned (.tuple #[.slice none 0 0, .iface 69 (.int .i64 ((⟨k, s, t, n⟩ : At).fault))]) ∧ Below W.heap.size W w') := fun W va vc c hW h1 h2 h3 => by
      have e := fault_one ⟨k, s, t, n⟩ c h3
      have := of_bad va vc _ c W h1 h2 (HKd.out W hW) (by rw [e]; exact hf)
      rw [e] at this
      exact this
    obtain ⟨F, hF⟩ : ∃ F, F = (⟨k, s, t, n⟩ : At).fault := ⟨_, rfl⟩
    rw [← hF] at HO
    clear hF hf
    obtain ⟨x0, x1, x2, x3⟩ := HX.out w1 (Below.refl _ _)
    obtain ⟨a0, ha0⟩ : ∃ a0, a0 = (w1.alloc (.cells #[.int .i64 k, .slice so ls scap, .slice to lt tcap, .int .i64 n] 38)).alloc (.cells #[.int .i64 0] 3) := ⟨_, rfl⟩
    have hF0 := HF.out w1 [0] #[.int .i64 0] (Below.refl _ _) (by decide) (by decide) rfl
    rw [← ha0] at hF0
    have HA0 : Hid (Below w1.heap.size w1 a0) := (((Below.refl _ _)) : Below w1.heap.size w1 w1).trans (hF0.1.mono (((Below.refl _ _)) : Below w1.heap.size w1 w1).size)
    have HC0 : Hid (Calls Tryd.prog 11 #[.agg #[.slice (some ⟨w1.heap.size, 0, none⟩) 1 1, .slice (some ⟨w1.heap.size + 1, 0, none⟩) 1 1]] a0 fun e w' => e = .returned (.tuple #[.slice none 0 0, .iface 69 (.int .i64 F)]) ∧ Below a0.heap.size a0 w') := HO.out a0 _ _ [0] HA0.out hF0.2.1 hF0.2.2 (by simp)
    rw [hw1] at x0 x1 x2 x3
    have hs1 : w1.heap.size = w.heap.size + 1 := HB1.out.2
    go_enter Tryd.func5, Tryd.ntmps5
    go_wp2_with fail
    rw [← hw1, ← ha0]
    rw [hs1] at HC0
    clear hw1 ha0 x0 x1 x2 x3 hF0 hs1
    go_at_call 11
    refine HC0.out.mono ?_
    rintro e r0 ⟨rfl, hb⟩
    have Hr0 : Hid (Below w1.heap.size w1 r0) := HA0.out.trans (hb.mono HA0.out.size)
    clear hb HC0 HA0
    obtain ⟨x0, x1, x2, x3⟩ := HX.out r0 Hr0.out
    obtain ⟨a1, ha1⟩ : ∃ a1, a1 = (r0.alloc (.cells #[.int .i64 k, .slice so ls scap, .slice to lt tcap, .int .i64 n] 38)).alloc (.cells #[.int .i64 0, .int .i64 0, .int .i64 12, .int .i64 10] 3) := ⟨_, rfl⟩
    have hF1 := HF.out r0 [0, 0, 12, 10] #[.int .i64 0, .int .i64 0, .int .i64 12, .int .i64 10] Hr0.out (by decide) (by decide) rfl
    rw [← ha1] at hF1
    have HA1 : Hid (Below w1.heap.size w1 a1) := ((Hr0.out) : Below w1.heap.size w1 r0).trans (hF1.1.mono ((Hr0.out) : Below w1.heap.size w1 r0).size)
    have HC1 : Hid (Calls Tryd.prog 11 #[.agg #[.slice (some ⟨r0.heap.size, 0, none⟩) 1 1, .slice (some ⟨r0.heap.size + 1, 0, none⟩) 4 4]] a1 fun e w' => e = .returned (.tuple #[.slice none 0 0, .iface 69 (.int .i64 F)]) ∧ Below a1.heap.size a1 w') := HO.out a1 _ _ [0, 0, 12, 10] HA1.out hF1.2.1 hF1.2.2 (by simp)
    clear hF1
    go_wp2_with fail
    rw [← ha1]
    clear ha1 x0 x1 x2 x3
    go_at_call 11
    refine HC1.out.mono ?_
    rintro e r1 ⟨rfl, hb⟩
    have Hr1 : Hid (Below w1.heap.size w1 r1) := HA1.out.trans (hb.mono HA1.out.size)
    clear hb HC1 HA1
    obtain ⟨x0, x1, x2, x3⟩ := HX.out r1 Hr1.out
    obtain ⟨a2, ha2⟩ : ∃ a2, a2 = (r1.alloc (.cells #[.int .i64 k, .slice so ls scap, .slice to lt tcap, .int .i64 n] 38)).alloc (.cells #[.int .i64 0, .int .i64 0, .int .i64 12, .int .i64 10, .int .i64 12] 3) := ⟨_, rfl⟩
    have hF2 := HF.out r1 [0, 0, 12, 10, 12] #[.int .i64 0, .int .i64 0, .int .i64 12, .int .i64 10, .int .i64 12] Hr1.out (by decide) (by decide) rfl
    rw [← ha2] at hF2
    have HA2 : Hid (Below w1.heap.size w1 a2) := ((Hr1.out) : Below w1.heap.size w1 r1).trans (hF2.1.mono ((Hr1.out) : Below w1.heap.size w1 r1).size)
    have HC2 : Hid (Calls Tryd.prog 11 #[.agg #[.slice (some ⟨r1.heap.size, 0, none⟩) 1 1, .slice (some ⟨r1.heap.size + 1, 0, none⟩) 5 5]] a2 fun e w' => e = .returned (.tuple #[.slice none 0 0, .iface 69 (.int .i64 F)]) ∧ Below a2.heap.size a2 w') := HO.out a2 _ _ [0, 0, 12, 10, 12] HA2.out hF2.2.1 hF2.2.2 (by simp)
    clear hF2
    go_wp2_with fail
    rw [← ha2]
    clear ha2 x0 x1 x2 x3
    go_at_call 11
    refine HC2.out.mono ?_
    rintro e r2 ⟨rfl, hb⟩
    have Hr2 : Hid (Below w1.heap.size w1 r2) := HA2.out.trans (hb.mono HA2.out.size)
    clear hb HC2 HA2
    go_wp2
    go_ret
    exact ⟨rfl, HB1.out.1.trans (Hr2.out.mono HB1.out.1.size)⟩
end Go.Proofs.YtenmheenieifpacDoor
