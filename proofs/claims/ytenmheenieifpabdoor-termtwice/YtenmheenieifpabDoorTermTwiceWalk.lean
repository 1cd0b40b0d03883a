/-
  Proved: whatever the row of signs and the world, vennlaw4.TermTwice returns true, and what was in memory is as it was.
-/
import Derived.Test.YtenmheenieifpabDoorTermParse
import Derived.Test.YtenmheenieifpabDoorSame
import Derived.Laws.AppendOwnNone
namespace Go.Proofs.YtenmheenieifpabDoor
open Go.ChangeShapes Go.WideShapes Go.ChangeAt Go.RowKit

/-- Parse of a text that is known not to be a term. -/
theorem parse_fault (s : ByteArray) (n : Int) (hz : s.size ≤ 9223372036854775807) (hn : textFault s.data.toList = n) (h0 : ¬ n = 0) (w : World) :
    Calls Tryd.prog 8 #[.string s] w fun e w' => e = .returned (.tuple #[.slice none 0 0, .iface 59 (.int .i64 n)]) ∧ Below w.heap.size w w' := by
  refine (parse_any s hz w).mono ?_
  rintro e w' ⟨v, he, _, hv, hb⟩
  rw [hn] at he hv
  rw [hv h0] at he
  have : errV n = .iface 59 (.int .i64 n) := by unfold errV; rw [if_neg h0]
  rw [this] at he
  exact ⟨he, hb⟩

set_option maxRecDepth 100000 in
set_option maxHeartbeats 4000000 in
/-- where Value has a fault, or the row is too long. -/
theorem termTwice_out (v : Value) (u a b c A : Int) (E : Value) (n cap : Nat) (ao : Option Addr) (hv : v = .slice ao n cap) (w : World) (hL : Laid w)
    (hV : Calls Tryd.prog 7 #[v, .agg #[.int .i64 u, .int .i64 a, .int .i64 b, .int .i64 c]] (w.alloc (.cells #[.int .i64 u, .int .i64 a, .int .i64 b, .int .i64 c] 25)) fun e w' => e = .returned (.tuple #[.int .i64 A, E]) ∧ Below (w.alloc (.cells #[.int .i64 u, .int .i64 a, .int .i64 b, .int .i64 c] 25)).heap.size (w.alloc (.cells #[.int .i64 u, .int .i64 a, .int .i64 b, .int .i64 c] 25)) w')
    (hE : (∃ m, E = .iface 59 (.int .i64 m)) ∨ (E = .nilIface ∧ 10 < (n : Int))) :
    Calls Tryd.prog 3 #[v, .agg #[.int .i64 u, .int .i64 a, .int .i64 b, .int .i64 c]] w fun e w' => e = .returned (.bool true) ∧ Below w.heap.size w w' := by
  have HV : Hid (Calls Tryd.prog 7 #[v, .agg #[.int .i64 u, .int .i64 a, .int .i64 b, .int .i64 c]] (w.alloc (.cells #[.int .i64 u, .int .i64 a, .int .i64 b, .int .i64 c] 25)) fun e w' => e = .returned (.tuple #[.int .i64 A, E]) ∧ Below (w.alloc (.cells #[.int .i64 u, .int .i64 a, .int .i64 b, .int .i64 c] 25)).heap.size (w.alloc (.cells #[.int .i64 u, .int .i64 a, .int .i64 b, .int .i64 c] 25)) w') := hV
  have HL : Hid (Laid w) := hL
  have HB : Hid (Below w.heap.size w (w.alloc (.cells #[.int .i64 u, .int .i64 a, .int .i64 b, .int .i64 c] 25))) := below_alloc1 _ _
  have HP : Hid (∀ W, Calls Tryd.prog 8 #[.string { data := #[65, 43] }] W fun e w' => e = .returned (.tuple #[.slice none 0 0, .iface 59 (.int .i64 3)]) ∧ Below W.heap.size W w') := fun W => parse_fault { data := #[65, 43] } 3 (by decide) (by decide) (by decide) W
  clear hV hL
  subst hv
  rcases hE with ⟨m, rfl⟩ | ⟨rfl, hn⟩
  · go_enter Tryd.func3, Tryd.ntmps3
    go_wp2_with (first | (go_at_call 7; refine HV.out.mono ?_; rintro e w2 ⟨rfl, hb1⟩; have HB1 : Hid (Below w.heap.size w w2) := HB.out.trans (hb1.mono HB.out.size); clear hb1) | (go_at_call 8; refine (HP.out _).mono ?_; rintro e w3 ⟨rfl, hb2⟩; have HB2 : Hid (Below w.heap.size w w3) := HB1.out.trans (hb2.mono HB1.out.size); clear hb2) | (go_at_call 9; refine (same_err _ _ _ (HL.out.below HB2.out)).mono ?_; rintro e w4 ⟨rfl, hb3⟩; have HB3 : Hid (Below w.heap.size w w4) := HB2.out.trans (hb3.mono HB2.out.size); clear hb3))
    go_ret
    exact ⟨rfl, HB3.out⟩
  · go_enter Tryd.func3, Tryd.ntmps3
    go_wp2_with (first | (go_at_call 7; refine HV.out.mono ?_; rintro e w2 ⟨rfl, hb1⟩; have HB1 : Hid (Below w.heap.size w w2) := HB.out.trans (hb1.mono HB.out.size); clear hb1) | (go_at_call 8; refine (HP.out _).mono ?_; rintro e w3 ⟨rfl, hb2⟩; have HB2 : Hid (Below w.heap.size w w3) := HB1.out.trans (hb2.mono HB1.out.size); clear hb2) | (go_at_call 9; refine (same_err _ _ _ (HL.out.below HB2.out)).mono ?_; rintro e w4 ⟨rfl, hb3⟩; have HB3 : Hid (Below w.heap.size w w4) := HB2.out.trans (hb3.mono HB2.out.size); clear hb3))
    go_ret
    exact ⟨rfl, HB3.out⟩

/-- an owned row reads as its numbers. -/
theorem own_ints {w : World} {base : Nat} {e : TypeId} {v : Value} {n : Nat} {xs : List Value} {t : List Int} (h : w.ownsRow base e 1 v n xs) (hx : xs = t.map (Value.int .i64)) (hm : n ≤ 13) : Reads w v t := by
  have hn : t.length = n := by have := h.1; rw [hx] at this; simpa using this
  rcases h.2 with ⟨rfl, h0⟩ | ⟨g, cap, cur, rfl, _⟩
  · exact Or.inl ⟨_, _, rfl, List.eq_nil_of_length_eq_zero (by omega)⟩
  · exact own_reads h hn (fun j hj => by rw [hx]; simp [List.getElem?_eq_getElem (show j < t.length by omega)]) hm

set_option maxRecDepth 100000 in
set_option maxHeartbeats 4000000 in
theorem termTwice_in (t : List Int) (B off cap : Nat) (u a b c : Int) (w : World) (hB : B < w.heap.size) (hcap : t.length ≤ cap) (hc : ∀ k, k < t.length → w.cell? ⟨B, off + k, none⟩ = some (.int .i64 (t.getD k 0))) (hf : faultN t = 0) (hw : (Wd.mk u a b c).ok = true) (hl : t.length ≤ 10) :
    Calls Tryd.prog 3 #[.slice (some ⟨B, off, none⟩) t.length cap, .agg #[.int .i64 u, .int .i64 a, .int .i64 b, .int .i64 c]] w fun e w' => e = .returned (.bool true) ∧ Below w.heap.size w w' := by
  obtain ⟨i0, hi, hz0, hz1, hz2⟩ := info_parts infoInt
  obtain ⟨w1, hw1⟩ : ∃ w1, w1 = w.alloc (.cells #[.int .i64 u, .int .i64 a, .int .i64 b, .int .i64 c] 25) := ⟨_, rfl⟩
  obtain ⟨K, hK⟩ : ∃ K, K = w.heap.size + 1 := ⟨_, rfl⟩
  have HK1 : Hid (w1.heap.size = K) := by unfold Hid; rw [hw1, hK]; simp
  have HC : Hid (∀ k, k < t.length → w1.cell? ⟨B, off + k, none⟩ = some (.int .i64 (t.getD k 0))) := fun k hk => by
    rw [hw1, World.cell?_alloc_lt _ _ ⟨B, off + k, none⟩ hB]; exact hc k hk
  have HX : Hid (w1.cell? ⟨w.heap.size, 0, none⟩ = some (.int .i64 u) ∧ w1.cell? ⟨w.heap.size, 1, none⟩ = some (.int .i64 a) ∧ w1.cell? ⟨w.heap.size, 2, none⟩ = some (.int .i64 b) ∧ w1.cell? ⟨w.heap.size, 3, none⟩ = some (.int .i64 c)) := by
    unfold Hid; rw [hw1]; simp
  have HBK : Hid (B < K ∧ w.heap.size < K) := ⟨by omega, by omega⟩
  have HW : Hid (Below w.heap.size w w1) := by unfold Hid; rw [hw1]; exact below_alloc1 _ _
  have HKs : Hid (w.heap.size ≤ K) := by unfold Hid; omega
  have HR : Hid (Reads w1 (.slice (some ⟨B, off, none⟩) t.length cap) t) := Or.inr ⟨B, off, cap, rfl, by have := HK1.out; have := HBK.out.1; omega, by have := (fault_zero.1 hf).1; omega, ⟨by omega, hcap⟩, HC.out⟩
  have HV : Hid (∀ r v W, Reads W v r → faultN r = 0 → Calls Tryd.prog 7 #[v, .agg #[.int .i64 u, .int .i64 a, .int .i64 b, .int .i64 c]] W fun e w' => e = .returned (.tuple #[.int .i64 ((Wd.mk u a b c).val r), .nilIface]) ∧ Below W.heap.size W w') := fun r v W hR hfr => by
    have := value_any r v u a b c W hR
    have e1 : (Wd.mk u a b c).answer r = (Wd.mk u a b c).val r := by unfold Wd.answer; rw [if_pos hfr, if_pos hw]
    have e2 : errV ((Wd.mk u a b c).fault r) = .nilIface := by unfold Wd.fault; rw [if_pos hfr, if_pos hw]; rfl
    rw [e1, e2] at this; exact this
  have HF : Hid (faultN t = 0) := hf
  have HF2 : Hid (faultN (t ++ [8, 8]) = 0 ∧ (Wd.mk u a b c).val (t ++ [8, 8]) = (Wd.mk u a b c).val t) := ⟨good_twice hf hl, val_twice hw hf⟩
  clear hc hB hK hf hw hcap
  obtain ⟨n, hn⟩ : ∃ n, n = t.length := ⟨_, rfl⟩
  rw [← hn] at hl HR ⊢
  have HN : Hid (n = t.length) := hn
  clear hn
  have HV1 : Hid (Calls Tryd.prog 7 #[.slice (some ⟨B, off, none⟩) n cap, .agg #[.int .i64 u, .int .i64 a, .int .i64 b, .int .i64 c]] w1 fun e w' => e = .returned (.tuple #[.int .i64 ((Wd.mk u a b c).val t), .nilIface]) ∧ Below w1.heap.size w1 w') := HV.out t _ w1 HR.out HF.out
  obtain ⟨A, hA⟩ : ∃ A, A = (Wd.mk u a b c).val t := ⟨_, rfl⟩
  rw [← hA] at HV1 HF2
  clear hA
  go_enter Tryd.func3, Tryd.ntmps3
  go_wp2_with fail
  rw [← hw1]
  clear hw1
  go_wp2_with (first | (go_at_call 7; refine HV1.out.mono ?_; rintro e w2 ⟨rfl, hb1⟩; have HB1 : Hid (Below K w1 w2) := hb1.mono (by rw [HK1.out]; exact Nat.le_refl _); clear hb1; have HKW2 : Hid (K ≤ w2.heap.size) := by { unfold Hid; rw [← HK1.out]; exact HB1.out.size }) | (at_builtin; refine wpList_append_own _ rfl (.tmp 31) (.tmp 32) 22 rfl K 3 i0 (.int .i64 0) 1 8 Tryd.underlying22 hi hz0 hz1 hz2 rfl (by decide) (.slice none 0 0) 0 [] rfl (World.ownsRow_nil _ _ _ _) ⟨B, off, none⟩ n cap (t.map (Value.int .i64)) rfl ?p0 ?p1 ?p2 ?p3 ?p4 ?p5 ?_))
  case p0 => rw [HN.out]; simp
  case p1 =>
    intro j y hj
    have hj' : j < t.length := by have := (List.getElem?_eq_some_iff.1 hj).1; simpa using this
    have ha : (⟨B, off, none⟩ : Addr).add j = ⟨B, off + j, none⟩ := by unfold Addr.add; split <;> simp_all
    rw [ha, HB1.out.cell HBK.out.1, HC.out j hj']
    simp [List.getElem?_eq_getElem hj'] at hj
    simp [List.getElem?_eq_getElem hj', hj]
  case p2 => intro y hy; obtain ⟨z, _, rfl⟩ := List.mem_map.1 hy; rfl
  case p3 => unfold maxLen; omega
  case p4 => omega
  case p5 => exact HKW2.out
  intro v3 w3 hown3 hgrow3 _
  have HB3 : Hid (Below K w1 w3) := HB1.out.grown hgrow3 HKW2.out (fun k hk => by cases hk)
  have HKW3 : Hid (K ≤ w3.heap.size) := Nat.le_trans HKW2.out hgrow3.size
  have HO3 : Hid (w3.ownsRow K 3 1 v3 n (t.map (Value.int .i64))) := by
    unfold Hid; simpa using hown3
  clear hown3 hgrow3
  go_wp2_with (first | (at_builtin; refine wpList_append_own _ rfl (.tmp 34) (.tmp 35) 22 rfl K 3 i0 (.int .i64 0) 1 8 Tryd.underlying22 hi hz0 hz1 hz2 rfl (by decide) v3 n (t.map (Value.int .i64)) rfl (HO3.out.alloc _) ⟨w3.heap.size, 0, none⟩ 2 2 [.int .i64 8, .int .i64 8] rfl rfl ?q1 ?q2 ?q3 ?q4 ?q5 ?_))
  case q1 =>
    intro j y hj
    match j, hj with
    | 0, hj => simp at hj; subst hj; simp [Addr.add]
    | 1, hj => simp at hj; subst hj; simp [Addr.add]
  case q2 => intro y hy; simp at hy; subst hy; rfl
  case q3 => unfold maxLen; omega
  case q4 => omega
  case q5 => have := HKW3.out; simp; omega
  intro v4 w4 hown4 hgrow4 _
  have HB4 : Hid (Below K w1 w4) := (HB3.out.alloc HKW3.out _).grown hgrow4 (by have := HKW3.out; simp; omega) (fun k hk => (HO3.out.lt k hk).1)
  have HKW4 : Hid (K ≤ w4.heap.size) := by have := hgrow4.size; have := HKW3.out; unfold Hid; simp at *; omega
  have HR4 : Hid (Reads w4 v4 (t ++ [8, 8])) := own_ints hown4 (by simp) (by omega)
  have x0 : w4.cell? ⟨w.heap.size, 0, none⟩ = some (.int .i64 u) := by rw [HB4.out.cell HBK.out.2]; exact HX.out.1
  have x1 : w4.cell? ⟨w.heap.size, 1, none⟩ = some (.int .i64 a) := by rw [HB4.out.cell HBK.out.2]; exact HX.out.2.1
  have x2 : w4.cell? ⟨w.heap.size, 2, none⟩ = some (.int .i64 b) := by rw [HB4.out.cell HBK.out.2]; exact HX.out.2.2.1
  have x3 : w4.cell? ⟨w.heap.size, 3, none⟩ = some (.int .i64 c) := by rw [HB4.out.cell HBK.out.2]; exact HX.out.2.2.2
  have HV4 : Hid (Calls Tryd.prog 7 #[v4, .agg #[.int .i64 u, .int .i64 a, .int .i64 b, .int .i64 c]] w4 fun e w' => e = .returned (.tuple #[.int .i64 A, .nilIface]) ∧ Below w4.heap.size w4 w') := by
    have := HV.out (t ++ [8, 8]) v4 w4 HR4.out HF2.out.1
    rw [HF2.out.2] at this; exact this
  clear hown4 hgrow4
  go_wp2_with (go_at_call 7; refine HV4.out.mono ?_; rintro e w5 ⟨rfl, hb5⟩)
  go_ret
  exact ⟨rfl, HW.out.trans ((HB4.out.mono HKs.out).trans (hb5.mono (Nat.le_trans HKs.out HKW4.out)))⟩

theorem termTwice_walk (t : List Int) (v : Value) (u a b c : Int) (w : World) (hR : Reads w v t) (hL : Laid w) :
    Calls Tryd.prog 3 #[v, .agg #[.int .i64 u, .int .i64 a, .int .i64 b, .int .i64 c]] w fun e w' => e = .returned (.bool true) ∧ Below w.heap.size w w' := by
  have hV := value_any t v u a b c _ (hR.below (below_alloc1 w (.cells #[.int .i64 u, .int .i64 a, .int .i64 b, .int .i64 c] 25)))
  obtain ⟨ao, cap, hv⟩ : ∃ ao cap, v = .slice ao t.length cap := by
    rcases hR with ⟨ao, cap, rfl, rfl⟩ | ⟨B, off, cap, rfl, _⟩
    · exact ⟨ao, cap, rfl⟩
    · exact ⟨_, cap, rfl⟩
  by_cases hf : (Wd.mk u a b c).fault t = 0
  · have hz : faultN t = 0 ∧ (Wd.mk u a b c).ok = true := by
      unfold Wd.fault at hf
      by_cases h1 : faultN t = 0
      · rw [if_pos h1] at hf
        by_cases h2 : (Wd.mk u a b c).ok = true
        · exact ⟨h1, h2⟩
        · rw [if_neg h2] at hf; exact absurd hf (by decide)
      · rw [if_neg h1] at hf; exact absurd hf h1
    by_cases hl : t.length ≤ 10
    · rcases hR with ⟨ao, cap, rfl, rfl⟩ | ⟨B, off, cap, rfl, hB, _, ⟨_, hcap⟩, hc⟩
      · exact absurd hz.1 (by decide)
      · exact termTwice_in t B off cap u a b c w hB hcap hc hz.1 hz.2 hl
    · have hE : errV ((Wd.mk u a b c).fault t) = .nilIface := by rw [hf]; rfl
      exact termTwice_out v u a b c _ _ t.length cap ao hv w hL hV (Or.inr ⟨hE, by omega⟩)
  · have hE : errV ((Wd.mk u a b c).fault t) = .iface 59 (.int .i64 ((Wd.mk u a b c).fault t)) := by unfold errV; rw [if_neg hf]
    exact termTwice_out v u a b c _ _ t.length cap ao hv w hL hV (Or.inl ⟨_, hE⟩)
end Go.Proofs.YtenmheenieifpabDoor
