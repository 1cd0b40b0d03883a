/-
  Proved: what text.codeOf returns, of any line; what was in memory is as it was (a contract that the statements lean on).
  Proved: what text.Parse returns, of any text; what was in memory is as it was (a contract that the statements lean on).
  Proved: where the variable atom.kinds reads as the row lists it, its eighteen cells are those of the table of kinds. (What the tied statements' frames lean on.)
  Proved: the row's condition on the variables that it lists gives the walk the table of kinds, the powers of ten, and the library's error; and a start that meets the condition. (What the tied statement's frame leans on.)
-/
import Derived.Test.YtfnkbbpjfjendaiGreatDoorLibTX33
import Derived.Test.YtfnkbbpjfjendaiGreatDoorLibTX31
import Derived.Test.YtfnkbbpjfjendaiGreatDoorLibTX24
import Derived.Test.YtfnkbbpjfjendaiGreatDoorLibTX32
import Derived.Test.YtfnkbbpjfjendaiGreatDoorLibTX26
import Derived.Test.YtfnkbbpjfjendaiGreatDoorRows
import Derived.Test.YtfnkbbpjfjendaiGreatDoorLibTX6
import Derived.ProofKit
import Derived.OpenShut
import Derived.LaidLaws
import Derived.Stop.LaidErr
import Derived.Deep.Strs
import Derived.Test.YtfnkbbpjfjendaiGreatDoorLibTX7
import Derived.Lib.LaidTab
import Derived.LaidMore
import Derived.Lay
import Derived.LaidHandle
import Derived.Stop.Joined
namespace Go.Proofs.YtfnkbbpjfjendaiGreatDoor
open Go.ChangeShapes Go.WideShapes Go.ChangeAt Go.RowKit
set_option maxRecDepth 100000

theorem join_plain {c : UInt8} : ∀ {L : List (List UInt8)} {y : List UInt8}, (joinB c (y :: L)).length = y.length + (L.map fun z => z.length + 1).sum := by
  intro L
  induction L with
  | nil => intro y; rfl
  | cons z L ih => intro y; rw [joinB_cons _ (List.cons_ne_nil _ _), List.length_append, List.length_cons, ih]; simp; omega
theorem join_tail {c : UInt8} (y : List UInt8) (L : List (List UInt8)) : (joinB c L).length ≤ (joinB c (y :: L)).length := by
  cases L with
  | nil => exact Nat.zero_le _
  | cons z L => rw [joinB_cons y (List.cons_ne_nil z L), List.length_append, List.length_cons]; omega
theorem join_drop {c : UInt8} (L : List (List UInt8)) (j : Nat) : (joinB c (L.drop j)).length ≤ (joinB c L).length := by
  induction j with
  | zero => exact Nat.le_refl _
  | succ j ih =>
    rcases Nat.lt_or_ge j L.length with h | h
    · rw [List.drop_eq_getElem_cons h] at ih
      exact Nat.le_trans (join_tail _ _) ih
    · rw [List.drop_eq_nil_of_le (by omega)]; exact Nat.zero_le _
theorem signs_length {L : List (List UInt8)} {c : List Int} (h : signsN L = some c) : c.length = L.length := by
  rw [← signs_words h, List.length_map]

set_option maxHeartbeats 8000000 in
theorem codeOf_good (L : List (List UInt8)) (hL : ∀ y ∈ L, plainC 32 y = true) (hz : (joinB 32 (codeW :: L)).length ≤ 9223372036854775806) (w : World) (hW : WordsLaid w) :
    Calls Tryz.prog 25 #[.string (strOf (joinB 32 (codeW :: L)))] w fun e w' => ((∃ c v, signsN L = some c ∧ e = .returned (.tuple #[v, .nilIface]) ∧ Reads w' v (c.take 21)) ∨ (signsN L = none ∧ e = .returned (.tuple #[.slice none 0 0, .iface 55 (.int .i64 2)]))) ∧ Below w.heap.size w w' := by
  have HC0 : Hid (∀ W, Calls Tryz.prog 47 #[.string (strOf (joinB 32 (codeW :: L))), .string ⟨#[32]⟩] W fun e w' => e = .returned (.tuple #[.string ⟨#[99, 111, 100, 101]⟩, .string (strOf (joinB 32 L)), .bool (!L.isEmpty)]) ∧ Below W.heap.size W w') := fun W => cutWord_any codeW L rfl hz W
  have HCj : Hid (∀ j y W, L[j]? = some y → Calls Tryz.prog 47 #[.string (strOf (joinB 32 (L.drop j))), .string ⟨#[32]⟩] W fun e w' => e = .returned (.tuple #[.string (strOf y), .string (strOf (joinB 32 (L.drop (j + 1)))), .bool (!(L.drop (j + 1)).isEmpty)]) ∧ Below W.heap.size W w') := fun j y W hy => by
    obtain ⟨hj, rfl⟩ := List.getElem?_eq_some_iff.1 hy
    have h1 := join_drop (c := 32) L j
    have h2 := join_tail (c := 32) codeW L
    rw [List.drop_eq_getElem_cons hj] at h1 ⊢
    exact cutWord_any _ _ (hL _ (List.getElem_mem hj)) (by omega) W
  have HSg : Hid (∀ y W, Below w.heap.size w W → Calls Tryz.prog 48 #[.string (strOf y)] W fun e w' => e = .returned (.tuple #[.int .i64 ((signN y).getD 0), errV (if (signN y).isNone = true then 2 else 0)]) ∧ W = w') := fun y W h => signOf_any y W (hW.below h)
  obtain ⟨S0, hS0⟩ : ∃ S, S = strOf (joinB 32 (codeW :: L)) := ⟨_, rfl⟩
  rw [← hS0] at HC0 ⊢
  clear hS0 hz hL hW
  obtain ⟨K, hK⟩ : ∃ K, K = w.heap.size := ⟨_, rfl⟩
  have HK : Hid (w.heap.size = K) := hK.symm
  rw [← hK] at HSg ⊢
  clear hK
  go_enter Tryz.func25, Tryz.ntmps25
  go_wp2_with fail
  go_at_call 47
  refine (HC0.out _).mono ?_
  rintro e w1 ⟨rfl, hb⟩
  have HB1 : Hid (Below K w w1) := by unfold Hid; rw [← HK.out]; exact hb
  clear hb
  go_wp2_with fail
  go_loopg [5, 6, 7] (L.length + 1) (fun gk r m v wr => ∃ (j : Nat) (c : List Int), j ≤ L.length ∧ gk + j = L.length + 1 ∧ r = .string (strOf (joinB 32 (L.drop j))) ∧ m = .bool (!(L.drop j).isEmpty) ∧ signsN (L.take j) = some c ∧ wr.ownsRow K 3 1 v (c.take 21).length ((c.take 21).map (Value.int .i64)) ∧ Below K w wr)
  case atStart => exact ⟨0, [], Nat.zero_le _, rfl, rfl, rfl, rfl, World.ownsRow_nil _ _ _ _, HB1.out⟩
  case round =>
    obtain ⟨j, c, hj, hg, rfl, rfl, hs, hown, hbel⟩ := hrel
    have HS : Hid (signsN (L.take j) = some c) := hs
    have HOw : Hid (wr.ownsRow K 3 1 u7 (c.take 21).length ((c.take 21).map (Value.int .i64))) := hown
    have HB : Hid (Below K w wr) := hbel
    have HG : Hid (gk + j = L.length + 1) := hg
    have HLc : Hid (c.length = j) := by unfold Hid; rw [signs_length hs, List.length_take]; omega
    clear hs hown hbel hg
    by_cases hlt : j < L.length
    · obtain ⟨y, hy⟩ : ∃ y, L[j]? = some y := ⟨_, List.getElem?_eq_getElem hlt⟩
      have e1 : (L.drop j).isEmpty = false := by rw [List.drop_eq_getElem_cons hlt]; rfl
      have HCy : Hid (∀ W, Calls Tryz.prog 47 #[.string (strOf (joinB 32 (L.drop j))), .string ⟨#[32]⟩] W fun e w' => e = .returned (.tuple #[.string (strOf y), .string (strOf (joinB 32 (L.drop (j + 1)))), .bool (!(L.drop (j + 1)).isEmpty)]) ∧ Below W.heap.size W w') := fun W => HCj.out j y W hy
      have HTk : Hid (L.take (j + 1) = L.take j ++ [y]) := by
        unfold Hid; rw [List.take_succ_eq_append_getElem hlt]
        obtain ⟨_, rfl⟩ := List.getElem?_eq_some_iff.1 hy
        rfl
      have HMy : Hid (y ∈ L) := List.mem_of_getElem? hy
      rw [e1]
      clear hy e1
      obtain ⟨R0, hR0⟩ : ∃ R, R = strOf (joinB 32 (L.drop j)) := ⟨_, rfl⟩
      obtain ⟨R1, hR1⟩ : ∃ R, R = strOf (joinB 32 (L.drop (j + 1))) := ⟨_, rfl⟩
      obtain ⟨b1, hb1⟩ : ∃ b, b = !(L.drop (j + 1)).isEmpty := ⟨_, rfl⟩
      rw [← hR0, ← hR1, ← hb1] at HCy
      rw [← hR0]
      have HR1 : Hid (R1 = strOf (joinB 32 (L.drop (j + 1))) ∧ b1 = !(L.drop (j + 1)).isEmpty) := ⟨hR1, hb1⟩
      clear hR0 hR1 hb1
      go_wp2_with fail
      go_at_call 47
      refine (HCy.out _).mono ?_
      rintro e w2 ⟨rfl, hb2⟩
      have HKr : Hid (K ≤ wr.heap.size) := by have := HB.out.size; have := HK.out; unfold Hid; omega
      have HB2 : Hid (Below K w w2) := HB.out.trans (hb2.mono HKr.out)
      have HK2 : Hid (K ≤ w2.heap.size) := Nat.le_trans HKr.out hb2.size
      have HO2 : Hid (w2.ownsRow K 3 1 u7 (c.take 21).length ((c.take 21).map (Value.int .i64))) := ownsRow_belowT HOw.out hb2
      clear hb2
      cases hsn : signN y with
      | none =>
        have HSy : Hid (∀ W, Below K w W → Calls Tryz.prog 48 #[.string (strOf y)] W fun e w' => e = .returned (.tuple #[.int .i64 0, .iface 55 (.int .i64 2)]) ∧ W = w') := fun W h => by
          have h := HSg.out y W h
          rw [hsn] at h
          exact h
        have HE : Hid (signsN L = none) := signs_stop HMy.out hsn
        clear hsn
        go_wp2_with fail
        go_at_call 48
        refine (HSy.out _ HB2.out).mono ?_
        rintro e w3 ⟨rfl, rfl⟩
        go_wp2_with fail
        go_ret2
        exact ⟨Or.inr ⟨HE.out, rfl⟩, HB2.out⟩
      | some s =>
        have HSy : Hid (∀ W, Below K w W → Calls Tryz.prog 48 #[.string (strOf y)] W fun e w' => e = .returned (.tuple #[.int .i64 s, .nilIface]) ∧ W = w') := fun W h => by
          have h := HSg.out y W h
          rw [hsn] at h
          exact h
        have HSm : Hid (signsN (L.take (j + 1)) = some (c ++ [s])) := by unfold Hid; rw [HTk.out]; exact signs_more HS.out hsn
        clear hsn
        go_wp2_with fail
        go_at_call 48
        refine (HSy.out _ HB2.out).mono ?_
        rintro e w3 ⟨rfl, rfl⟩
        obtain ⟨ao, am, ac, rfl⟩ := own_slice HO2.out
        have ham : am = (c.take 21).length := by
          rcases HO2.out.2 with ⟨h1, h2⟩ | ⟨g, cap, cur, h1, _⟩
          · obtain ⟨_, h3, _⟩ := Value.slice.inj h1; omega
          · exact (Value.slice.inj h1).2.1
        have hl21 : (c.take 21).length = min 21 j := by rw [List.length_take, HLc.out]
        by_cases hj20 : j ≤ 20
        · have hm20 : (am : Int) ≤ 20 := by omega
          have HT : Hid (c.take 21 = c ∧ (c ++ [s]).take 21 = c ++ [s]) := by
            have h := HLc.out
            exact ⟨List.take_of_length_le (by omega), List.take_of_length_le (by simp; omega)⟩
          have HO3 : Hid (w2.ownsRow K 3 1 (.slice ao am ac) c.length (c.map (Value.int .i64))) := by
            have h := HO2.out
            rw [HT.out.1] at h
            exact h
          have hc20 : c.length ≤ 20 := by have := HLc.out; omega
          clear ham hl21
          go_wp2_with (at_builtin; refine append_sign rfl _ _ rfl K (.slice ao am ac) rfl c s w2.heap.size 1 rfl (HO3.out.alloc _) (heap_alloc_new w2 _) (by have := HK2.out; simp; omega) hc20 ?_)
          intro v4 w4 hown4 hgrow4
          have HO4 : Hid (w4.ownsRow K 3 1 v4 ((c ++ [s]).take 21).length (((c ++ [s]).take 21).map (Value.int .i64))) := by
            unfold Hid; rw [HT.out.2, List.length_append, List.map_append]; exact hown4
          have HB4 : Hid (Below K w w4) := (HB2.out.alloc HK2.out _).grown hgrow4 (by have := HK2.out; simp; omega) (fun k hk => (HO3.out.lt k hk).1)
          clear hown4 hgrow4
          go_wp2_with fail
          go_roundg (L.length - j)
          case rel => exact ⟨j + 1, _, by omega, by omega, by rw [HR1.out.1], by rw [HR1.out.2], HSm.out, HO4.out, HB4.out⟩
          case measure => have := HG.out; omega
        · have hm20 : ¬ (am : Int) ≤ 20 := by omega
          have HO4 : Hid (w2.ownsRow K 3 1 (.slice ao am ac) ((c ++ [s]).take 21).length (((c ++ [s]).take 21).map (Value.int .i64))) := by
            unfold Hid
            rw [List.take_append_of_le_length (by have := HLc.out; omega)]
            exact HO2.out
          clear ham hl21
          go_wp2_with fail
          go_roundg (L.length - j)
          case rel => exact ⟨j + 1, _, by omega, by omega, by rw [HR1.out.1], by rw [HR1.out.2], HSm.out, HO4.out, HB2.out⟩
          case measure => have := HG.out; omega
    · obtain rfl : j = L.length := by omega
      have e1 : (L.drop L.length).isEmpty = true := by rw [List.drop_eq_nil_of_le (Nat.le_refl _)]; rfl
      rw [e1]
      clear e1
      have HE : Hid (signsN L = some c) := by have h := HS.out; rw [List.take_length] at h; exact h
      have HR : Hid (Reads wr u7 (c.take 21)) := own_readsS HOw.out (by rw [List.length_take]; omega)
      go_wp2_with fail
      go_ret2
      exact ⟨Or.inl ⟨c, u7, HE.out, rfl, HR.out⟩, HB.out⟩

set_option maxHeartbeats 4000000 in
theorem codeOf_bad (h : List UInt8) (L : List (List UInt8)) (hp : plainC 32 h = true) (hh : ¬ h = codeW) (hz : (joinB 32 (h :: L)).length ≤ 9223372036854775806) (w : World) :
    Calls Tryz.prog 25 #[.string (strOf (joinB 32 (h :: L)))] w fun e w' => e = .returned (.tuple #[.slice none 0 0, .iface 55 (.int .i64 2)]) ∧ Below w.heap.size w w' := by
  have HC0 : Hid (∀ W, Calls Tryz.prog 47 #[.string (strOf (joinB 32 (h :: L))), .string ⟨#[32]⟩] W fun e w' => e = .returned (.tuple #[.string (strOf h), .string (strOf (joinB 32 L)), .bool (!L.isEmpty)]) ∧ Below W.heap.size W w') := fun W => cutWord_any h L hp hz W
  have hn : ((strOf h).toList == [99, 111, 100, 101]) = false := by
    rw [Lib.toList_data, strOf_list]; simpa [codeW] using hh
  obtain ⟨S0, hS0⟩ : ∃ S, S = strOf (joinB 32 (h :: L)) := ⟨_, rfl⟩
  obtain ⟨S1, hS1⟩ : ∃ S, S = strOf h := ⟨_, rfl⟩
  rw [← hS0, ← hS1] at HC0
  rw [← hS0]
  rw [← hS1] at hn
  clear hS0 hS1 hz hp hh
  go_enter Tryz.func25, Tryz.ntmps25
  go_wp2_with fail
  go_at_call 47
  refine (HC0.out _).mono ?_
  rintro e w1 ⟨rfl, hb⟩
  have HB1 : Hid (Below w.heap.size w w1) := hb
  clear hb
  go_wp2_with fail
  go_ret2
  exact ⟨rfl, HB1.out⟩
end Go.Proofs.YtfnkbbpjfjendaiGreatDoor

namespace Go.Proofs.YtfnkbbpjfjendaiGreatDoor
open Go.ChangeShapes Go.WideShapes Go.ChangeAt Go.RowKit
set_option maxRecDepth 100000

/-! a text, cut at its lines' ends -/
theorem cut_shape : ∀ (n : Nat) (l : List UInt8), l.length ≤ n → ∃ H c, cutB 10 l = H ++ [c] ∧ (∀ x ∈ H, plainC 10 x = true) ∧ plainC 10 c = true ∧ l = linesT H ++ c := by
  intro n
  induction n with
  | zero =>
    intro l hl
    have : l = [] := List.length_eq_zero_iff.1 (by omega)
    subst this
    exact ⟨[], [], rfl, (fun x h => by cases h), rfl, rfl⟩
  | succ n ih =>
    intro l hl
    rcases cut_parts 10 l with h | ⟨x, r, rfl, h⟩
    · exact ⟨[], l, cutB_miss h, (fun x h => by cases h), h, rfl⟩
    · obtain ⟨H, c, h1, h2, h3, h4⟩ := ih r (by simp at hl; omega)
      refine ⟨x :: H, c, by rw [cutB_hit h, h1]; rfl, fun y hy => ?_, h3, ?_⟩
      · rcases List.mem_cons.1 hy with rfl | hy
        · exact h
        · exact h2 y hy
      · rw [h4]
        show x ++ 10 :: (linesT H ++ c) = ((x ++ [10]) ++ linesT H) ++ c
        simp
theorem cut_ended {H : List (List UInt8)} {c : List UInt8} (hH : ∀ x ∈ H, plainC 10 x = true) (hc : plainC 10 c = true) : cutB 10 (linesT H ++ c ++ [10]) = H ++ [c, []] := by
  rw [List.append_assoc]
  have h := cut_lines hH (c ++ [10])
  unfold linesT
  rw [h, cutB_hit hc]
  rfl
theorem ended_parts {H : List (List UInt8)} {c : List UInt8} (hH : ∀ x ∈ H, plainC 10 x = true) (hc : plainC 10 c = true) : headLines (linesT H ++ c ++ [10]) = H ∧ codeLine (linesT H ++ c ++ [10]) = c ∧ lastLine (linesT H ++ c ++ [10]) = [] ∧ 2 ≤ (cutB 10 (linesT H ++ c ++ [10])).length := by
  have e := cut_ended hH hc
  have hl : (cutB 10 (linesT H ++ c ++ [10])).length = H.length + 2 := by rw [e]; simp
  refine ⟨?_, ?_, ?_, by omega⟩
  · unfold headLines
    rw [hl, e, show H.length + 2 - 2 = H.length by omega, List.take_left]
  · unfold codeLine
    rw [hl, e, List.getD_eq_getElem?_getD, List.getElem?_append_right (by omega), show H.length + 2 - 2 - H.length = 0 by omega]
    rfl
  · unfold lastLine
    rw [hl, e, List.getD_eq_getElem?_getD, List.getElem?_append_right (by omega), show H.length + 2 - 1 - H.length = 1 by omega]
    rfl
theorem cutB_plain (c : UInt8) : ∀ (l : List UInt8), ∀ y ∈ cutB c l, plainC c y = true := by
  intro l
  induction l with
  | nil => intro y hy; simp [cutB] at hy; subst hy; rfl
  | cons x r ih =>
    intro y hy
    rw [cutB_cons] at hy
    by_cases hx : x = c
    · rw [if_pos hx] at hy
      rcases List.mem_cons.1 hy with rfl | hy
      · rfl
      · exact ih y hy
    · rw [if_neg hx] at hy
      obtain ⟨z, zs, e⟩ := cutB_some c r
      rw [e] at hy ih
      rcases List.mem_cons.1 hy with rfl | hy
      · exact plainC_cons hx (ih z List.mem_cons_self)
      · exact ih y (List.mem_cons_of_mem _ hy)
theorem lines_last {H : List (List UInt8)} (h : H ≠ []) : ∃ m, linesT H = m ++ [10] := by
  have e := List.dropLast_concat_getLast h
  refine ⟨linesT H.dropLast ++ H.getLast h, ?_⟩
  obtain ⟨D, hD⟩ : ∃ D, D = H.dropLast := ⟨_, rfl⟩
  obtain ⟨x, hx⟩ : ∃ x, x = H.getLast h := ⟨_, rfl⟩
  rw [← hD, ← hx] at e ⊢
  rw [← e]
  unfold linesT
  simp
theorem frame_open {s : ByteArray} (h : endB s = false) : frameBad s.data.toList = true := by
  obtain ⟨H, c, h1, h2, h3, h4⟩ := cut_shape _ s.data.toList (Nat.le_refl _)
  have hl : (cutB 10 s.data.toList).length = H.length + 1 := by rw [h1]; simp
  unfold frameBad
  by_cases h0 : H = []
  · have : (cutB 10 s.data.toList).length < 2 := by rw [hl, h0]; decide
    simp [this]
  · have hc : ¬ lastLine s.data.toList = [] := by
      unfold lastLine
      rw [hl, h1, List.getD_eq_getElem?_getD, List.getElem?_append_right (by omega), show H.length + 1 - 1 - H.length = 0 by omega]
      intro hc
      have hc' : c = [] := hc
      obtain ⟨m, hm⟩ := lines_last h0
      rw [hc', hm, List.append_nil] at h4
      have : endB s = true := by rw [← strOf_data s, h4]; exact endB_app m
      rw [h] at this
      cases this
    simp [hc]
theorem last_end {H : List (List UInt8)} {c : List UInt8} (hc : plainC 10 c = true) : lastTen (linesT H ++ c) (linesT H ++ c).length = ((linesT H).length : Int) - 1 := by
  have e : lastTen (linesT H ++ c) (linesT H ++ c).length = lastTen (linesT H ++ c) (linesT H).length := by
    refine lastTen_plain (fun j h1 h2 => ?_) (by simp)
    rw [List.getD_eq_getElem?_getD, List.getElem?_append_right h1]
    have hj : j - (linesT H).length < c.length := by rw [List.length_append] at h2; omega
    rw [List.getElem?_eq_getElem hj]
    have := List.all_eq_true.1 hc _ (List.getElem_mem hj)
    simpa using this
  rw [e]
  by_cases h0 : H = []
  · subst h0; rfl
  · obtain ⟨m, hm⟩ := lines_last h0
    rw [hm]
    have hl : (m ++ [10]).length = m.length + 1 := by simp
    rw [hl, lastTen, if_pos]
    · omega
    · rw [List.append_assoc, List.getD_eq_getElem?_getD, List.getElem?_append_right (Nat.le_refl _), Nat.sub_self]; rfl
theorem fault_take (ats : List At) (c : List Int) : formFault (ats.take 7) (c.take 21) = formFault ats c := by
  by_cases h1 : ats.length ≤ 7 ∧ c.length ≤ 21
  · rw [List.take_of_length_le h1.1, List.take_of_length_le h1.2]
  · have l1 : (ats.take 7).length = min 7 ats.length := List.length_take
    have l2 : (c.take 21).length = min 21 c.length := List.length_take
    unfold formFault
    by_cases h2 : ats.length = 0 ∨ c.length = 0
    · rw [if_pos (by omega), if_pos h2]
    · rw [if_neg (by omega), if_neg h2, if_pos (by omega), if_pos (by omega)]

/-! rows that lie elsewhere than a place that holds no number -/
def NoInt (W : World) (N : Nat) : Prop := ∀ k i, W.cell? ⟨N, k, none⟩ ≠ some (.int .i64 i)
theorem noInt_of {W : World} {N : Nat} {o1 o2 : Option Addr} {n1 c1 n2 c2 : Nat} (h : Blk W N 25 #[.slice o1 n1 c1, .slice o2 n2 c2]) : NoInt W N := by
  intro k i e
  rw [h.cell k] at e
  match k, e with
  | 0, e => simp at e
  | 1, e => simp at e
  | k + 2, e => simp at e
theorem Reads.aside {W : World} {N j : Nat} {u v : Value} {t : List Int} (hN : NoInt W N) (h : Reads W v t) : Reads (W.setCell ⟨N, j, none⟩ u) v t := by
  rcases h with h | ⟨b, off, cap, rfl, h2, h3, h4, h5⟩
  · exact Or.inl h
  · have hb : N ≠ b := fun e => hN _ _ (by rw [e]; exact h5 0 h3)
    exact Or.inr ⟨b, off, cap, rfl, by simpa [World.setCell] using h2, h3, h4, fun k hk => by rw [set_far (ne_blk hb)]; exact h5 k hk⟩
theorem ReadsA.aside {W : World} {N j : Nat} {u v : Value} {ats : List At} (hN : NoInt W N) (h : ReadsA W v ats) : ReadsA (W.setCell ⟨N, j, none⟩ u) v ats := by
  rcases h with h | ⟨b, off, cap, rfl, h2, h3, h4, h5⟩
  · exact Or.inl h
  · refine Or.inr ⟨b, off, cap, rfl, by simpa [World.setCell] using h2, h3, h4, fun i a hi => ?_⟩
    obtain ⟨vs, vt, c0, c1, c2, c3, r1, r2⟩ := h5 i a hi
    have hb : N ≠ b := fun e => hN _ _ (by rw [e]; exact c0)
    exact ⟨vs, vt, by rw [set_far (ne_blk hb)]; exact c0, by rw [set_far (ne_blk hb)]; exact c1, by rw [set_far (ne_blk hb)]; exact c2, by rw [set_far (ne_blk hb)]; exact c3, r1.aside hN, r2.aside hN⟩
theorem loadFm {W : World} {R : Nat} {c0 c1 : Value} (h0 : W.cell? ⟨R, 0, none⟩ = some c0) (h1 : W.cell? ⟨R, 1, none⟩ = some c1) : (loadVar 25 ⟨R, 0, none⟩).run Tryz.prog W = .ok (.agg #[c0, c1]) W := by
  have hl := run_loadCells_list (P := Tryz.prog) W ⟨R, 0, none⟩ [c0, c1] (fun j v hj => by
    match j, hj with
    | 0, hj => simp at hj; subst hj; simpa [Addr.add] using h0
    | 1, hj => simp at hj; subst hj; simpa [Addr.add] using h1)
  simp [loadVar, Tryz.isAgg25, Tryz.sizeOf25, Result.andThen] at hl ⊢
  simp [hl]

/-- what Parse answers. -/
def ParseA (RA : List At) (RC : List Int) (F : Int) (e : Ending) (w' : World) : Prop := ∃ va vc, e = .returned (.tuple #[.agg #[va, vc], errV F]) ∧ ReadsA w' va RA ∧ Reads w' vc RC
set_option maxHeartbeats 4000000 in
theorem tparse_open (s : ByteArray) (hz : s.size ≤ 9223372036854775807) (he : endB s = false) (w : World) :
    Calls Tryz.prog 11 #[.string s] w fun e w' => e = .returned (.tuple #[.agg #[.slice none 0 0, .slice none 0 0], .iface 55 (.int .i64 2)]) ∧ Below w.heap.size w w' := by
  obtain ⟨w1, hw1⟩ : ∃ w1, w1 = w.alloc (.cells #[.slice none 0 0, .slice none 0 0] 25) := ⟨_, rfl⟩
  have HB1 : Hid (Below w.heap.size w w1) := by unfold Hid; rw [hw1]; exact below_alloc1 _ _
  have HP1 : Hid (Blk w1 w.heap.size 25 #[.slice none 0 0, .slice none 0 0]) := by unfold Hid; rw [hw1]; exact Blk.new _ _ _
  have HC : Hid (∀ W, Calls Tryz.prog 23 #[.string s, .string ⟨#[10]⟩] W fun e w' => e = .returned (.tuple #[.string s, .bool false]) ∧ W = w') := fun W => cutEnd_miss s hz he W
  clear hz he
  go_enter Tryz.func11, Tryz.ntmps11
  go_upto_region 1 with fail
  rw [← hw1]
  clear hw1
  go_wp2_with fail
  go_at_call 23
  refine (HC.out _).mono ?_
  rintro e w' ⟨rfl, rfl⟩
  have x0 : w1.cell? ⟨w.heap.size, 0, none⟩ = some (.slice none 0 0) := HP1.out.cell 0
  have x1 : w1.cell? ⟨w.heap.size, 1, none⟩ = some (.slice none 0 0) := HP1.out.cell 1
  have f0 : w1.frozen? ⟨w.heap.size, 0, none⟩ = false := HP1.out.frozen 0
  have f1 : w1.frozen? ⟨w.heap.size, 1, none⟩ = false := HP1.out.frozen 1
  go_wp2_with fail
  refine bodyPost_ret (v := .tuple #[.agg #[.slice none 0 0, .slice none 0 0], .iface 55 (.int .i64 2)]) ?_ rfl ⟨rfl, (HB1.out.setCell (Nat.le_refl w.heap.size) _).setCell (Nat.le_refl w.heap.size) _⟩
  have hb := (HP1.out.set 0 (.slice none 0 0)).set 1 (.slice none 0 0)
  rw [results_cell_tmp rfl]
  simp [asAddr, Result.andThen, loadFm (hb.cell 0) (hb.cell 1)]

set_option maxHeartbeats 8000000 in
theorem tparse_in (s B A C : ByteArray) (n : Nat) (w : World) (ta RA : List At) (tc RC : List Int) (F : Int) (okC : Prop)
    (HCu : Hid (∀ W, Calls Tryz.prog 23 #[.string s, .string ⟨#[10]⟩] W fun e w' => e = .returned (.tuple #[.string B, .bool true]) ∧ W = w'))
    (HLa : Hid (∀ W, Calls Tryz.prog 24 #[.string B, .string ⟨#[10]⟩] W fun e w' => e = .returned (.int .i64 ((n : Int) - 1)) ∧ W = w'))
    (HeC : Hid (B.extract n B.size = C)) (HeA : Hid (B.extract 0 n = A)) (hn : (n : Int) ≤ (B.size : Int)) (hz : (B.size : Int) ≤ 9223372036854775806)
    (HCo : Hid (∀ W, Below w.heap.size w W → Calls Tryz.prog 25 #[.string C] W fun e w' => ((∃ v, okC ∧ e = .returned (.tuple #[v, .nilIface]) ∧ Reads w' v tc) ∨ (F = 2 ∧ e = .returned (.tuple #[.slice none 0 0, .iface 55 (.int .i64 2)]))) ∧ Below W.heap.size W w'))
    (HAo : Hid (okC → ∀ W, Below w.heap.size w W → Calls Tryz.prog 26 #[.string A] W fun e w' => ((∃ v, F = formFault ta tc ∧ e = .returned (.tuple #[v, .nilIface]) ∧ ReadsA w' v ta) ∨ (¬ F = 0 ∧ e = .returned (.tuple #[.slice none 0 0, .iface 55 (.int .i64 F)]))) ∧ Below W.heap.size W w'))
    (HCk : Hid (∀ va vc W, Below w.heap.size w W → ReadsA W va ta → Reads W vc tc → Calls Tryz.prog 13 #[.agg #[va, vc]] W fun e w' => e = .returned (errV (formFault ta tc)) ∧ Below W.heap.size W w'))
    (HR0 : Hid (F = 0 → RA = ta ∧ RC = tc)) (HR1 : Hid (¬ F = 0 → RA = [] ∧ RC = [])) :
    Calls Tryz.prog 11 #[.string s] w fun e w' => ParseA RA RC F e w' ∧ Below w.heap.size w w' := by
  obtain ⟨w1, hw1⟩ : ∃ w1, w1 = w.alloc (.cells #[.slice none 0 0, .slice none 0 0] 25) := ⟨_, rfl⟩
  have HB1 : Hid (Below w.heap.size w w1) := by unfold Hid; rw [hw1]; exact below_alloc1 _ _
  have HP1 : Hid (Blk w1 w.heap.size 25 #[.slice none 0 0, .slice none 0 0]) := by unfold Hid; rw [hw1]; exact Blk.new _ _ _
  have HBad : Hid (∀ W, ¬ F = 0 → Below w.heap.size w W → ParseA RA RC F (.returned (.tuple #[.agg #[.slice none 0 0, .slice none 0 0], .iface 55 (.int .i64 F)])) W ∧ Below w.heap.size w W) := fun W hF hW => by
    obtain ⟨e1, e2⟩ := HR1.out hF
    refine ⟨⟨.slice none 0 0, .slice none 0 0, by rw [errV_no hF], ?_, ?_⟩, hW⟩
    · rw [e1]; exact Or.inl ⟨none, 0, rfl, rfl⟩
    · rw [e2]; exact Or.inl ⟨none, 0, rfl, rfl⟩
  have HLd : Hid (∀ W, Blk W w.heap.size 25 #[.slice none 0 0, .slice none 0 0] → ∀ v u, (loadVar 25 ⟨w.heap.size, 0, none⟩).run Tryz.prog ((W.setCell ⟨w.heap.size, 0, none⟩ v).setCell ⟨w.heap.size, 1, none⟩ u) = .ok (.agg #[v, u]) ((W.setCell ⟨w.heap.size, 0, none⟩ v).setCell ⟨w.heap.size, 1, none⟩ u)) := fun W h v u => by
    have hb := (h.set 0 v).set 1 u
    exact loadFm (hb.cell 0) (hb.cell 1)
  have hn0 : (0 : Int) ≤ (n : Int) := by omega
  go_enter Tryz.func11, Tryz.ntmps11
  go_upto_region 1 with fail
  rw [← hw1]
  clear hw1
  go_wp2_with fail
  go_at_call 23
  refine (HCu.out _).mono ?_
  rintro e w' ⟨rfl, rfl⟩
  go_wp2_with fail
  go_at_call 24
  refine (HLa.out _).mono ?_
  rintro e w' ⟨rfl, rfl⟩
  go_upto_region 5 with fail
  go_wp2_with fail
  rw [HeC.out]
  go_at_call 25
  refine (HCo.out _ HB1.out).mono ?_
  rintro e w2 ⟨hor, hb⟩
  have HB2 : Hid (Below w.heap.size w w2) := HB1.out.trans (hb.mono HB1.out.size)
  have HP2 : Hid (Blk w2 w.heap.size 25 #[.slice none 0 0, .slice none 0 0]) := HP1.out.below hb
  clear hb
  rcases hor with ⟨vc, hok, rfl, hrc⟩ | ⟨rfl, rfl⟩
  · obtain ⟨co, ccap, rfl, _⟩ := hrc.slice
    obtain ⟨cl, hcl⟩ : ∃ n, n = tc.length := ⟨_, rfl⟩
    rw [← hcl] at hrc ⊢
    clear hcl
    have HRc : Hid (Reads w2 (.slice co cl ccap) tc) := hrc
    have HAo' : Hid (∀ W, Below w.heap.size w W → Calls Tryz.prog 26 #[.string A] W fun e w' => ((∃ v, F = formFault ta tc ∧ e = .returned (.tuple #[v, .nilIface]) ∧ ReadsA w' v ta) ∨ (¬ F = 0 ∧ e = .returned (.tuple #[.slice none 0 0, .iface 55 (.int .i64 F)]))) ∧ Below W.heap.size W w') := HAo.out hok
    clear hrc hok
    go_wp2_with fail
    rw [HeA.out]
    go_at_call 26
    refine (HAo'.out _ HB2.out).mono ?_
    rintro e w3 ⟨hor, hb⟩
    have HB3 : Hid (Below w.heap.size w w3) := HB2.out.trans (hb.mono HB2.out.size)
    have HP3 : Hid (Blk w3 w.heap.size 25 #[.slice none 0 0, .slice none 0 0]) := HP2.out.below hb
    have HRc3 : Hid (Reads w3 (.slice co cl ccap) tc) := HRc.out.below hb
    clear hb
    rcases hor with ⟨va, hFe, rfl, hra⟩ | ⟨hF, rfl⟩
    · obtain ⟨ao, acap, rfl, _⟩ := hra.slice
      obtain ⟨al, hal⟩ : ∃ n, n = ta.length := ⟨_, rfl⟩
      rw [← hal] at hra ⊢
      clear hal
      have HRa : Hid (ReadsA w3 (.slice ao al acap) ta) := hra
      have HFe : Hid (F = formFault ta tc) := hFe
      clear hra hFe
      obtain ⟨w4, hw4⟩ : ∃ x, x = w3.alloc (.cells #[.slice ao al acap, .slice co cl ccap] 25) := ⟨_, rfl⟩
      obtain ⟨G, hG⟩ : ∃ G, G = w3.heap.size := ⟨_, rfl⟩
      have hb4 : Below w3.heap.size w3 w4 := by rw [hw4]; exact below_alloc1 _ _
      have HB4 : Hid (Below w.heap.size w w4) := HB3.out.trans (hb4.mono HB3.out.size)
      have HP4 : Hid (Blk w4 w.heap.size 25 #[.slice none 0 0, .slice none 0 0]) := HP3.out.below hb4
      have HG4 : Hid (Blk w4 G 25 #[.slice ao al acap, .slice co cl ccap]) := by unfold Hid; rw [hw4, hG]; exact Blk.new _ _ _
      have HRc4 : Hid (Reads w4 (.slice co cl ccap) tc) := HRc3.out.below hb4
      have HRa4 : Hid (ReadsA w4 (.slice ao al acap) ta) := HRa.out.below hb4
      clear hb4
      go_upto_region 12 with fail
      rw [← hw4, ← hG]
      clear hw4 hG
      have y0 : w4.cell? ⟨G, 0, none⟩ = some (.slice ao al acap) := HG4.out.cell 0
      have y1 : w4.cell? ⟨G, 1, none⟩ = some (.slice co cl ccap) := HG4.out.cell 1
      go_wp2_with fail
      go_at_call 13
      refine (HCk.out _ _ _ HB4.out HRa4.out HRc4.out).mono ?_
      rintro e w5 ⟨rfl, hb⟩
      have HB5 : Hid (Below w.heap.size w w5) := HB4.out.trans (hb.mono HB4.out.size)
      have HP5 : Hid (Blk w5 w.heap.size 25 #[.slice none 0 0, .slice none 0 0]) := HP4.out.below hb
      have HG5 : Hid (Blk w5 G 25 #[.slice ao al acap, .slice co cl ccap]) := HG4.out.below hb
      have HRc5 : Hid (Reads w5 (.slice co cl ccap) tc) := HRc4.out.below hb
      have HRa5 : Hid (ReadsA w5 (.slice ao al acap) ta) := HRa4.out.below hb
      clear hb y0 y1
      rw [← HFe.out]
      by_cases hF : F = 0
      · have HF : Hid (F = 0) := hF
        rw [show errV F = .nilIface by rw [hF]; rfl]
        clear hF
        have y0 : w5.cell? ⟨G, 0, none⟩ = some (.slice ao al acap) := HG5.out.cell 0
        have y1 : w5.cell? ⟨G, 1, none⟩ = some (.slice co cl ccap) := HG5.out.cell 1
        have x0 : w5.cell? ⟨w.heap.size, 0, none⟩ = some (.slice none 0 0) := HP5.out.cell 0
        have x1 : w5.cell? ⟨w.heap.size, 1, none⟩ = some (.slice none 0 0) := HP5.out.cell 1
        have f0 : w5.frozen? ⟨w.heap.size, 0, none⟩ = false := HP5.out.frozen 0
        have f1 : w5.frozen? ⟨w.heap.size, 1, none⟩ = false := HP5.out.frozen 1
        go_wp2_with fail
        have hb5 := HP5.out.set 0 (.slice ao al acap)
        have hN0 := noInt_of HP5.out
        have hN1 : NoInt (w5.setCell ⟨w.heap.size, 0, none⟩ (.slice ao al acap)) w.heap.size := noInt_of (o1 := ao) (n1 := al) (c1 := acap) (o2 := none) (n2 := 0) (c2 := 0) hb5
        obtain ⟨e1, e2⟩ := HR0.out HF.out
        refine bodyPost_ret (v := .tuple #[.agg #[.slice ao al acap, .slice co cl ccap], .nilIface]) ?_ rfl ⟨⟨_, _, by rw [HF.out]; rfl, ?_, ?_⟩, (HB5.out.setCell (Nat.le_refl w.heap.size) _).setCell (Nat.le_refl w.heap.size) _⟩
        · rw [results_cell_tmp rfl]
          simp [asAddr, Result.andThen, HLd.out w5 HP5.out]
        · rw [e1]; exact (HRa5.out.aside hN0).aside hN1
        · rw [e2]; exact (HRc5.out.aside hN0).aside hN1
      · have HF : Hid (¬ F = 0) := hF
        rw [errV_no hF]
        clear hF
        have x0 : w5.cell? ⟨w.heap.size, 0, none⟩ = some (.slice none 0 0) := HP5.out.cell 0
        have x1 : w5.cell? ⟨w.heap.size, 1, none⟩ = some (.slice none 0 0) := HP5.out.cell 1
        have f0 : w5.frozen? ⟨w.heap.size, 0, none⟩ = false := HP5.out.frozen 0
        have f1 : w5.frozen? ⟨w.heap.size, 1, none⟩ = false := HP5.out.frozen 1
        go_wp2_with fail
        refine bodyPost_ret (v := .tuple #[.agg #[.slice none 0 0, .slice none 0 0], .iface 55 (.int .i64 F)]) ?_ rfl (HBad.out _ HF.out ((HB5.out.setCell (Nat.le_refl w.heap.size) _).setCell (Nat.le_refl w.heap.size) _))
        rw [results_cell_tmp rfl]
        simp [asAddr, Result.andThen, HLd.out w5 HP5.out]
    · have HF : Hid (¬ F = 0) := hF
      clear hF
      have x0 : w3.cell? ⟨w.heap.size, 0, none⟩ = some (.slice none 0 0) := HP3.out.cell 0
      have x1 : w3.cell? ⟨w.heap.size, 1, none⟩ = some (.slice none 0 0) := HP3.out.cell 1
      have f0 : w3.frozen? ⟨w.heap.size, 0, none⟩ = false := HP3.out.frozen 0
      have f1 : w3.frozen? ⟨w.heap.size, 1, none⟩ = false := HP3.out.frozen 1
      go_wp2_with fail
      refine bodyPost_ret (v := .tuple #[.agg #[.slice none 0 0, .slice none 0 0], .iface 55 (.int .i64 F)]) ?_ rfl (HBad.out _ HF.out ((HB3.out.setCell (Nat.le_refl w.heap.size) _).setCell (Nat.le_refl w.heap.size) _))
      rw [results_cell_tmp rfl]
      simp [asAddr, Result.andThen, HLd.out w3 HP3.out]
  · have HF : Hid (¬ (2 : Int) = 0) := by unfold Hid; decide
    have x0 : w2.cell? ⟨w.heap.size, 0, none⟩ = some (.slice none 0 0) := HP2.out.cell 0
    have x1 : w2.cell? ⟨w.heap.size, 1, none⟩ = some (.slice none 0 0) := HP2.out.cell 1
    have f0 : w2.frozen? ⟨w.heap.size, 0, none⟩ = false := HP2.out.frozen 0
    have f1 : w2.frozen? ⟨w.heap.size, 1, none⟩ = false := HP2.out.frozen 1
    go_wp2_with fail
    refine bodyPost_ret (v := .tuple #[.agg #[.slice none 0 0, .slice none 0 0], .iface 55 (.int .i64 2)]) ?_ rfl (HBad.out _ HF.out ((HB2.out.setCell (Nat.le_refl w.heap.size) _).setCell (Nat.le_refl w.heap.size) _))
    rw [results_cell_tmp rfl]
    simp [asAddr, Result.andThen, HLd.out w2 HP2.out]

/-- Parse, whatever the text. -/
theorem tparse_any (s : ByteArray) (hz : s.size ≤ 4611686018427387903) (w : World) (hK : KindsLaid w) (hL : LibLaid w) (hW : WordsLaid w) :
    Calls Tryz.prog 11 #[.string s] w fun e w' => (∃ va vc, e = .returned (.tuple #[.agg #[va, vc], errV (formTextFault s.data.toList)]) ∧ ReadsA w' va (readA s.data.toList) ∧ Reads w' vc (readC s.data.toList)) ∧ Below w.heap.size w w' := by
  cases he : endB s with
  | false =>
    have hf : formTextFault s.data.toList = 2 := by unfold formTextFault; rw [if_pos (frame_open he)]
    have h2 : ¬ formTextFault s.data.toList = 0 := by rw [hf]; decide
    refine (tparse_open s (by omega) he w).mono ?_
    rintro e w' ⟨rfl, hb⟩
    refine ⟨⟨_, _, by rw [hf]; rfl, ?_, ?_⟩, hb⟩
    · unfold readA; rw [if_neg h2]; exact Or.inl ⟨none, 0, rfl, rfl⟩
    · unfold readC; rw [if_neg h2]; exact Or.inl ⟨none, 0, rfl, rfl⟩
  | true =>
    obtain ⟨l, hs, hsl⟩ := endB_some he
    obtain ⟨H, c, h1, hH, hc, hl⟩ := cut_shape _ l (Nat.le_refl _)
    have hsz : s.size = l.length + 1 := by rw [hs, strOf_size]; simp
    have hln : l.length = (linesT H).length + c.length := by rw [hl, List.length_append]
    obtain ⟨p1, p2, p3, p4⟩ := ended_parts hH hc
    rw [← hl, ← hsl] at p1 p2 p3 p4
    obtain ⟨t, ht⟩ : ∃ t, t = s.data.toList := ⟨_, rfl⟩
    rw [← ht] at p1 p2 p3 p4 ⊢
    obtain ⟨h, L, hw⟩ : ∃ h L, cutL c = h :: L := by
      obtain ⟨y, ys, e⟩ := cutB_some 32 c
      exact ⟨y, ys, by rw [cutL_eq]; exact e⟩
    have hj : joinB 32 (h :: L) = c := by
      have e := join_cut 32 _ c (Nat.le_refl _)
      rw [← cutL_eq, hw] at e
      exact e
    have hpl : ∀ y ∈ h :: L, plainC 32 y = true := by
      rw [← hw, cutL_eq]
      exact cutB_plain 32 c
    have hfr : frameBad t = (decide (¬ h = codeW) || (signsN L).isNone) := by
      unfold frameBad codeWords
      rw [p2, p3, hw]
      have q : ¬ (cutB 10 t).length < 2 := by omega
      simp [q]
    have hcw : codeWords t = L := by unfold codeWords; rw [p2, hw]; rfl
    refine tparse_in s (strOf l) (strOf (linesT H)) (strOf c) (linesT H).length w ((H.map atOf).take 7) (readA t) (((signsN L).getD []).take 21) (readC t) (formTextFault t) (h = codeW ∧ (signsN L).isNone = false) (fun W => ?_) (fun W => ?_) ?_ ?_ (by rw [strOf_size]; omega) (by rw [strOf_size]; omega) (fun W hb => ?_) (fun hok W hb => ?_) (fun va vc W hb h1 h2 => fcheck_any va vc _ _ W h1 h2 (hK.below hb)) (fun hF => ?_) (fun hF => ?_)
    · rw [hs]; exact cutEnd_hit l (by omega) W
    · have q := lastIndex_any (strOf l) (by rw [strOf_size]; omega) W
      have e : lastTen (strOf l).data.toList (strOf l).size = ((linesT H).length : Int) - 1 := by rw [strOf_list, strOf_size, hl]; exact last_end hc
      rw [e] at q
      exact q
    · show (strOf l).extract _ _ = _
      rw [strOf_drop _ _ _ (strOf_size _), hl, List.drop_left]
    · show (strOf l).extract _ _ = _
      rw [strOf_take, hl, List.take_left]
    · rw [← hj]
      have hz' : (joinB 32 (h :: L)).length ≤ 9223372036854775806 := by rw [hj]; omega
      by_cases hh : h = codeW
      · subst hh
        refine (codeOf_good L (fun y hy => hpl y (List.mem_cons_of_mem _ hy)) hz' W (hW.below hb)).mono ?_
        rintro e w' ⟨(⟨cc, v, e1, rfl, r⟩ | ⟨e1, rfl⟩), hb'⟩
        · refine ⟨Or.inl ⟨v, ⟨rfl, by rw [e1]; rfl⟩, rfl, ?_⟩, hb'⟩
          rw [e1]; exact r
        · refine ⟨Or.inr ⟨?_, rfl⟩, hb'⟩
          unfold formTextFault; rw [if_pos (by rw [hfr, e1]; simp)]
      · refine (codeOf_bad h L (hpl h List.mem_cons_self) hh hz' W).mono ?_
        rintro e w' ⟨rfl, hb'⟩
        refine ⟨Or.inr ⟨?_, rfl⟩, hb'⟩
        unfold formTextFault; rw [if_pos (by rw [hfr]; simp [hh])]
    · have hfr' : frameBad t = false := by rw [hfr, hok.2]; simp [hok.1]
      refine (atomsOf_any H hH (by omega) W (hK.below hb) (hL.below hb)).mono ?_
      rintro e w' ⟨(⟨e1, v, rfl, r⟩ | ⟨e1, rfl⟩), hb'⟩
      · refine ⟨Or.inl ⟨v, ?_, rfl, r⟩, hb'⟩
        unfold formTextFault textAts textCode
        rw [hfr', if_neg (by decide), p1, if_pos e1, fault_take, hcw]
      · have e2 : formTextFault t = linesFault H := by unfold formTextFault; rw [hfr', if_neg (by decide), p1, if_neg e1]
        exact ⟨Or.inr ⟨by rw [e2]; exact e1, by rw [e2]⟩, hb'⟩
    · obtain ⟨q1, q2⟩ := print_read hF
      obtain ⟨⟨_, g1⟩, ⟨_, g2⟩, _⟩ := formFault_zero.1 q2
      have a1 : textAts t = H.map atOf := by unfold textAts; rw [p1]
      have a2 : textCode t = (signsN L).getD [] := by unfold textCode; rw [hcw]
      unfold readA readC
      rw [if_pos hF, if_pos hF, ← a1, ← a2]
      exact ⟨(List.take_of_length_le (by omega)).symm, (List.take_of_length_le (by omega)).symm⟩
    · unfold readA readC
      rw [if_neg hF, if_neg hF]
      exact ⟨rfl, rfl⟩
end Go.Proofs.YtfnkbbpjfjendaiGreatDoor

namespace Go.Proofs.YtfnkbbpjfjendaiGreatDoor
open Go.ChangeShapes Go.WideShapes Go.ChangeAt Go.RowKit Go.Deep
set_option maxRecDepth 100000

theorem kdG : Tryz.prog.globalNamed "vennhouse/atom.kinds" = some 1 := by kernel_rfl
theorem kdT : (Tryz.prog.globals[1]?).map (·.type) = some 81 := by kernel_rfl
theorem kdC : Tryz.prog.cellsOf 80 = 3 := by kernel_rfl
theorem kdA : Tryz.prog.cellsOf 81 = 18 := by kernel_rfl
theorem kdS : Tryz.prog.cellsOf 9 = 1 := by kernel_rfl
theorem kdB : Tryz.prog.cellsOf 4 = 1 := by kernel_rfl

theorem kind_of_trod {w : World} {cs : List Value} {fuel : Nat} {text : List UInt8} {b1 b2 : Bool} {y : DataW Unit × List MemPlace} (hy : y.1 = .agg [.lit (.string text), .lit (.bool b1), .lit (.bool b2)])
    (h : DataW.trod (fun _ => ()) Tryz.prog w 0 (fun _ => true) false fuel 80 cs = some y) : cs = [.string ⟨text.toArray⟩, .bool b1, .bool b2] := by
  obtain ⟨y0, y1, y2, n, e, hl, t0, t1, t2⟩ := trod_struct3 Tryz.underlying80 h
  rw [kdC] at hl
  obtain ⟨c0, c1, c2, rfl⟩ : ∃ c0 c1 c2, cs = [c0, c1, c2] := by
    match cs, hl with
    | [a, b, c], _ => exact ⟨a, b, c, rfl⟩
  · simp only [kdS, kdB] at t0 t1 t2
    obtain ⟨s, e0, f0, _⟩ := DataW.trod_string Tryz.underlying9 t0
    obtain ⟨x1, e1, f1⟩ := DataW.trod_bool Tryz.underlying4 t1
    obtain ⟨x2, e2, f2⟩ := DataW.trod_bool Tryz.underlying4 t2
    simp at e0 e1 e2
    subst e0 e1 e2
    subst f0 f1 f2
    subst e
    simp at hy
    obtain ⟨rfl, rfl, rfl⟩ := hy
    rfl

theorem kinds_of_head {r : List (String × DataW Unit)} {W : World} (h : laidMet Tryz.prog (("vennhouse/atom.kinds", Rows.laid_vennhouse_atom_kinds) :: r) W) : KindsLaid W := by
  obtain ⟨ps, ⟨g0, t0, cs0, f0, p0, q0, hg0, ht0, hv0, hd0, _, e0⟩, _, hrows⟩ := h
  obtain rfl := Option.some.inj (kdG.symm.trans hg0)
  obtain rfl := Option.some.inj (kdT.symm.trans ht0)
  obtain ⟨xs, m, _, hx, hlen, hxl, hi⟩ := DataW.trod_array Tryz.underlying81 hd0
  simp only [kdC] at hi
  rw [kdA] at hlen
  have hx1 : Rows.laid_vennhouse_atom_kinds = .agg (xs.map (·.1)) := congrArg Prod.fst hx
  obtain ⟨a0, a1, a2, a3, a4, a5, rfl⟩ : ∃ a0 a1 a2 a3 a4 a5, xs = [a0, a1, a2, a3, a4, a5] := by
    match xs, hxl with
    | [a, b, c, d, e, f], _ => exact ⟨a, b, c, d, e, f, rfl⟩
  · unfold Rows.laid_vennhouse_atom_kinds at hx1
    simp only [List.map, DataW.agg.injEq, List.cons.injEq, and_true] at hx1
    obtain ⟨g0, g1, g2, g3, g4, g5⟩ := hx1
    have k0 := kind_of_trod g0.symm (hi 0 (by decide))
    have k1 := kind_of_trod g1.symm (hi 1 (by decide))
    have k2 := kind_of_trod g2.symm (hi 2 (by decide))
    have k3 := kind_of_trod g3.symm (hi 3 (by decide))
    have k4 := kind_of_trod g4.symm (hi 4 (by decide))
    have k5 := kind_of_trod g5.symm (hi 5 (by decide))
    have hl : cs0.toList = kindCells := by
      have e : cs0.toList = (cs0.toList.drop (0 * 3)).take 3 ++ ((cs0.toList.drop (1 * 3)).take 3 ++ ((cs0.toList.drop (2 * 3)).take 3 ++ ((cs0.toList.drop (3 * 3)).take 3 ++ ((cs0.toList.drop (4 * 3)).take 3 ++ ((cs0.toList.drop (5 * 3)).take 3))))) := by
        match cs0.toList, hlen with
        | [_, _, _, _, _, _, _, _, _, _, _, _, _, _, _, _, _, _], _ => rfl
      rw [e, k0, k1, k2, k3, k4, k5]
      rfl
    intro j hj
    have hc := World.var?_cell kdG hv0 j
    rw [hc]
    have : cs0[j]? = cs0.toList[j]? := by simp
    rw [this, hl]
    have hj' : j < kindCells.length := hj
    simp [List.getElem?_eq_getElem hj']
end Go.Proofs.YtfnkbbpjfjendaiGreatDoor

namespace Go.Proofs.YtfnkbbpjfjendaiGreatDoor
open Go.ChangeShapes Go.WideShapes Go.ChangeAt Go.RowKit
set_option maxRecDepth 100000

theorem ownB : ownKnob Tryz.prog.godebug = none := by kernel_rfl
theorem p10G : Tryz.prog.globalNamed "internal/strconv.uint64pow10" = some 4 := by kernel_rfl
theorem p10T : (Tryz.prog.globals[4]?).map (·.type) = some 157 := by kernel_rfl
theorem p10C : Tryz.prog.cellsOf 146 = 1 := by kernel_rfl
theorem p10A : Tryz.prog.cellsOf 157 = 20 := by kernel_rfl
theorem p10D : (Rows.laid_internal_strconv_uint64pow10 : DataW Unit) = Lib.tabData .u64 Lib.pow10Tab := by kernel_rfl
theorem esG : Tryz.prog.globalNamed "strconv.ErrSyntax" = some 5 := by kernel_rfl
theorem esT : (Tryz.prog.globals[5]?).map (·.type) = some 29 := by kernel_rfl
theorem esC : Tryz.prog.cellsOf 189 = 1 := by kernel_rfl
theorem esS : Tryz.prog.cellsOf 9 = 1 := by kernel_rfl
theorem starE : "*" ++ "errors.errorString" = "*errors.errorString" := by decide
theorem rowE (u : TypeId) (h : Tryz.prog.typeName? 3 u = some "*errors.errorString") : u = 187 :=
  typeName_ptr_named (nm := "errors.errorString") (by rw [starE]; kernel_rfl) (by kernel_rfl) (by decide) u (by rw [starE]; exact h)

def laidB : List (String × DataW Unit) := [("math/bits.deBruijn32tab", Rows.laid_math_bits_deBruijn32tab), ("math/bits.deBruijn64tab", Rows.laid_math_bits_deBruijn64tab), ("internal/strconv.uint64pow10", Rows.laid_internal_strconv_uint64pow10), ("unicode/utf8.acceptRanges", Rows.laid_unicode_utf8_acceptRanges), ("strconv.ErrRange", Rows.laid_strconv_ErrRange), ("strconv.ErrSyntax", Rows.laid_strconv_ErrSyntax), ("vennhouse/atom.kinds", Rows.laid_vennhouse_atom_kinds), ("unicode/utf8.first", Rows.laid_unicode_utf8_first)]
theorem back_of_met {W : World} (h : laidMetH Tryz.prog laidB W) : KindsLaid W ∧ LibLaid W := by
  have h' : laidMet Tryz.prog laidB W := h
  unfold laidB at h'
  refine ⟨kinds_of_head h'.tail.tail.tail.tail.tail.tail, ?_, ?_⟩
  · have h2 := h'.tail.tail
    rw [p10D] at h2
    exact Lib.tabIs_of_head p10G p10T Tryz.underlying157 Tryz.underlying146 p10C p10A h2
  · obtain ⟨a, s, hv, _⟩ := laid_sentinel h'.tail.tail.tail.tail.tail esG esT Tryz.underlying29 rowE Tryz.underlying187 Tryz.underlying189 rfl rfl Tryz.underlying9 esC esS
    exact ⟨_, _, hv⟩
theorem doorB_met (os : Os) (args : Array Value) : laidMetH Tryz.prog laidB ((World.laidAll Tryz.prog os laidB).forCall (fun _ _ => 0) ⟨#[], args, []⟩).memory := by
  rw [MakeChecks.laidMetH_plain _ _ _ (by kernel_rfl)]
  exact laidMet_laidAll _ (by kernel_rfl) (by kernel_rfl)
theorem startB_shaped (os : Os) (args : Array Value) : ((World.laidAll Tryz.prog os laidB).forCall (fun _ _ => 0) ⟨#[], args, []⟩).Shaped Tryz.prog := World.shaped_of_ZipB (by kernel_rfl) (by kernel_rfl)
end Go.Proofs.YtfnkbbpjfjendaiGreatDoor
