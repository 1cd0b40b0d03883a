/-
  Proved: what form.moved returns, of a right Code: a new row whose atoms have numbers greater by so many; what was in memory is as it was (a contract that the statements lean on).
-/
import Derived.Test.YtenmheenieifpabDoorFormCopies
namespace Go.Proofs.YtenmheenieifpabDoor
open Go.ChangeShapes Go.WideShapes Go.ChangeAt Go.RowKit
set_option maxRecDepth 100000

/-- a Code of which the first k signs are moved. -/
def mixF (m : Nat) (c : List Int) (k : Nat) : List Int := (c.take k).map (movedF m) ++ c.drop k
theorem mixF_len (m : Nat) (c : List Int) (k : Nat) : (mixF m c k).length = c.length := by
  unfold mixF; simp; omega
theorem mixF_all (m : Nat) (c : List Int) (k : Nat) (h : c.length ≤ k) : mixF m c k = c.map (movedF m) := by
  unfold mixF; rw [List.take_of_length_le h, List.drop_eq_nil_of_le h, List.append_nil]
theorem mixF_at (m : Nat) (c : List Int) {k : Nat} (h : k < c.length) : (mixF m c k).getD k 0 = c.getD k 0 := by
  unfold mixF
  rw [List.getD_eq_getElem?_getD, List.getElem?_append_right (by simp; omega), List.getElem?_drop]
  simp [Nat.min_eq_left (Nat.le_of_lt h)]
theorem mixF_set (m : Nat) (c : List Int) {k : Nat} (h : k < c.length) : (mixF m c k).set k (movedF m (c.getD k 0)) = mixF m c (k + 1) := by
  unfold mixF
  have hl : ((c.take k).map (movedF m)).length = k := by simp; omega
  rw [List.set_append_right _ _ (by omega), hl, Nat.sub_self, List.drop_eq_getElem_cons h, List.set_cons_zero, List.take_succ_eq_append_getElem h, List.map_append, List.append_assoc, show c.getD k 0 = c[k] by rw [List.getD_eq_getElem?_getD, List.getElem?_eq_getElem h]; rfl]
  rfl
theorem mixF_keep (m : Nat) (c : List Int) {k : Nat} (h : k < c.length) (h0 : takesF (c.getD k 0) ≠ 0) : mixF m c (k + 1) = mixF m c k := by
  rw [← mixF_set m c h]
  have e : movedF m (c.getD k 0) = c.getD k 0 := by unfold movedF; rw [if_neg h0]
  have hk : k < (mixF m c k).length := by rw [mixF_len]; exact h
  rw [e, ← mixF_at m c h, List.getD_eq_getElem?_getD, List.getElem?_eq_getElem hk]
  exact List.set_getElem_self hk

set_option maxHeartbeats 4000000 in
theorem moved_any (c : List Int) (v : Value) (m : Nat) (w : World) (h : Reads w v c) (h0 : 0 < c.length) (hl : c.length ≤ 40) (hm : m ≤ 6) (hs : ∀ s ∈ c, takesF s = 0 → 0 ≤ s ∧ s ≤ 6) :
    Calls Tryd.prog 45 #[v, .int .i64 m] w fun e w' => ∃ o q, e = .returned (.slice o c.length q) ∧ Fresh w.heap.size w' (.slice o c.length q) (c.map (movedF m)) ∧ Below w.heap.size w w' := by
  have HCp : Hid (Calls Tryd.prog 62 #[v] w fun e w' => ∃ g q, e = .returned (.slice (some ⟨g, 0, none⟩) c.length q) ∧ Fresh w.heap.size w' (.slice (some ⟨g, 0, none⟩) c.length q) c ∧ Below w.heap.size w w') := by
    refine (copied_any c v w h hl).mono ?_
    rintro e w' ⟨v', rfl, hf, hb⟩
    rcases hf.2 with ⟨_, h1⟩ | ⟨g, cap, cur, rfl, r⟩
    · omega
    · exact ⟨g, cap, rfl, hf, hb⟩
  have HSg : Hid (∀ s ∈ c, takesF s = 0 → 0 ≤ s ∧ s ≤ 6) := hs
  clear h hs
  obtain ⟨n, hn⟩ : ∃ n, n = c.length := ⟨_, rfl⟩
  rw [← hn] at h0 hl HCp ⊢
  have HN : Hid (n = c.length) := hn
  clear hn
  obtain ⟨K, hK⟩ : ∃ K, K = w.heap.size := ⟨_, rfl⟩
  rw [← hK] at HCp ⊢
  have HKw : Hid (w.heap.size = K) := hK.symm
  clear hK
  go_enter Tryd.func45, Tryd.ntmps45
  go_wp2_with fail
  go_at_call 62
  refine HCp.out.mono ?_
  rintro e w2 ⟨g, q, rfl, hf, hb⟩
  have HF2 : Hid (w2.ownsRow K 3 1 (.slice (some ⟨g, 0, none⟩) n q) n ((mixF m c 0).map (Value.int .i64))) := by
    unfold Fresh at hf
    rw [← HN.out] at hf
    exact hf
  have HB2 : Hid (Below K w w2) := hb
  clear hf hb HCp
  go_wp2_with fail
  go_loopw [12] (fun i wr => ∃ k : Nat, k ≤ n ∧ i = .int .i64 k ∧ wr.ownsRow K 3 1 (.slice (some ⟨g, 0, none⟩) n q) n ((mixF m c k).map (Value.int .i64)) ∧ Below K w wr) (fun i _ => n - (intOf i).toNat)
  case atStart => exact ⟨0, Nat.zero_le _, rfl, HF2.out, HB2.out⟩
  case round =>
    obtain ⟨k, hk, rfl, hown, hbel⟩ := hrel
    have HB : Hid (Below K w wr) := hbel
    clear hbel
    by_cases hlt : k < n
    · have hkc : k < c.length := by rw [← HN.out]; exact hlt
      have hgK : K ≤ g := (ownsRow_block hown).1
      obtain ⟨s, hs⟩ : ∃ s, s = c.getD k 0 := ⟨_, rfl⟩
      have hcell : wr.cell? ⟨g, k, none⟩ = some (.int .i64 s) := by
        rw [hown.cellAt k (by omega), List.getElem?_map]
        have hk' : k < (mixF m c k).length := by rw [mixF_len]; exact hkc
        have e1 := mixF_at m c hkc
        rw [List.getD_eq_getElem?_getD, List.getElem?_eq_getElem hk'] at e1
        rw [List.getElem?_eq_getElem hk', hs, ← e1]
        rfl
      have HT : Hid (∀ W, Calls Tryd.prog 34 #[.int .i64 s] W fun e w' => e = .returned (.int .i64 (takesF s)) ∧ W = w') := fun W => ftakes_any s W
      have hmem : s ∈ c := by rw [hs, List.getD_eq_getElem?_getD, List.getElem?_eq_getElem hkc]; exact List.getElem_mem hkc
      by_cases ht : takesF s = 0
      · have hsr := HSg.out s hmem ht
        have hfr : wr.frozen? ⟨g, k, none⟩ = false := hown.frozenAt k
        have HR : Hid ((wr.setCell ⟨g, k, none⟩ (.int .i64 (s + m))).ownsRow K 3 1 (.slice (some ⟨g, 0, none⟩) n q) n ((mixF m c (k + 1)).map (Value.int .i64)) ∧ Below K w (wr.setCell ⟨g, k, none⟩ (.int .i64 (s + m)))) := by
          have h1 := (hown.stored k (.int .i64 (s + m))).1
          rw [← List.map_set] at h1
          have e2 : movedF m (c.getD k 0) = s + m := by unfold movedF; rw [← hs, if_pos ht]
          have e3 := mixF_set m c hkc
          rw [e2] at e3
          rw [e3] at h1
          exact ⟨h1, HB.out.setCell hgK _⟩
        rw [ht] at HT
        clear hown hs hkc hmem ht
        go_wp2_with (go_at_call 34; refine (HT.out _).mono ?_; rintro e w' ⟨rfl, rfl⟩)
        go_roundw
        case rel => exact ⟨k + 1, by omega, by go_num, HR.out.1, HR.out.2⟩
        case measure => simp [intOf]; omega
      · have HR : Hid (wr.ownsRow K 3 1 (.slice (some ⟨g, 0, none⟩) n q) n ((mixF m c (k + 1)).map (Value.int .i64))) := by
          unfold Hid
          rw [mixF_keep m c hkc (by rw [← hs]; exact ht)]
          exact hown
        have ht' : (takesF s == 0) = false := by simpa using ht
        clear hown hs hkc hmem ht
        go_wp2_with (go_at_call 34; refine (HT.out _).mono ?_; rintro e w' ⟨rfl, rfl⟩)
        go_roundw
        case rel => exact ⟨k + 1, by omega, by go_num, HR.out, HB.out⟩
        case measure => simp [intOf]; omega
    · have HE : Hid (Fresh K wr (.slice (some ⟨g, 0, none⟩) n q) (c.map (movedF m))) := by
        unfold Hid Fresh
        rw [List.length_map, ← HN.out, ← mixF_all m c k (by have := HN.out; omega)]
        exact hown
      clear hown
      go_wp2
      go_ret
      exact ⟨_, _, rfl, HE.out, HB.out⟩
end Go.Proofs.YtenmheenieifpabDoor
