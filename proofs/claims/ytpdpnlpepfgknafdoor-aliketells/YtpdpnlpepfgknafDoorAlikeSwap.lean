/-
  Proved: what alike.Swap returns, of any row of signs and any two numbers: a new row; what was in memory is as it was (contracts that the statements lean on).
-/
import Derived.Test.YtpdpnlpepfgknafDoorAlikeMath
import Derived.Test.YtpdpnlpepfgknafDoorTermFill
namespace Go.Proofs.YtpdpnlpepfgknafDoor
open Go.ChangeShapes Go.WideShapes Go.ChangeAt Go.RowKit
set_option maxRecDepth 100000

theorem isName_any (x : Int) (w : World) :
    Calls Tryd.prog 41 #[.int .i64 x] w fun e w' => e = .returned (.bool (decide (0 ≤ x ∧ x ≤ 2))) ∧ w = w' := by
  by_cases h0 : x < 0
  · have e : decide (0 ≤ x ∧ x ≤ 2) = false := by simp; omega
    rw [e]
    clear e
    go_enter Tryd.func41, Tryd.ntmps41
    go_wp2
    go_ret
    exact ⟨rfl, rfl⟩
  by_cases h2 : 2 < x
  · have e : decide (0 ≤ x ∧ x ≤ 2) = false := by simp; omega
    rw [e]
    clear e
    go_enter Tryd.func41, Tryd.ntmps41
    go_wp2
    go_ret
    refine ⟨?_, rfl⟩
    show Ending.returned (Value.bool (decide (x ≤ 2))) = _
    rw [decide_eq_false (by omega)]
  have e : decide (0 ≤ x ∧ x ≤ 2) = true := by simp; omega
  rw [e]
  clear e
  go_enter Tryd.func41, Tryd.ntmps41
  go_wp2
  go_ret
  exact ⟨rfl, rfl⟩

theorem swapped_any (n x y : Int) (w : World) :
    Calls Tryd.prog 42 #[.int .i64 n, .int .i64 x, .int .i64 y] w fun e w' => e = .returned (.int .i64 (swapS x y n)) ∧ w = w' := by
  by_cases h1 : n = x
  · have e : swapS x y n = y := by unfold swapS; rw [if_pos h1]
    rw [e]
    clear e
    have h1' : (n == x) = true := by simpa using h1
    clear h1
    go_enter Tryd.func42, Tryd.ntmps42
    go_wp2
    go_ret
    exact ⟨rfl, rfl⟩
  by_cases h2 : n = y
  · have e : swapS x y n = x := by unfold swapS; rw [if_neg h1, if_pos h2]
    rw [e]
    clear e
    have h1' : (n == x) = false := by simpa using h1
    have h2' : (n == y) = true := by simpa using h2
    clear h1 h2
    go_enter Tryd.func42, Tryd.ntmps42
    go_wp2
    go_ret
    exact ⟨rfl, rfl⟩
  have e : swapS x y n = n := by unfold swapS; rw [if_neg h1, if_neg h2]
  rw [e]
  clear e
  have h1' : (n == x) = false := by simpa using h1
  have h2' : (n == y) = false := by simpa using h2
  clear h1 h2
  go_enter Tryd.func42, Tryd.ntmps42
  go_wp2
  go_ret
  exact ⟨rfl, rfl⟩

theorem infoSw : (Tryd.prog.info? 3).map (fun i => (i.zero, i.size, i.bytes)) = some (some (.int .i64 0), 1, 8) := by kernel_rfl
theorem own_readsW {w : World} {base : Nat} {e : TypeId} {g cap n : Nat} {xs : List Value} {t : List Int} (h : w.ownsRow base e 1 (.slice (some ⟨g, 0, none⟩) n cap) n xs) (hn : t.length = n) (hx : ∀ j, j < n → xs[j]? = some (.int .i64 (t.getD j 0))) (hm : n ≤ 13) : Reads w (.slice (some ⟨g, 0, none⟩) n cap) t := by
  rcases Nat.eq_zero_or_pos n with h0 | h0
  · exact Or.inl ⟨_, cap, by rw [h0], List.eq_nil_of_length_eq_zero (by omega)⟩
  · refine Or.inr ⟨g, 0, cap, by rw [hn], (ownsRow_block h).2.1, by omega, ⟨by omega, by have := (ownsRow_block h).2.2; omega⟩, fun k hk => ?_⟩
    rw [Nat.zero_add, h.cellAt k (by omega)]
    exact hx k (by omega)

set_option maxHeartbeats 4000000 in
theorem swap_good (B off cap m : Nat) (t : List Int) (x y : Int) (w : World) (hm : m = t.length) (hm0 : 0 < m) (hm12 : m ≤ 12) (hmc : m ≤ cap) (hB : B < w.heap.size)
    (hc : ∀ k, k < t.length → w.cell? ⟨B, off + k, none⟩ = some (.int .i64 (t.getD k 0)))
    (hC : Calls Tryd.prog 40 #[.slice (some ⟨B, off, none⟩) m cap] w fun e w' => e = .returned .nilIface ∧ w = w')
    (hx : decide (0 ≤ x ∧ x ≤ 2) = true) (hy : decide (0 ≤ y ∧ y ≤ 2) = true) :
    Calls Tryd.prog 23 #[.slice (some ⟨B, off, none⟩) m cap, .int .i64 x, .int .i64 y] w fun e w' => (∃ v, e = .returned (.tuple #[v, .nilIface]) ∧ Reads w' v (t.map (swapS x y))) ∧ Below w.heap.size w w' := by
  obtain ⟨i0, hi, hz0, hz1, hz2⟩ := info_parts infoSw
  have HNx : Hid (∀ W, Calls Tryd.prog 41 #[.int .i64 x] W fun e w' => e = .returned (.bool true) ∧ W = w') := fun W => by have := isName_any x W; rw [hx] at this; exact this
  have HNy : Hid (∀ W, Calls Tryd.prog 41 #[.int .i64 y] W fun e w' => e = .returned (.bool true) ∧ W = w') := fun W => by have := isName_any y W; rw [hy] at this; exact this
  have HC : Hid (Calls Tryd.prog 40 #[.slice (some ⟨B, off, none⟩) m cap] w fun e w' => e = .returned .nilIface ∧ w = w') := hC
  have HCell : Hid (∀ W, Below w.heap.size w W → ∀ k, k < m → W.cell? ⟨B, off + k, none⟩ = some (.int .i64 (t.getD k 0))) := fun W hW k hk => by rw [hW.cell hB]; exact hc k (by omega)
  obtain ⟨f, hf⟩ : ∃ f : Nat → Value, f = fun j => .int .i64 (swapS x y (t.getD j 0)) := ⟨_, rfl⟩
  have HF : Hid (f = fun j => .int .i64 (swapS x y (t.getD j 0))) := hf
  have HM : Hid (m = t.length) := hm
  obtain ⟨G, hG⟩ : ∃ G, G = w.heap.size := ⟨_, rfl⟩
  have HG : Hid (w.heap.size ≤ G) := by unfold Hid; omega
  have HBG : Hid (B < G) := by unfold Hid; omega
  clear hC hc hx hy hf hm hB
  go_enter Tryd.func23, Tryd.ntmps23
  go_wp2_with fail
  go_at_call 40
  refine HC.out.mono ?_
  rintro e w' ⟨rfl, rfl⟩
  go_wp2_with fail
  go_at_call 41
  refine (HNx.out _).mono ?_
  rintro e w' ⟨rfl, rfl⟩
  go_wp2_with fail
  go_at_call 41
  refine (HNy.out _).mono ?_
  rintro e w' ⟨rfl, rfl⟩
  go_wp2_with (first | (at_make; refine wpList_make_full _ rfl _ _ 23 rfl G 3 i0 (.int .i64 0) 1 Tryd.underlying23 hi hz0 hz1 .i64 .i64 _ _ m rfl rfl ?m0 ?m1 ?m2 ?m3 ?m4 ?_))
  case m0 => rfl
  case m1 => rfl
  case m2 => rw [hz2]; omega
  case m3 => unfold maxLen; omega
  case m4 => omega
  intro w1 hown1 hgrow1
  have HO : Hid (w1.ownsRow G 3 1 (.slice (some ⟨G, 0, none⟩) m m) m (fill f (.int .i64 0) m 0) ∧ Below w.heap.size w w1) := by
    refine ⟨?_, ?_⟩
    · rw [fill_zero, ← toList_madeCells_one, hG]
      simpa [Value.cells] using hown1
    · exact (Below.refl _ _).grown hgrow1 (by omega) (fun k hk => by cases hk)
  rw [← hG]
  clear hown1 hgrow1 hG HC HNx HNy
  go_wp2
  go_loopw [31] (fun i wr => ∃ k : Nat, k ≤ m ∧ i = .int .i64 k ∧ wr.ownsRow G 3 1 (.slice (some ⟨G, 0, none⟩) m m) m (fill f (.int .i64 0) m k) ∧ Below w.heap.size w wr) (fun i _ => m - (intOf i).toNat)
  case atStart => exact ⟨0, Nat.zero_le _, rfl, HO.out.1, HO.out.2⟩
  case round =>
    obtain ⟨k, hk, rfl, hown, hbel⟩ := hrel
    by_cases hlt : k < m
    · have hfr : wr.frozen? ⟨G, k, none⟩ = false := hown.frozenAt k
      have hcg : wr.cell? ⟨G, k, none⟩ = some (.int .i64 0) := by rw [hown.cellAt k (by omega), fill_get _ _ _ _ _ hlt, if_neg (by omega)]
      have hcb := HCell.out wr hbel k hlt
      obtain ⟨q, hq⟩ : ∃ q, q = t.getD k 0 := ⟨_, rfl⟩
      rw [← hq] at hcb
      have HR : Hid ((wr.setCell ⟨G, k, none⟩ (.int .i64 (swapS x y q))).ownsRow G 3 1 (.slice (some ⟨G, 0, none⟩) m m) m (fill f (.int .i64 0) m (k + 1)) ∧ Below w.heap.size w (wr.setCell ⟨G, k, none⟩ (.int .i64 (swapS x y q)))) := by
        have := hown.stored k (f k)
        rw [fill_set] at this
        have e : f k = .int .i64 (swapS x y q) := by rw [HF.out, hq]
        rw [e] at this
        exact ⟨this.1, hbel.setCell HG.out _⟩
      clear hown hbel hq
      go_wp2_with fail
      go_at_call 42
      refine (swapped_any _ _ _ _).mono ?_
      rintro e w' ⟨rfl, rfl⟩
      obtain ⟨Q, hQ⟩ : ∃ Q, Q = swapS x y q := ⟨_, rfl⟩
      rw [← hQ] at HR ⊢
      clear hQ
      go_wp2
      go_roundw
      case rel => exact ⟨k + 1, by omega, by go_num, HR.out.1, HR.out.2⟩
      case measure => simp [intOf]; omega
    · obtain rfl : k = m := by omega
      have hR : Reads wr (.slice (some ⟨G, 0, none⟩) k k) (t.map (swapS x y)) := own_readsW hown (by rw [List.length_map]; exact HM.out.symm) (fun j hj => by
        rw [fill_get _ _ _ _ _ hj, if_pos hj, HF.out]
        have hjt : j < t.length := by have := HM.out; omega
        show some (Value.int .i64 (swapS x y (t.getD j 0))) = _
        rw [List.getD_eq_getElem?_getD, List.getD_eq_getElem?_getD, List.getElem?_map, List.getElem?_eq_getElem hjt]; rfl) (by omega)
      have HRd : Hid (Reads wr (.slice (some ⟨G, 0, none⟩) k k) (t.map (swapS x y))) := hR
      have HBw : Hid (Below w.heap.size w wr) := hbel
      clear hown hbel hR
      go_wp2
      go_ret2
      exact ⟨⟨_, rfl, HRd.out⟩, HBw.out⟩

set_option maxHeartbeats 4000000 in
theorem swap_bad (ao : Option Addr) (m cap : Nat) (x y F : Int) (w : World) 
    (hC : Calls Tryd.prog 40 #[.slice ao m cap] w fun e w' => e = .returned (.iface 59 (.int .i64 F)) ∧ w = w') :
    Calls Tryd.prog 23 #[.slice ao m cap, .int .i64 x, .int .i64 y] w fun e w' => e = .returned (.tuple #[.slice none 0 0, .iface 59 (.int .i64 F)]) ∧ w = w' := by
  have HC : Hid (Calls Tryd.prog 40 #[.slice ao m cap] w fun e w' => e = .returned (.iface 59 (.int .i64 F)) ∧ w = w') := hC
  clear hC
  go_enter Tryd.func23, Tryd.ntmps23
  go_wp2_with fail
  go_at_call 40
  refine HC.out.mono ?_
  rintro e w' ⟨rfl, rfl⟩
  go_wp2
  go_ret2
  exact ⟨rfl, rfl⟩

set_option maxHeartbeats 4000000 in
theorem swap_range1 (ao : Option Addr) (m cap : Nat) (x y : Int) (w : World) 
    (hC : Calls Tryd.prog 40 #[.slice ao m cap] w fun e w' => e = .returned .nilIface ∧ w = w') (hx : decide (0 ≤ x ∧ x ≤ 2) = false) :
    Calls Tryd.prog 23 #[.slice ao m cap, .int .i64 x, .int .i64 y] w fun e w' => e = .returned (.tuple #[.slice none 0 0, .iface 59 (.int .i64 1)]) ∧ w = w' := by
  have HC : Hid (Calls Tryd.prog 40 #[.slice ao m cap] w fun e w' => e = .returned .nilIface ∧ w = w') := hC
  have HNx : Hid (∀ W, Calls Tryd.prog 41 #[.int .i64 x] W fun e w' => e = .returned (.bool false) ∧ W = w') := fun W => by have := isName_any x W; rw [hx] at this; exact this
  clear hC hx
  go_enter Tryd.func23, Tryd.ntmps23
  go_wp2_with fail
  go_at_call 40
  refine HC.out.mono ?_
  rintro e w' ⟨rfl, rfl⟩
  go_wp2_with fail
  go_at_call 41
  refine (HNx.out _).mono ?_
  rintro e w' ⟨rfl, rfl⟩
  go_wp2
  go_ret2
  exact ⟨rfl, rfl⟩

set_option maxHeartbeats 4000000 in
theorem swap_range2 (ao : Option Addr) (m cap : Nat) (x y : Int) (w : World) 
    (hC : Calls Tryd.prog 40 #[.slice ao m cap] w fun e w' => e = .returned .nilIface ∧ w = w') (hx : decide (0 ≤ x ∧ x ≤ 2) = true) (hy : decide (0 ≤ y ∧ y ≤ 2) = false) :
    Calls Tryd.prog 23 #[.slice ao m cap, .int .i64 x, .int .i64 y] w fun e w' => e = .returned (.tuple #[.slice none 0 0, .iface 59 (.int .i64 1)]) ∧ w = w' := by
  have HC : Hid (Calls Tryd.prog 40 #[.slice ao m cap] w fun e w' => e = .returned .nilIface ∧ w = w') := hC
  have HNx : Hid (∀ W, Calls Tryd.prog 41 #[.int .i64 x] W fun e w' => e = .returned (.bool true) ∧ W = w') := fun W => by have := isName_any x W; rw [hx] at this; exact this
  have HNy : Hid (∀ W, Calls Tryd.prog 41 #[.int .i64 y] W fun e w' => e = .returned (.bool false) ∧ W = w') := fun W => by have := isName_any y W; rw [hy] at this; exact this
  clear hC hx hy
  go_enter Tryd.func23, Tryd.ntmps23
  go_wp2_with fail
  go_at_call 40
  refine HC.out.mono ?_
  rintro e w' ⟨rfl, rfl⟩
  go_wp2_with fail
  go_at_call 41
  refine (HNx.out _).mono ?_
  rintro e w' ⟨rfl, rfl⟩
  go_wp2_with fail
  go_at_call 41
  refine (HNy.out _).mono ?_
  rintro e w' ⟨rfl, rfl⟩
  go_wp2
  go_ret2
  exact ⟨rfl, rfl⟩

theorem alikeSwap_any (vs : Value) (s : List Int) (x y : Int) (w : World) (hS : Reads w vs s) :
    Calls Tryd.prog 23 #[vs, .int .i64 x, .int .i64 y] w fun e w' => (∃ v, e = .returned (.tuple #[v, errV (swapFault s x y)]) ∧ Reads w' v (swapL s x y)) ∧ Below w.heap.size w w' := by
  have hC := tcheck_any s vs w hS
  obtain ⟨so, sc, hv⟩ : ∃ so sc, vs = .slice so s.length sc := by
    rcases hS with ⟨ao, cap, rfl, rfl⟩ | ⟨b, off, cap, rfl, _⟩
    · exact ⟨ao, cap, rfl⟩
    · exact ⟨_, cap, rfl⟩
  have hnone : ∀ (W : World), Reads W (.slice none 0 0) [] := fun W => Or.inl ⟨none, 0, rfl, rfl⟩
  by_cases hf : faultN s = 0
  · have e0 : errV (faultN s) = .nilIface := by rw [hf]; rfl
    rw [e0] at hC
    by_cases hx : 0 ≤ x ∧ x ≤ 2
    · by_cases hy : 0 ≤ y ∧ y ≤ 2
      · have hz : swapFault s x y = 0 := swap_zero.2 ⟨hf, hx, hy⟩
        have el : swapL s x y = s.map (swapS x y) := by unfold swapL; rw [if_pos hz]
        rw [hz, el]
        obtain ⟨l0, l1, _, _⟩ := fault_zero.1 hf
        rcases hS with ⟨ao, cap, rfl, rfl⟩ | ⟨b, off, cap, rfl, hb, hl, ⟨_, hcp⟩, hcell⟩
        · exact absurd rfl l0
        · exact swap_good b off cap s.length s x y w rfl (by omega) l1 hcp hb hcell hC (decide_eq_true hx) (decide_eq_true hy)
      · have hz : swapFault s x y = 1 := by unfold swapFault; rw [if_pos hf, if_neg (fun h => hy h.2)]
        have el : swapL s x y = [] := by unfold swapL; rw [if_neg (by rw [hz]; decide)]
        rw [hz, el]
        subst hv
        refine (swap_range2 so _ sc x y w hC (decide_eq_true hx) (decide_eq_false hy)).mono ?_
        rintro e w' ⟨rfl, rfl⟩
        exact ⟨⟨_, rfl, hnone _⟩, Below.refl _ _⟩
    · have hz : swapFault s x y = 1 := by unfold swapFault; rw [if_pos hf, if_neg (fun h => hx h.1)]
      have el : swapL s x y = [] := by unfold swapL; rw [if_neg (by rw [hz]; decide)]
      rw [hz, el]
      subst hv
      refine (swap_range1 so _ sc x y w hC (decide_eq_false hx)).mono ?_
      rintro e w' ⟨rfl, rfl⟩
      exact ⟨⟨_, rfl, hnone _⟩, Below.refl _ _⟩
  · have hz : swapFault s x y = faultN s := by unfold swapFault; rw [if_neg hf]
    have el : swapL s x y = [] := by unfold swapL; rw [if_neg (by rw [hz]; exact hf)]
    have e0 : errV (faultN s) = .iface 59 (.int .i64 (faultN s)) := by unfold errV; rw [if_neg hf]
    rw [hz, el, e0]
    rw [e0] at hC
    subst hv
    refine (swap_bad so _ sc x y (faultN s) w hC).mono ?_
    rintro e w' ⟨rfl, rfl⟩
    exact ⟨⟨_, rfl, hnone _⟩, Below.refl _ _⟩
end Go.Proofs.YtpdpnlpepfgknafDoor
