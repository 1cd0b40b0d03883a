/-
  Proved: what slices.IndexFunc and slices.ContainsFunc return, of rows, at any function that tells of each; what was in memory is as it was (contracts that the statements lean on). Written by program.
-/
import Derived.Test.YtedgbohobgnedaeDoorRowsOne
import Derived.Shelf.Abstract
import Derived.Deep.LoopGhost
namespace Go.Proofs.YtedgbohobgnedaeDoor
open Go.ChangeShapes Go.WideShapes Go.ChangeAt Go.RowKit
set_option maxRecDepth 100000

/-- a row lies at a place. -/
def RowAt (w : World) (b off : Nat) (r : Rw) : Prop := w.cell? ⟨b, off, none⟩ = some (.int .i64 (r.t 0)) ∧ w.cell? ⟨b, off + 1, none⟩ = some (.int .i64 (r.t 1)) ∧ w.cell? ⟨b, off + 2, none⟩ = some (.int .i64 (r.t 2)) ∧ w.cell? ⟨b, off + 3, none⟩ = some (.int .i64 (r.t 3)) ∧ w.cell? ⟨b, off + 4, none⟩ = some (.int .i64 (r.t 4)) ∧ w.cell? ⟨b, off + 5, none⟩ = some (.int .i64 (r.t 5)) ∧ w.cell? ⟨b, off + 6, none⟩ = some (.int .i64 (r.t 6)) ∧ w.cell? ⟨b, off + 7, none⟩ = some (.int .i64 (r.t 7)) ∧ w.cell? ⟨b, off + 8, none⟩ = some (.int .i64 r.m)
/-- the slice v reads, in the world w, as these rows. -/
def ReadsR (w : World) (v : Value) (l : List Rw) : Prop :=
  (∃ ao cap, v = .slice ao 0 cap ∧ l = []) ∨ (∃ b off cap, v = .slice (some ⟨b, off, none⟩) l.length cap ∧ b < w.heap.size ∧ 0 < l.length ∧ (l.length ≤ 9223372036854775807 ∧ l.length ≤ cap) ∧ ∀ i r, l[i]? = some r → RowAt w b (off + i * 9) r)
theorem RowAt.below {w w' : World} {b off : Nat} {r : Rw} (h : RowAt w b off r) (hB : b < w.heap.size) (hb : Below w.heap.size w w') : RowAt w' b off r := by
  obtain ⟨h0, h1, h2, h3, h4, h5, h6, h7, h8⟩ := h
  exact ⟨by rw [hb.cell hB]; exact h0, by rw [hb.cell hB]; exact h1, by rw [hb.cell hB]; exact h2, by rw [hb.cell hB]; exact h3, by rw [hb.cell hB]; exact h4, by rw [hb.cell hB]; exact h5, by rw [hb.cell hB]; exact h6, by rw [hb.cell hB]; exact h7, by rw [hb.cell hB]; exact h8⟩
theorem ReadsR.below {w w' : World} {v : Value} {l : List Rw} (h : ReadsR w v l) (hb : Below w.heap.size w w') : ReadsR w' v l := by
  rcases h with h | ⟨b, off, cap, h1, h2, h3, h4, h5⟩
  · exact Or.inl h
  · exact Or.inr ⟨b, off, cap, h1, Nat.lt_of_lt_of_le h2 hb.size, h3, h4, fun i a ha => (h5 i a ha).below h2 hb⟩
theorem ReadsR.slice {w : World} {v : Value} {l : List Rw} (h : ReadsR w v l) : ∃ ao cap, v = .slice ao l.length cap ∧ l.length ≤ 9223372036854775807 := by
  rcases h with ⟨ao, cap, rfl, rfl⟩ | ⟨b, off, cap, rfl, _, _, h, _⟩
  · exact ⟨ao, cap, rfl, by decide⟩
  · exact ⟨_, cap, rfl, h.1⟩
theorem getD_row {l : List Rw} {k : Nat} (hk : k < l.length) (d : Rw) : l.getD k d = l[k] := by rw [List.getD_eq_getElem?_getD, List.getElem?_eq_getElem hk]; rfl

theorem noneR (a : Option Addr) (cap : Nat) (fv : Value) (w : World) :
    Calls Tryd.prog 15 #[.slice a 0 cap, fv] w fun e w' => e = .returned (.bool false) ∧ Below w.heap.size w w' := by
  have c : Calls Tryd.prog 23 #[.slice a 0 cap, fv] w fun e w' => e = .returned (.int .i64 (-1)) ∧ w = w' := by
    go_enter Tryd.func23, Tryd.ntmps23
    go_wp2
    go_loopw [5, 8] (fun _ i wr => i = .int .i64 0 ∧ w = wr) (fun _ _ _ => 0)
    case atStart => exact ⟨rfl, rfl⟩
    case round =>
      obtain ⟨rfl, rfl⟩ := hrel
      go_wp2
      go_ret
      exact ⟨rfl, rfl⟩
  go_enter Tryd.func15, Tryd.ntmps15
  go_wp2_with (go_at_call 23; refine c.mono ?_; rintro e w' ⟨rfl, rfl⟩)
  go_ret
  exact ⟨rfl, Below.refl _ _⟩

set_option maxHeartbeats 4000000 in
theorem idxR (n b off cap g : Nat) (us : Nat → Rw) (p : Nat → Bool) (w : World) (hl : n ≤ 9223372036854775807) (hB : b < w.heap.size) (hc : ∀ k, k < n → RowAt w b (off + k * 9) (us k))
    (eg : ∀ args w, (callFunc g args).run Tryd.prog w = .ok (.enter g args) w)
    (hp : ∀ W k, Below w.heap.size w W → k < n → Calls Tryd.prog g #[.agg #[.int .i64 ((us k).t 0), .int .i64 ((us k).t 1), .int .i64 ((us k).t 2), .int .i64 ((us k).t 3), .int .i64 ((us k).t 4), .int .i64 ((us k).t 5), .int .i64 ((us k).t 6), .int .i64 ((us k).t 7), .int .i64 (us k).m]] W fun e w' => e = .returned (.bool (p k)) ∧ Below W.heap.size W w') :
    Calls Tryd.prog 23 #[.slice (some ⟨b, off, none⟩) n cap, .func (.func g) #[] #[]] w fun e w' => (∃ r : Int, e = .returned (.int .i64 r) ∧ (0 ≤ r ↔ ∃ k, k < n ∧ p k = true)) ∧ Below w.heap.size w w' := by
  have HC : Hid (∀ W k, Below w.heap.size w W → k < n → RowAt W b (off + k * 9) (us k)) := fun W k hW hk => (hc k hk).below hB hW
  have HP : Hid (∀ W k, Below w.heap.size w W → k < n → Calls Tryd.prog g #[.agg #[.int .i64 ((us k).t 0), .int .i64 ((us k).t 1), .int .i64 ((us k).t 2), .int .i64 ((us k).t 3), .int .i64 ((us k).t 4), .int .i64 ((us k).t 5), .int .i64 ((us k).t 6), .int .i64 ((us k).t 7), .int .i64 (us k).m]] W fun e w' => e = .returned (.bool (p k)) ∧ Below W.heap.size W w') := hp
  clear hc hp hB
  go_enter Tryd.func23, Tryd.ntmps23
  go_wp2
  go_loopw [5, 8] (fun _ i wr => ∃ k : Nat, k ≤ n ∧ i = .int .i64 k ∧ Below w.heap.size w wr ∧ Hid (∀ j, j < k → p j = false)) (fun _ i _ => n - (intOf i).toNat)
  case atStart => exact ⟨0, Nat.zero_le _, rfl, Below.refl _ _, fun j hj => absurd hj (Nat.not_lt_zero _)⟩
  case round =>
    obtain ⟨k, hk, rfl, hb0, A⟩ := hrel
    have HB : Hid (Below w.heap.size w wr) := hb0
    clear hb0
    by_cases hlt : k < n
    · have hcell := HC.out wr k HB.out hlt
      have hcall := HP.out wr k HB.out hlt
      unfold RowAt at hcell
      obtain ⟨T, hT⟩ : ∃ x, x = (us k).t := ⟨_, rfl⟩
      obtain ⟨m, hm⟩ : ∃ x, x = (us k).m := ⟨_, rfl⟩
      rw [← hT, ← hm] at hcell hcall
      clear hT hm
      obtain ⟨c0, c1, c2, c3, c4, c5, c6, c7, c8⟩ := hcell
      have hltz : (k : Int) < (n : Int) := by omega
      cases hq : p k with
      | true =>
        rw [hq] at hcall
        have HQ : Hid (p k = true) := hq
        have HCl : Hid (Calls Tryd.prog g #[.agg #[.int .i64 (T 0), .int .i64 (T 1), .int .i64 (T 2), .int .i64 (T 3), .int .i64 (T 4), .int .i64 (T 5), .int .i64 (T 6), .int .i64 (T 7), .int .i64 m]] wr fun e w' => e = .returned (.bool true) ∧ Below wr.heap.size wr w') := hcall
        clear hcall hq
        go_wp2_with (go_at_fn g; refine HCl.out.mono ?_; rintro e w' ⟨rfl, hb'⟩; have HB' : Hid (Below w.heap.size w w') := HB.out.trans (hb'.mono HB.out.size); clear hb')
        go_ret
        exact ⟨⟨_, rfl, fun _ => ⟨k, hlt, HQ.out⟩, fun _ => by omega⟩, HB'.out⟩
      | false =>
        rw [hq] at hcall
        have HQ : Hid (p k = false) := hq
        have HCl : Hid (Calls Tryd.prog g #[.agg #[.int .i64 (T 0), .int .i64 (T 1), .int .i64 (T 2), .int .i64 (T 3), .int .i64 (T 4), .int .i64 (T 5), .int .i64 (T 6), .int .i64 (T 7), .int .i64 m]] wr fun e w' => e = .returned (.bool false) ∧ Below wr.heap.size wr w') := hcall
        clear hcall hq
        go_wp2_with (go_at_fn g; refine HCl.out.mono ?_; rintro e w' ⟨rfl, hb'⟩; have HB' : Hid (Below w.heap.size w w') := HB.out.trans (hb'.mono HB.out.size); clear hb')
        go_roundw
        case rel =>
          refine ⟨k + 1, by omega, by go_num, HB'.out, fun j hj => ?_⟩
          by_cases e : j = k
          · rw [e]; exact HQ.out
          · exact A.out j (by omega)
        case measure => simp [intOf]; omega
    · have hltz : ¬ (k : Int) < (n : Int) := by omega
      go_wp2
      go_ret
      refine ⟨⟨_, rfl, fun h => absurd h (by decide), fun ⟨j, hj, hpj⟩ => ?_⟩, HB.out⟩
      rw [A.out j (by omega)] at hpj; cases hpj

set_option maxHeartbeats 2000000 in
theorem someR (n b off cap g : Nat) (us : Nat → Rw) (p : Nat → Bool) (w : World) (hl : n ≤ 9223372036854775807) (hB : b < w.heap.size) (hc : ∀ k, k < n → RowAt w b (off + k * 9) (us k))
    (eg : ∀ args w, (callFunc g args).run Tryd.prog w = .ok (.enter g args) w)
    (hp : ∀ W k, Below w.heap.size w W → k < n → Calls Tryd.prog g #[.agg #[.int .i64 ((us k).t 0), .int .i64 ((us k).t 1), .int .i64 ((us k).t 2), .int .i64 ((us k).t 3), .int .i64 ((us k).t 4), .int .i64 ((us k).t 5), .int .i64 ((us k).t 6), .int .i64 ((us k).t 7), .int .i64 (us k).m]] W fun e w' => e = .returned (.bool (p k)) ∧ Below W.heap.size W w') (R : Bool) (hR : R = true ↔ ∃ k, k < n ∧ p k = true) :
    Calls Tryd.prog 15 #[.slice (some ⟨b, off, none⟩) n cap, .func (.func g) #[] #[]] w fun e w' => e = .returned (.bool R) ∧ Below w.heap.size w w' := by
  have c := idxR n b off cap g us p w hl hB hc eg hp
  clear hc hp eg hB hl
  go_enter Tryd.func15, Tryd.ntmps15
  go_wp2_with fail
  go_at_call 23
  refine c.mono ?_
  rintro e w' ⟨⟨r, rfl, hr⟩, hb⟩
  have HB : Hid (Below w.heap.size w w') := hb
  have HR : Hid (R = decide (0 ≤ r)) := by
    unfold Hid
    rw [Bool.eq_iff_iff, hR, decide_eq_true_eq, hr]
  clear hb hr hR c
  go_wp2
  go_ret
  exact ⟨back_b HR.out.symm, HB.out⟩
/-- slices.ContainsFunc of rows. -/
theorem anyR (l : List Rw) (v : Value) (g : Nat) (p : Rw → Bool) (w : World) (hv : ReadsR w v l) (eg : ∀ args w, (callFunc g args).run Tryd.prog w = .ok (.enter g args) w)
    (hp : ∀ W r, Below w.heap.size w W → r ∈ l → Calls Tryd.prog g #[.agg #[.int .i64 (r.t 0), .int .i64 (r.t 1), .int .i64 (r.t 2), .int .i64 (r.t 3), .int .i64 (r.t 4), .int .i64 (r.t 5), .int .i64 (r.t 6), .int .i64 (r.t 7), .int .i64 r.m]] W fun e w' => e = .returned (.bool (p r)) ∧ Below W.heap.size W w') :
    Calls Tryd.prog 15 #[v, .func (.func g) #[] #[]] w fun e w' => e = .returned (.bool (l.any p)) ∧ Below w.heap.size w w' := by
  rcases hv with ⟨ao, cap, rfl, rfl⟩ | ⟨b, off, cap, rfl, hB, h0, ⟨hl, _⟩, hc⟩
  · exact noneR ao cap _ w
  · refine someR l.length b off cap g (fun k => l.getD k ⟨fun _ => 0, 0⟩) (fun k => p (l.getD k ⟨fun _ => 0, 0⟩)) w hl hB (fun k hk => ?_) eg (fun W k hW hk => ?_) _ ?_
    · rw [getD_row hk]; exact hc k _ (List.getElem?_eq_getElem hk)
    · rw [getD_row hk]; exact hp W _ hW (List.getElem_mem hk)
    · rw [List.any_eq_true]
      constructor
      · rintro ⟨m, hm, hpm⟩
        obtain ⟨k, hk, rfl⟩ := List.getElem_of_mem hm
        exact ⟨k, hk, by rw [getD_row hk]; exact hpm⟩
      · rintro ⟨k, hk, hpk⟩
        rw [getD_row hk] at hpk
        exact ⟨l[k], List.getElem_mem hk, hpk⟩

set_option maxHeartbeats 4000000 in
theorem idxP (n b off cap P g : Nat) (us : Nat → Rw) (p : Nat → Bool) (w : World) (hl : n ≤ 9223372036854775807) (hB : b < w.heap.size) (hc : ∀ k, k < n → RowAt w b (off + k * 9) (us k))
    (eg : ∀ args w, (callFunc g args).run Tryd.prog w = .ok (.enter g args) w)
    (hp : ∀ W k, Below w.heap.size w W → k < n → Calls Tryd.prog g #[.agg #[.int .i64 ((us k).t 0), .int .i64 ((us k).t 1), .int .i64 ((us k).t 2), .int .i64 ((us k).t 3), .int .i64 ((us k).t 4), .int .i64 ((us k).t 5), .int .i64 ((us k).t 6), .int .i64 ((us k).t 7), .int .i64 (us k).m], .pointer (some ⟨P, 0, none⟩)] W fun e w' => e = .returned (.bool (p k)) ∧ Below W.heap.size W w') :
    Calls Tryd.prog 23 #[.slice (some ⟨b, off, none⟩) n cap, .func (.func g) #[] #[.pointer (some ⟨P, 0, none⟩)]] w fun e w' => (∃ r : Int, e = .returned (.int .i64 r) ∧ (0 ≤ r ↔ ∃ k, k < n ∧ p k = true)) ∧ Below w.heap.size w w' := by
  have HC : Hid (∀ W k, Below w.heap.size w W → k < n → RowAt W b (off + k * 9) (us k)) := fun W k hW hk => (hc k hk).below hB hW
  have HP : Hid (∀ W k, Below w.heap.size w W → k < n → Calls Tryd.prog g #[.agg #[.int .i64 ((us k).t 0), .int .i64 ((us k).t 1), .int .i64 ((us k).t 2), .int .i64 ((us k).t 3), .int .i64 ((us k).t 4), .int .i64 ((us k).t 5), .int .i64 ((us k).t 6), .int .i64 ((us k).t 7), .int .i64 (us k).m], .pointer (some ⟨P, 0, none⟩)] W fun e w' => e = .returned (.bool (p k)) ∧ Below W.heap.size W w') := hp
  clear hc hp hB
  go_enter Tryd.func23, Tryd.ntmps23
  go_wp2
  go_loopw [5, 8] (fun _ i wr => ∃ k : Nat, k ≤ n ∧ i = .int .i64 k ∧ Below w.heap.size w wr ∧ Hid (∀ j, j < k → p j = false)) (fun _ i _ => n - (intOf i).toNat)
  case atStart => exact ⟨0, Nat.zero_le _, rfl, Below.refl _ _, fun j hj => absurd hj (Nat.not_lt_zero _)⟩
  case round =>
    obtain ⟨k, hk, rfl, hb0, A⟩ := hrel
    have HB : Hid (Below w.heap.size w wr) := hb0
    clear hb0
    by_cases hlt : k < n
    · have hcell := HC.out wr k HB.out hlt
      have hcall := HP.out wr k HB.out hlt
      unfold RowAt at hcell
      obtain ⟨T, hT⟩ : ∃ x, x = (us k).t := ⟨_, rfl⟩
      obtain ⟨m, hm⟩ : ∃ x, x = (us k).m := ⟨_, rfl⟩
      rw [← hT, ← hm] at hcell hcall
      clear hT hm
      obtain ⟨c0, c1, c2, c3, c4, c5, c6, c7, c8⟩ := hcell
      have hltz : (k : Int) < (n : Int) := by omega
      cases hq : p k with
      | true =>
        rw [hq] at hcall
        have HQ : Hid (p k = true) := hq
        have HCl : Hid (Calls Tryd.prog g #[.agg #[.int .i64 (T 0), .int .i64 (T 1), .int .i64 (T 2), .int .i64 (T 3), .int .i64 (T 4), .int .i64 (T 5), .int .i64 (T 6), .int .i64 (T 7), .int .i64 m], .pointer (some ⟨P, 0, none⟩)] wr fun e w' => e = .returned (.bool true) ∧ Below wr.heap.size wr w') := hcall
        clear hcall hq
        go_wp2_with (go_at_fn g; refine HCl.out.mono ?_; rintro e w' ⟨rfl, hb'⟩; have HB' : Hid (Below w.heap.size w w') := HB.out.trans (hb'.mono HB.out.size); clear hb')
        go_ret
        exact ⟨⟨_, rfl, fun _ => ⟨k, hlt, HQ.out⟩, fun _ => by omega⟩, HB'.out⟩
      | false =>
        rw [hq] at hcall
        have HQ : Hid (p k = false) := hq
        have HCl : Hid (Calls Tryd.prog g #[.agg #[.int .i64 (T 0), .int .i64 (T 1), .int .i64 (T 2), .int .i64 (T 3), .int .i64 (T 4), .int .i64 (T 5), .int .i64 (T 6), .int .i64 (T 7), .int .i64 m], .pointer (some ⟨P, 0, none⟩)] wr fun e w' => e = .returned (.bool false) ∧ Below wr.heap.size wr w') := hcall
        clear hcall hq
        go_wp2_with (go_at_fn g; refine HCl.out.mono ?_; rintro e w' ⟨rfl, hb'⟩; have HB' : Hid (Below w.heap.size w w') := HB.out.trans (hb'.mono HB.out.size); clear hb')
        go_roundw
        case rel =>
          refine ⟨k + 1, by omega, by go_num, HB'.out, fun j hj => ?_⟩
          by_cases e : j = k
          · rw [e]; exact HQ.out
          · exact A.out j (by omega)
        case measure => simp [intOf]; omega
    · have hltz : ¬ (k : Int) < (n : Int) := by omega
      go_wp2
      go_ret
      refine ⟨⟨_, rfl, fun h => absurd h (by decide), fun ⟨j, hj, hpj⟩ => ?_⟩, HB.out⟩
      rw [A.out j (by omega)] at hpj; cases hpj

set_option maxHeartbeats 2000000 in
theorem someP (n b off cap P g : Nat) (us : Nat → Rw) (p : Nat → Bool) (w : World) (hl : n ≤ 9223372036854775807) (hB : b < w.heap.size) (hc : ∀ k, k < n → RowAt w b (off + k * 9) (us k))
    (eg : ∀ args w, (callFunc g args).run Tryd.prog w = .ok (.enter g args) w)
    (hp : ∀ W k, Below w.heap.size w W → k < n → Calls Tryd.prog g #[.agg #[.int .i64 ((us k).t 0), .int .i64 ((us k).t 1), .int .i64 ((us k).t 2), .int .i64 ((us k).t 3), .int .i64 ((us k).t 4), .int .i64 ((us k).t 5), .int .i64 ((us k).t 6), .int .i64 ((us k).t 7), .int .i64 (us k).m], .pointer (some ⟨P, 0, none⟩)] W fun e w' => e = .returned (.bool (p k)) ∧ Below W.heap.size W w') (R : Bool) (hR : R = true ↔ ∃ k, k < n ∧ p k = true) :
    Calls Tryd.prog 15 #[.slice (some ⟨b, off, none⟩) n cap, .func (.func g) #[] #[.pointer (some ⟨P, 0, none⟩)]] w fun e w' => e = .returned (.bool R) ∧ Below w.heap.size w w' := by
  have c := idxP n b off cap P g us p w hl hB hc eg hp
  clear hc hp eg hB hl
  go_enter Tryd.func15, Tryd.ntmps15
  go_wp2_with fail
  go_at_call 23
  refine c.mono ?_
  rintro e w' ⟨⟨r, rfl, hr⟩, hb⟩
  have HB : Hid (Below w.heap.size w w') := hb
  have HR : Hid (R = decide (0 ≤ r)) := by
    unfold Hid
    rw [Bool.eq_iff_iff, hR, decide_eq_true_eq, hr]
  clear hb hr hR c
  go_wp2
  go_ret
  exact ⟨back_b HR.out.symm, HB.out⟩
/-- slices.ContainsFunc of rows. -/
theorem anyP (l : List Rw) (v : Value) (P g : Nat) (p : Rw → Bool) (w : World) (hv : ReadsR w v l) (eg : ∀ args w, (callFunc g args).run Tryd.prog w = .ok (.enter g args) w)
    (hp : ∀ W r, Below w.heap.size w W → r ∈ l → Calls Tryd.prog g #[.agg #[.int .i64 (r.t 0), .int .i64 (r.t 1), .int .i64 (r.t 2), .int .i64 (r.t 3), .int .i64 (r.t 4), .int .i64 (r.t 5), .int .i64 (r.t 6), .int .i64 (r.t 7), .int .i64 r.m], .pointer (some ⟨P, 0, none⟩)] W fun e w' => e = .returned (.bool (p r)) ∧ Below W.heap.size W w') :
    Calls Tryd.prog 15 #[v, .func (.func g) #[] #[.pointer (some ⟨P, 0, none⟩)]] w fun e w' => e = .returned (.bool (l.any p)) ∧ Below w.heap.size w w' := by
  rcases hv with ⟨ao, cap, rfl, rfl⟩ | ⟨b, off, cap, rfl, hB, h0, ⟨hl, _⟩, hc⟩
  · exact noneR ao cap _ w
  · refine someP l.length b off cap P g (fun k => l.getD k ⟨fun _ => 0, 0⟩) (fun k => p (l.getD k ⟨fun _ => 0, 0⟩)) w hl hB (fun k hk => ?_) eg (fun W k hW hk => ?_) _ ?_
    · rw [getD_row hk]; exact hc k _ (List.getElem?_eq_getElem hk)
    · rw [getD_row hk]; exact hp W _ hW (List.getElem_mem hk)
    · rw [List.any_eq_true]
      constructor
      · rintro ⟨m, hm, hpm⟩
        obtain ⟨k, hk, rfl⟩ := List.getElem_of_mem hm
        exact ⟨k, hk, by rw [getD_row hk]; exact hpm⟩
      · rintro ⟨k, hk, hpk⟩
        rw [getD_row hk] at hpk
        exact ⟨l[k], List.getElem_mem hk, hpk⟩
end Go.Proofs.YtedgbohobgnedaeDoor
