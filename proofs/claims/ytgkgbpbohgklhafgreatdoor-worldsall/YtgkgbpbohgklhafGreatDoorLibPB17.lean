/-
  Proved: what slices.IndexFunc and slices.ContainsFunc return, of rows, at any function that tells of each; what was in memory is as it was (contracts that the statements lean on). Written by program.
  Proved: what fields.check returns, of any counts; what was in memory is as it was (a contract that the statements lean on).
  Proved: what fields.World returns, of any counts; what was in memory is as it was (a contract that the statements lean on).
-/
import Derived.Test.YtgkgbpbohgklhafGreatDoorLibPB13
import Derived.Shelf.Abstract
import Derived.Deep.LoopGhost
import Derived.Test.YtgkgbpbohgklhafGreatDoorLibPB11
import Derived.Test.YtgkgbpbohgklhafGreatDoorLibPB12
import Derived.Test.YtgkgbpbohgklhafGreatDoorLibPB1
namespace Go.Proofs.YtgkgbpbohgklhafGreatDoor
open Go.ChangeShapes Go.WideShapes Go.ChangeAt Go.RowKit
set_option maxRecDepth 100000

/-- a row lies at a place. -/
def RowAt (w : World) (b off : Nat) (r : Rw) : Prop := w.cell? ⟨b, off, none⟩ = some (.int .i64 (r.t 0)) ∧ w.cell? ⟨b, off + 1, none⟩ = some (.int .i64 (r.t 1)) ∧ w.cell? ⟨b, off + 2, none⟩ = some (.int .i64 (r.t 2)) ∧ w.cell? ⟨b, off + 3, none⟩ = some (.int .i64 (r.t 3)) ∧ w.cell? ⟨b, off + 4, none⟩ = some (.int .i64 (r.t 4)) ∧ w.cell? ⟨b, off + 5, none⟩ = some (.int .i64 (r.t 5)) ∧ w.cell? ⟨b, off + 6, none⟩ = some (.int .i64 (r.t 6)) ∧ w.cell? ⟨b, off + 7, none⟩ = some (.int .i64 (r.t 7)) ∧ w.cell? ⟨b, off + 8, none⟩ = some (.int .i64 r.m)
/-- the slice v reads, in the world w, as these rows. -/
def ReadsR (w : World) (v : Value) (l : List Rw) : Prop :=
  (∃ ao cap, v = .slice ao 0 cap ∧ l = []) ∨ (∃ b off cap, v = .slice (some ⟨b, off, none⟩) l.length cap ∧ b < w.heap.size ∧ 0 < l.length ∧ (l.length ≤ 9223372036854775807 ∧ l.length ≤ cap) ∧ ∀ i r, l[i]? = some r → RowAt w b (off + i * 9) r)
theorem RowAt.below {w w' : World} {b off : Nat} {r : Rw} (h : RowAt w b off r) (hB : b < w.heap.size) (hb : Below w.heap.size w w') : RowAt w' b off r := by
  obtain ⟨h0, h1, h2, h3, h4, h5, h6, h7, h8⟩ := h
  exact ⟨by rw [hb.cell hB]; exact h0, by rw [hb.cell hB]; exact h1, by rw [hb.cell hB]; exact h2, by rw [hb.cell hB]; exact h3, by rw [hb.cell hB]; exact h4, by rw [hb.cell hB]; exact h5, by rw [hb.cell hB]; exact h6, by rw [hb.cell hB]; exact h7, by rw [hb.cell hB]; exact h8⟩
theorem ReadsR.below {w w' : World} {v : Value} {l : List Rw} (h : ReadsR w v l) (hb : Below w.heap.size w w') : ReadsR w' v l := by
  rcases h with h | ⟨b, off, cap, h1, h2, h3, h4, h5⟩
  · exact Or.inl h
  · exact Or.inr ⟨b, off, cap, h1, Nat.lt_of_lt_of_le h2 hb.size, h3, h4, fun i a ha => (h5 i a ha).below h2 hb⟩
theorem ReadsR.slice {w : World} {v : Value} {l : List Rw} (h : ReadsR w v l) : ∃ ao cap, v = .slice ao l.length cap ∧ l.length ≤ 9223372036854775807 := by
  rcases h with ⟨ao, cap, rfl, rfl⟩ | ⟨b, off, cap, rfl, _, _, h, _⟩
  · exact ⟨ao, cap, rfl, by decide⟩
  · exact ⟨_, cap, rfl, h.1⟩
theorem getD_row {l : List Rw} {k : Nat} (hk : k < l.length) (d : Rw) : l.getD k d = l[k] := by rw [List.getD_eq_getElem?_getD, List.getElem?_eq_getElem hk]; rfl

theorem noneR (a : Option Addr) (cap : Nat) (fv : Value) (w : World) :
    Calls Tryz.prog 100 #[.slice a 0 cap, fv] w fun e w' => e = .returned (.bool false) ∧ Below w.heap.size w w' := by
  have c : Calls Tryz.prog 116 #[.slice a 0 cap, fv] w fun e w' => e = .returned (.int .i64 (-1)) ∧ w = w' := by
    go_enter Tryz.func116, Tryz.ntmps116
    go_wp2
    go_loopw [5, 8] (fun _ i wr => i = .int .i64 0 ∧ w = wr) (fun _ _ _ => 0)
    case atStart => exact ⟨rfl, rfl⟩
    case round =>
      obtain ⟨rfl, rfl⟩ := hrel
      go_wp2
      go_ret
      exact ⟨rfl, rfl⟩
  go_enter Tryz.func100, Tryz.ntmps100
  go_wp2_with (go_at_call 116; refine c.mono ?_; rintro e w' ⟨rfl, rfl⟩)
  go_ret
  exact ⟨rfl, Below.refl _ _⟩

set_option maxHeartbeats 4000000 in
theorem idxR (n b off cap g : Nat) (us : Nat → Rw) (p : Nat → Bool) (w : World) (hl : n ≤ 9223372036854775807) (hB : b < w.heap.size) (hc : ∀ k, k < n → RowAt w b (off + k * 9) (us k))
    (eg : ∀ args w, (callFunc g args).run Tryz.prog w = .ok (.enter g args) w)
    (hp : ∀ W k, Below w.heap.size w W → k < n → Calls Tryz.prog g #[.agg #[.int .i64 ((us k).t 0), .int .i64 ((us k).t 1), .int .i64 ((us k).t 2), .int .i64 ((us k).t 3), .int .i64 ((us k).t 4), .int .i64 ((us k).t 5), .int .i64 ((us k).t 6), .int .i64 ((us k).t 7), .int .i64 (us k).m]] W fun e w' => e = .returned (.bool (p k)) ∧ Below W.heap.size W w') :
    Calls Tryz.prog 116 #[.slice (some ⟨b, off, none⟩) n cap, .func (.func g) #[] #[]] w fun e w' => (∃ r : Int, e = .returned (.int .i64 r) ∧ (0 ≤ r ↔ ∃ k, k < n ∧ p k = true)) ∧ Below w.heap.size w w' := by
  have HC : Hid (∀ W k, Below w.heap.size w W → k < n → RowAt W b (off + k * 9) (us k)) := fun W k hW hk => (hc k hk).below hB hW
  have HP : Hid (∀ W k, Below w.heap.size w W → k < n → Calls Tryz.prog g #[.agg #[.int .i64 ((us k).t 0), .int .i64 ((us k).t 1), .int .i64 ((us k).t 2), .int .i64 ((us k).t 3), .int .i64 ((us k).t 4), .int .i64 ((us k).t 5), .int .i64 ((us k).t 6), .int .i64 ((us k).t 7), .int .i64 (us k).m]] W fun e w' => e = .returned (.bool (p k)) ∧ Below W.heap.size W w') := hp
  clear hc hp hB
  go_enter Tryz.func116, Tryz.ntmps116
  go_wp2
  go_loopw [5, 8] (fun _ i wr => ∃ k : Nat, k ≤ n ∧ i = .int .i64 k ∧ Below w.heap.size w wr ∧ Hid (∀ j, j < k → p j = false)) (fun _ i _ => n - (intOf i).toNat)
  case atStart => exact ⟨0, Nat.zero_le _, rfl, Below.refl _ _, fun j hj => absurd hj (Nat.not_lt_zero _)⟩
  case round =>
    obtain ⟨k, hk, rfl, hb0, A⟩ := hrel
    have HB : Hid (Below w.heap.size w wr) := hb0
    clear hb0
    by_cases hlt : k < n
    · have hcell := HC.out wr k HB.out hlt
      have hcall := HP.out wr k HB.out hlt
      unfold RowAt at hcell
      obtain ⟨T, hT⟩ : ∃ x, x = (us k).t := ⟨_, rfl⟩
      obtain ⟨m, hm⟩ : ∃ x, x = (us k).m := ⟨_, rfl⟩
      rw [← hT, ← hm] at hcell hcall
      clear hT hm
      obtain ⟨c0, c1, c2, c3, c4, c5, c6, c7, c8⟩ := hcell
      have hltz : (k : Int) < (n : Int) := by omega
      cases hq : p k with
      | true =>
        rw [hq] at hcall
        have HQ : Hid (p k = true) := hq
        have HCl : Hid (Calls Tryz.prog g #[.agg #[.int .i64 (T 0), .int .i64 (T 1), .int .i64 (T 2), .int .i64 (T 3), .int .i64 (T 4), .int .i64 (T 5), .int .i64 (T 6), .int .i64 (T 7), .int .i64 m]] wr fun e w' => e = .returned (.bool true) ∧ Below wr.heap.size wr w') := hcall
        clear hcall hq
        go_wp2_with (go_at_fn g; refine HCl.out.mono ?_; rintro e w' ⟨rfl, hb'⟩; have HB' : Hid (Below w.heap.size w w') := HB.out.trans (hb'.mono HB.out.size); clear hb')
        go_ret
        exact ⟨⟨_, rfl, fun _ => ⟨k, hlt, HQ.out⟩, fun _ => by omega⟩, HB'.out⟩
      | false =>
        rw [hq] at hcall
        have HQ : Hid (p k = false) := hq
        have HCl : Hid (Calls Tryz.prog g #[.agg #[.int .i64 (T 0), .int .i64 (T 1), .int .i64 (T 2), .int .i64 (T 3), .int .i64 (T 4), .int .i64 (T 5), .int .i64 (T 6), .int .i64 (T 7), .int .i64 m]] wr fun e w' => e = .returned (.bool false) ∧ Below wr.heap.size wr w') := hcall
        clear hcall hq
        go_wp2_with (go_at_fn g; refine HCl.out.mono ?_; rintro e w' ⟨rfl, hb'⟩; have HB' : Hid (Below w.heap.size w w') := HB.out.trans (hb'.mono HB.out.size); clear hb')
        go_roundw
        case rel =>
          refine ⟨k + 1, by omega, by go_num, HB'.out, fun j hj => ?_⟩
          by_cases e : j = k
          · rw [e]; exact HQ.out
          · exact A.out j (by omega)
        case measure => simp [intOf]; omega
    · have hltz : ¬ (k : Int) < (n : Int) := by omega
      go_wp2
      go_ret
      refine ⟨⟨_, rfl, fun h => absurd h (by decide), fun ⟨j, hj, hpj⟩ => ?_⟩, HB.out⟩
      rw [A.out j (by omega)] at hpj; cases hpj

set_option maxHeartbeats 2000000 in
theorem someR (n b off cap g : Nat) (us : Nat → Rw) (p : Nat → Bool) (w : World) (hl : n ≤ 9223372036854775807) (hB : b < w.heap.size) (hc : ∀ k, k < n → RowAt w b (off + k * 9) (us k))
    (eg : ∀ args w, (callFunc g args).run Tryz.prog w = .ok (.enter g args) w)
    (hp : ∀ W k, Below w.heap.size w W → k < n → Calls Tryz.prog g #[.agg #[.int .i64 ((us k).t 0), .int .i64 ((us k).t 1), .int .i64 ((us k).t 2), .int .i64 ((us k).t 3), .int .i64 ((us k).t 4), .int .i64 ((us k).t 5), .int .i64 ((us k).t 6), .int .i64 ((us k).t 7), .int .i64 (us k).m]] W fun e w' => e = .returned (.bool (p k)) ∧ Below W.heap.size W w') (R : Bool) (hR : R = true ↔ ∃ k, k < n ∧ p k = true) :
    Calls Tryz.prog 100 #[.slice (some ⟨b, off, none⟩) n cap, .func (.func g) #[] #[]] w fun e w' => e = .returned (.bool R) ∧ Below w.heap.size w w' := by
  have c := idxR n b off cap g us p w hl hB hc eg hp
  clear hc hp eg hB hl
  go_enter Tryz.func100, Tryz.ntmps100
  go_wp2_with fail
  go_at_call 116
  refine c.mono ?_
  rintro e w' ⟨⟨r, rfl, hr⟩, hb⟩
  have HB : Hid (Below w.heap.size w w') := hb
  have HR : Hid (R = decide (0 ≤ r)) := by
    unfold Hid
    rw [Bool.eq_iff_iff, hR, decide_eq_true_eq, hr]
  clear hb hr hR c
  go_wp2
  go_ret
  exact ⟨back_b HR.out.symm, HB.out⟩
/-- slices.ContainsFunc of rows. -/
theorem anyR (l : List Rw) (v : Value) (g : Nat) (p : Rw → Bool) (w : World) (hv : ReadsR w v l) (eg : ∀ args w, (callFunc g args).run Tryz.prog w = .ok (.enter g args) w)
    (hp : ∀ W r, Below w.heap.size w W → r ∈ l → Calls Tryz.prog g #[.agg #[.int .i64 (r.t 0), .int .i64 (r.t 1), .int .i64 (r.t 2), .int .i64 (r.t 3), .int .i64 (r.t 4), .int .i64 (r.t 5), .int .i64 (r.t 6), .int .i64 (r.t 7), .int .i64 r.m]] W fun e w' => e = .returned (.bool (p r)) ∧ Below W.heap.size W w') :
    Calls Tryz.prog 100 #[v, .func (.func g) #[] #[]] w fun e w' => e = .returned (.bool (l.any p)) ∧ Below w.heap.size w w' := by
  rcases hv with ⟨ao, cap, rfl, rfl⟩ | ⟨b, off, cap, rfl, hB, h0, ⟨hl, _⟩, hc⟩
  · exact noneR ao cap _ w
  · refine someR l.length b off cap g (fun k => l.getD k ⟨fun _ => 0, 0⟩) (fun k => p (l.getD k ⟨fun _ => 0, 0⟩)) w hl hB (fun k hk => ?_) eg (fun W k hW hk => ?_) _ ?_
    · rw [getD_row hk]; exact hc k _ (List.getElem?_eq_getElem hk)
    · rw [getD_row hk]; exact hp W _ hW (List.getElem_mem hk)
    · rw [List.any_eq_true]
      constructor
      · rintro ⟨m, hm, hpm⟩
        obtain ⟨k, hk, rfl⟩ := List.getElem_of_mem hm
        exact ⟨k, hk, by rw [getD_row hk]; exact hpm⟩
      · rintro ⟨k, hk, hpk⟩
        rw [getD_row hk] at hpk
        exact ⟨l[k], List.getElem_mem hk, hpk⟩

set_option maxHeartbeats 4000000 in
theorem idxP (n b off cap P g : Nat) (us : Nat → Rw) (p : Nat → Bool) (w : World) (hl : n ≤ 9223372036854775807) (hB : b < w.heap.size) (hc : ∀ k, k < n → RowAt w b (off + k * 9) (us k))
    (eg : ∀ args w, (callFunc g args).run Tryz.prog w = .ok (.enter g args) w)
    (hp : ∀ W k, Below w.heap.size w W → k < n → Calls Tryz.prog g #[.agg #[.int .i64 ((us k).t 0), .int .i64 ((us k).t 1), .int .i64 ((us k).t 2), .int .i64 ((us k).t 3), .int .i64 ((us k).t 4), .int .i64 ((us k).t 5), .int .i64 ((us k).t 6), .int .i64 ((us k).t 7), .int .i64 (us k).m], .pointer (some ⟨P, 0, none⟩)] W fun e w' => e = .returned (.bool (p k)) ∧ Below W.heap.size W w') :
    Calls Tryz.prog 116 #[.slice (some ⟨b, off, none⟩) n cap, .func (.func g) #[] #[.pointer (some ⟨P, 0, none⟩)]] w fun e w' => (∃ r : Int, e = .returned (.int .i64 r) ∧ (0 ≤ r ↔ ∃ k, k < n ∧ p k = true)) ∧ Below w.heap.size w w' := by
  have HC : Hid (∀ W k, Below w.heap.size w W → k < n → RowAt W b (off + k * 9) (us k)) := fun W k hW hk => (hc k hk).below hB hW
  have HP : Hid (∀ W k, Below w.heap.size w W → k < n → Calls Tryz.prog g #[.agg #[.int .i64 ((us k).t 0), .int .i64 ((us k).t 1), .int .i64 ((us k).t 2), .int .i64 ((us k).t 3), .int .i64 ((us k).t 4), .int .i64 ((us k).t 5), .int .i64 ((us k).t 6), .int .i64 ((us k).t 7), .int .i64 (us k).m], .pointer (some ⟨P, 0, none⟩)] W fun e w' => e = .returned (.bool (p k)) ∧ Below W.heap.size W w') := hp
  clear hc hp hB
  go_enter Tryz.func116, Tryz.ntmps116
  go_wp2
  go_loopw [5, 8] (fun _ i wr => ∃ k : Nat, k ≤ n ∧ i = .int .i64 k ∧ Below w.heap.size w wr ∧ Hid (∀ j, j < k → p j = false)) (fun _ i _ => n - (intOf i).toNat)
  case atStart => exact ⟨0, Nat.zero_le _, rfl, Below.refl _ _, fun j hj => absurd hj (Nat.not_lt_zero _)⟩
  case round =>
    obtain ⟨k, hk, rfl, hb0, A⟩ := hrel
    have HB : Hid (Below w.heap.size w wr) := hb0
    clear hb0
    by_cases hlt : k < n
    · have hcell := HC.out wr k HB.out hlt
      have hcall := HP.out wr k HB.out hlt
      unfold RowAt at hcell
      obtain ⟨T, hT⟩ : ∃ x, x = (us k).t := ⟨_, rfl⟩
      obtain ⟨m, hm⟩ : ∃ x, x = (us k).m := ⟨_, rfl⟩
      rw [← hT, ← hm] at hcell hcall
      clear hT hm
      obtain ⟨c0, c1, c2, c3, c4, c5, c6, c7, c8⟩ := hcell
      have hltz : (k : Int) < (n : Int) := by omega
      cases hq : p k with
      | true =>
        rw [hq] at hcall
        have HQ : Hid (p k = true) := hq
        have HCl : Hid (Calls Tryz.prog g #[.agg #[.int .i64 (T 0), .int .i64 (T 1), .int .i64 (T 2), .int .i64 (T 3), .int .i64 (T 4), .int .i64 (T 5), .int .i64 (T 6), .int .i64 (T 7), .int .i64 m], .pointer (some ⟨P, 0, none⟩)] wr fun e w' => e = .returned (.bool true) ∧ Below wr.heap.size wr w') := hcall
        clear hcall hq
        go_wp2_with (go_at_fn g; refine HCl.out.mono ?_; rintro e w' ⟨rfl, hb'⟩; have HB' : Hid (Below w.heap.size w w') := HB.out.trans (hb'.mono HB.out.size); clear hb')
        go_ret
        exact ⟨⟨_, rfl, fun _ => ⟨k, hlt, HQ.out⟩, fun _ => by omega⟩, HB'.out⟩
      | false =>
        rw [hq] at hcall
        have HQ : Hid (p k = false) := hq
        have HCl : Hid (Calls Tryz.prog g #[.agg #[.int .i64 (T 0), .int .i64 (T 1), .int .i64 (T 2), .int .i64 (T 3), .int .i64 (T 4), .int .i64 (T 5), .int .i64 (T 6), .int .i64 (T 7), .int .i64 m], .pointer (some ⟨P, 0, none⟩)] wr fun e w' => e = .returned (.bool false) ∧ Below wr.heap.size wr w') := hcall
        clear hcall hq
        go_wp2_with (go_at_fn g; refine HCl.out.mono ?_; rintro e w' ⟨rfl, hb'⟩; have HB' : Hid (Below w.heap.size w w') := HB.out.trans (hb'.mono HB.out.size); clear hb')
        go_roundw
        case rel =>
          refine ⟨k + 1, by omega, by go_num, HB'.out, fun j hj => ?_⟩
          by_cases e : j = k
          · rw [e]; exact HQ.out
          · exact A.out j (by omega)
        case measure => simp [intOf]; omega
    · have hltz : ¬ (k : Int) < (n : Int) := by omega
      go_wp2
      go_ret
      refine ⟨⟨_, rfl, fun h => absurd h (by decide), fun ⟨j, hj, hpj⟩ => ?_⟩, HB.out⟩
      rw [A.out j (by omega)] at hpj; cases hpj

set_option maxHeartbeats 2000000 in
theorem someP (n b off cap P g : Nat) (us : Nat → Rw) (p : Nat → Bool) (w : World) (hl : n ≤ 9223372036854775807) (hB : b < w.heap.size) (hc : ∀ k, k < n → RowAt w b (off + k * 9) (us k))
    (eg : ∀ args w, (callFunc g args).run Tryz.prog w = .ok (.enter g args) w)
    (hp : ∀ W k, Below w.heap.size w W → k < n → Calls Tryz.prog g #[.agg #[.int .i64 ((us k).t 0), .int .i64 ((us k).t 1), .int .i64 ((us k).t 2), .int .i64 ((us k).t 3), .int .i64 ((us k).t 4), .int .i64 ((us k).t 5), .int .i64 ((us k).t 6), .int .i64 ((us k).t 7), .int .i64 (us k).m], .pointer (some ⟨P, 0, none⟩)] W fun e w' => e = .returned (.bool (p k)) ∧ Below W.heap.size W w') (R : Bool) (hR : R = true ↔ ∃ k, k < n ∧ p k = true) :
    Calls Tryz.prog 100 #[.slice (some ⟨b, off, none⟩) n cap, .func (.func g) #[] #[.pointer (some ⟨P, 0, none⟩)]] w fun e w' => e = .returned (.bool R) ∧ Below w.heap.size w w' := by
  have c := idxP n b off cap P g us p w hl hB hc eg hp
  clear hc hp eg hB hl
  go_enter Tryz.func100, Tryz.ntmps100
  go_wp2_with fail
  go_at_call 116
  refine c.mono ?_
  rintro e w' ⟨⟨r, rfl, hr⟩, hb⟩
  have HB : Hid (Below w.heap.size w w') := hb
  have HR : Hid (R = decide (0 ≤ r)) := by
    unfold Hid
    rw [Bool.eq_iff_iff, hR, decide_eq_true_eq, hr]
  clear hb hr hR c
  go_wp2
  go_ret
  exact ⟨back_b HR.out.symm, HB.out⟩
/-- slices.ContainsFunc of rows. -/
theorem anyP (l : List Rw) (v : Value) (P g : Nat) (p : Rw → Bool) (w : World) (hv : ReadsR w v l) (eg : ∀ args w, (callFunc g args).run Tryz.prog w = .ok (.enter g args) w)
    (hp : ∀ W r, Below w.heap.size w W → r ∈ l → Calls Tryz.prog g #[.agg #[.int .i64 (r.t 0), .int .i64 (r.t 1), .int .i64 (r.t 2), .int .i64 (r.t 3), .int .i64 (r.t 4), .int .i64 (r.t 5), .int .i64 (r.t 6), .int .i64 (r.t 7), .int .i64 r.m], .pointer (some ⟨P, 0, none⟩)] W fun e w' => e = .returned (.bool (p r)) ∧ Below W.heap.size W w') :
    Calls Tryz.prog 100 #[v, .func (.func g) #[] #[.pointer (some ⟨P, 0, none⟩)]] w fun e w' => e = .returned (.bool (l.any p)) ∧ Below w.heap.size w w' := by
  rcases hv with ⟨ao, cap, rfl, rfl⟩ | ⟨b, off, cap, rfl, hB, h0, ⟨hl, _⟩, hc⟩
  · exact noneR ao cap _ w
  · refine someP l.length b off cap P g (fun k => l.getD k ⟨fun _ => 0, 0⟩) (fun k => p (l.getD k ⟨fun _ => 0, 0⟩)) w hl hB (fun k hk => ?_) eg (fun W k hW hk => ?_) _ ?_
    · rw [getD_row hk]; exact hc k _ (List.getElem?_eq_getElem hk)
    · rw [getD_row hk]; exact hp W _ hW (List.getElem_mem hk)
    · rw [List.any_eq_true]
      constructor
      · rintro ⟨m, hm, hpm⟩
        obtain ⟨k, hk, rfl⟩ := List.getElem_of_mem hm
        exact ⟨k, hk, by rw [getD_row hk]; exact hpm⟩
      · rintro ⟨k, hk, hpk⟩
        rw [getD_row hk] at hpk
        exact ⟨l[k], List.getElem_mem hk, hpk⟩
end Go.Proofs.YtgkgbpbohgklhafGreatDoor

namespace Go.Proofs.YtgkgbpbohgklhafGreatDoor
open Go.ChangeShapes Go.WideShapes Go.ChangeAt Go.RowKit

set_option maxRecDepth 100000 in
set_option maxHeartbeats 4000000 in
theorem fcounts_any (N : Nat → Int) (w : World) :
    Calls Tryz.prog 83 #[.agg #[.int .i64 (N 0), .int .i64 (N 1), .int .i64 (N 2), .int .i64 (N 3), .int .i64 (N 4), .int .i64 (N 5), .int .i64 (N 6), .int .i64 (N 7)]] w fun e w' => e = .returned (errV (countsFault N)) ∧ Below w.heap.size w w' := by
  obtain ⟨w1, hw1⟩ : ∃ w1, w1 = w.alloc (.cells #[.int .i64 (N 0), .int .i64 (N 1), .int .i64 (N 2), .int .i64 (N 3), .int .i64 (N 4), .int .i64 (N 5), .int .i64 (N 6), .int .i64 (N 7)] 64) := ⟨_, rfl⟩
  have HW : Hid (Below w.heap.size w w1) := by unfold Hid; rw [hw1]; exact below_alloc1 _ _
  have HX : Hid (∀ k, k < 8 → w1.cell? ⟨w.heap.size, k, none⟩ = some (.int .i64 (N k))) := fun k hk => by
    rw [hw1]
    rcases eight hk with rfl | rfl | rfl | rfl | rfl | rfl | rfl | rfl <;> simp
  obtain ⟨F, hF⟩ : ∃ F, F = countsFault N := ⟨_, rfl⟩
  have HF1 : Hid (∀ k, k < 8 → ¬ (0 ≤ N k ∧ N k ≤ 6) → errV F = .iface 61 (.int .i64 1)) := fun k hk h => by
    rw [hF]; unfold countsFault; rw [if_neg (by rw [eachB_no hk h]; decide)]; rfl
  have HF2 : Hid ((∀ f, f < 8 → 0 ≤ N f ∧ N f ≤ 6) → (sumN N 8 ≤ 6 → errV F = .nilIface) ∧ (6 < sumN N 8 → errV F = .iface 61 (.int .i64 4))) := fun h => by
    rw [hF]; unfold countsFault; rw [if_pos (eachB_iff.2 h)]
    exact ⟨fun h' => by rw [if_pos h']; rfl, fun h' => by rw [if_neg (by omega)]; rfl⟩
  rw [← hF]
  clear hF
  go_enter Tryz.func83, Tryz.ntmps83
  go_wp2
  rw [← hw1]
  clear hw1
  go_loop [6] (fun i => ∃ k : Nat, k ≤ 8 ∧ i = .int .i64 k ∧ ∀ f, f < k → 0 ≤ N f ∧ N f ≤ 6) (fun i => 8 - (intOf i).toNat)
  case atStart => exact ⟨0, Nat.zero_le _, rfl, fun f hf => by omega⟩
  case round =>
    obtain ⟨k, hk, rfl, hall⟩ := hrel
    have HA : Hid (∀ f, f < k → 0 ≤ N f ∧ N f ≤ 6) := hall
    clear hall
    by_cases hlt : k < 8
    · have hc := HX.out k hlt
      obtain ⟨x, hx⟩ : ∃ x, x = N k := ⟨_, rfl⟩
      rw [← hx] at hc
      have HXk : Hid (x = N k) := hx
      clear hx
      by_cases h0 : x < 0
      · have HE : Hid (errV F = .iface 61 (.int .i64 1)) := HF1.out k hlt (by rw [← HXk.out]; omega)
        go_wp2
        go_ret
        exact ⟨back_v HE.out.symm, HW.out⟩
      by_cases h6 : 6 < x
      · have HE : Hid (errV F = .iface 61 (.int .i64 1)) := HF1.out k hlt (by rw [← HXk.out]; omega)
        go_wp2
        go_ret
        exact ⟨back_v HE.out.symm, HW.out⟩
      · have HN : Hid (∀ f, f < k + 1 → 0 ≤ N f ∧ N f ≤ 6) := fun f hf => by
          rcases Nat.lt_or_ge f k with h' | h'
          · exact HA.out f h'
          · obtain rfl : f = k := by omega
            rw [← HXk.out]; omega
        go_wp2
        go_round
        case rel => exact ⟨k + 1, by omega, by go_num, HN.out⟩
        case measure => simp [intOf]; omega
    · obtain rfl : k = 8 := by omega
      go_wp2
      go_loop [4, 21] (fun s i => ∃ k : Nat, k ≤ 8 ∧ i = .int .i64 k ∧ s = .int .i64 (sumN N k)) (fun _ i => 8 - (intOf i).toNat)
      case atStart => exact ⟨0, Nat.zero_le _, rfl, rfl⟩
      case round =>
        obtain ⟨k, hk, rfl, rfl⟩ := hrel
        by_cases hlt2 : k < 8
        · have hc := HX.out k hlt2
          have p1 := sumN_le (N := N) (k := k) fun f hf => HA.out f (by omega)
          have p2 := HA.out k (by omega)
          have HS : Hid (sumN N (k + 1) = sumN N k + N k) := rfl
          go_wp2
          go_round
          case rel => exact ⟨k + 1, by omega, by go_num, by rw [HS.out]⟩
          case measure => simp [intOf]; omega
        · obtain rfl : k = 8 := by omega
          by_cases h6 : sumN N 8 ≤ 6
          · have HE : Hid (errV F = .nilIface) := (HF2.out HA.out).1 h6
            go_wp2
            go_ret
            exact ⟨back_v HE.out.symm, HW.out⟩
          · have h6' : 6 < sumN N 8 := by omega
            have HE : Hid (errV F = .iface 61 (.int .i64 4)) := (HF2.out HA.out).2 h6'
            go_wp2
            go_ret
            exact ⟨back_v HE.out.symm, HW.out⟩
end Go.Proofs.YtgkgbpbohgklhafGreatDoor

namespace Go.Proofs.YtgkgbpbohgklhafGreatDoor
open Go.ChangeShapes Go.WideShapes Go.ChangeAt Go.RowKit

/-- the world of so many in each field; the empty one, if the counts are wrong. -/
def madeW (N : Nat → Int) : Wd := if countsFault N = 0 then madeN N 8 else ⟨0, 0, 0, 0⟩

theorem with_more (D : Wd) (f : Nat) (hok : D.ok = true) (h5 : D.u ≤ 5) (hf : f < 8) (w : World) :
    Calls Tryz.prog 84 #[.agg #[.int .i64 D.u, .int .i64 D.a, .int .i64 D.b, .int .i64 D.c], .int .i64 f] w fun e w' => e = .returned (.agg #[.int .i64 (D.more f).u, .int .i64 (D.more f).a, .int .i64 (D.more f).b, .int .i64 (D.more f).c]) ∧ Below w.heap.size w w' := by
  obtain ⟨u, a, b, c⟩ := D
  obtain ⟨n, rfl⟩ := Int.eq_ofNat_of_zero_le (show 0 ≤ u from (ok_u hok).1)
  exact with_field n a b c f hok (by simp only at h5; omega) hf w

set_option maxRecDepth 100000 in
set_option maxHeartbeats 4000000 in
theorem fworld_wrong (N : Nat → Int) (w : World) (hf : ¬ countsFault N = 0) :
    Calls Tryz.prog 61 #[.agg #[.int .i64 (N 0), .int .i64 (N 1), .int .i64 (N 2), .int .i64 (N 3), .int .i64 (N 4), .int .i64 (N 5), .int .i64 (N 6), .int .i64 (N 7)]] w fun e w' => e = .returned (.tuple #[.agg #[.int .i64 0, .int .i64 0, .int .i64 0, .int .i64 0], .iface 61 (.int .i64 (countsFault N))]) ∧ Below w.heap.size w w' := by
  obtain ⟨w1, hw1⟩ : ∃ w1, w1 = (w.alloc (.cells #[.int .i64 (N 0), .int .i64 (N 1), .int .i64 (N 2), .int .i64 (N 3), .int .i64 (N 4), .int .i64 (N 5), .int .i64 (N 6), .int .i64 (N 7)] 64)).alloc (.cells #[.int .i64 0, .int .i64 0, .int .i64 0, .int .i64 0] 37) := ⟨_, rfl⟩
  have HW : Hid (Below w.heap.size w w1) := by unfold Hid; rw [hw1]; exact (below_alloc1 _ _).alloc (by simp) _
  have HK0 : Hid (Blk w1 w.heap.size 64 (arr8 N)) := by unfold Hid; rw [hw1]; exact (Blk.new _ _ _).old _
  have HK1 : Hid (Blk w1 (w.heap.size + 1) 37 (arrW ⟨0, 0, 0, 0⟩)) := by
    unfold Hid; rw [hw1]
    have := Blk.new (w.alloc (.cells (arr8 N) 64)) 37 (arrW ⟨0, 0, 0, 0⟩)
    simp only [World.size_alloc] at this
    exact this
  have HC : Hid (Calls Tryz.prog 83 #[.agg #[.int .i64 (N 0), .int .i64 (N 1), .int .i64 (N 2), .int .i64 (N 3), .int .i64 (N 4), .int .i64 (N 5), .int .i64 (N 6), .int .i64 (N 7)]] w1 fun e w' => e = .returned (.iface 61 (.int .i64 (countsFault N))) ∧ Below w1.heap.size w1 w') := by
    have := fcounts_any N w1
    unfold errV at this
    rw [if_neg hf] at this
    exact this
  obtain ⟨F, hF⟩ : ∃ F, F = countsFault N := ⟨_, rfl⟩
  rw [← hF] at HC ⊢
  clear hF hf
  obtain ⟨x0, x1, x2, x3, x4, x5, x6, x7⟩ := HK0.out.cells8
  go_enter Tryz.func61, Tryz.ntmps61
  go_wp2_with fail
  rw [← hw1]
  clear hw1
  go_wp2_with fail
  go_at_call 83
  refine HC.out.mono ?_
  rintro e w2 ⟨rfl, hb⟩
  have HB : Hid (Below w.heap.size w w2) := HW.out.trans (hb.mono HW.out.size)
  have HR : Hid (Blk w2 (w.heap.size + 1) 37 (arrW ⟨0, 0, 0, 0⟩)) := HK1.out.below hb
  clear hb x0 x1 x2 x3 x4 x5 x6 x7
  have r0 : w2.cell? ⟨w.heap.size + 1, 0, none⟩ = some (.int .i64 0) := HR.out.cell 0
  have r1 : w2.cell? ⟨w.heap.size + 1, 1, none⟩ = some (.int .i64 0) := HR.out.cell 1
  have r2 : w2.cell? ⟨w.heap.size + 1, 2, none⟩ = some (.int .i64 0) := HR.out.cell 2
  have r3 : w2.cell? ⟨w.heap.size + 1, 3, none⟩ = some (.int .i64 0) := HR.out.cell 3
  obtain ⟨f0, f1, f2, f3⟩ := HR.out.frozen4
  go_wp2
  have hld := loadW (putW_blk HR.out ⟨0, 0, 0, 0⟩)
  refine bodyPost_ret (v := .tuple #[.agg #[.int .i64 0, .int .i64 0, .int .i64 0, .int .i64 0], .iface 61 (.int .i64 F)]) ?_ rfl ⟨rfl, ?_⟩
  · rw [results_cell_tmp rfl]
    unfold putW arrW at hld
    simp only at hld
    simp [asAddr, Result.andThen, hld]
  · exact putW_below HB.out (by omega) ⟨0, 0, 0, 0⟩

set_option maxRecDepth 100000 in
set_option maxHeartbeats 4000000 in
theorem fworld_right (N : Nat → Int) (w : World) (hf : countsFault N = 0) :
    Calls Tryz.prog 61 #[.agg #[.int .i64 (N 0), .int .i64 (N 1), .int .i64 (N 2), .int .i64 (N 3), .int .i64 (N 4), .int .i64 (N 5), .int .i64 (N 6), .int .i64 (N 7)]] w fun e w' => e = .returned (.tuple #[.agg (arrW (madeN N 8)), .nilIface]) ∧ Below w.heap.size w w' := by
  obtain ⟨Z, hZ⟩ : ∃ Z : Wd, Z = ⟨0, 0, 0, 0⟩ := ⟨_, rfl⟩
  obtain ⟨w1, hw1⟩ : ∃ w1, w1 = (w.alloc (.cells #[.int .i64 (N 0), .int .i64 (N 1), .int .i64 (N 2), .int .i64 (N 3), .int .i64 (N 4), .int .i64 (N 5), .int .i64 (N 6), .int .i64 (N 7)] 64)).alloc (.cells #[.int .i64 0, .int .i64 0, .int .i64 0, .int .i64 0] 37) := ⟨_, rfl⟩
  have HW : Hid (Below w.heap.size w w1) := by unfold Hid; rw [hw1]; exact (below_alloc1 _ _).alloc (by simp) _
  have HK0 : Hid (Blk w1 w.heap.size 64 (arr8 N)) := by unfold Hid; rw [hw1]; exact (Blk.new _ _ _).old _
  have HK1 : Hid (Blk w1 (w.heap.size + 1) 37 (arrW Z)) := by
    unfold Hid; rw [hw1, hZ]
    have := Blk.new (w.alloc (.cells (arr8 N) 64)) 37 (arrW ⟨0, 0, 0, 0⟩)
    simp only [World.size_alloc] at this
    exact this
  have HC : Hid (Calls Tryz.prog 83 #[.agg #[.int .i64 (N 0), .int .i64 (N 1), .int .i64 (N 2), .int .i64 (N 3), .int .i64 (N 4), .int .i64 (N 5), .int .i64 (N 6), .int .i64 (N 7)]] w1 fun e w' => e = .returned .nilIface ∧ Below w1.heap.size w1 w') := by
    have := fcounts_any N w1
    rw [hf] at this
    exact this
  obtain ⟨hall, hsum⟩ := counts_zero.1 hf
  have HN : Hid (∀ k, k < 8 → 0 ≤ N k ∧ N k ≤ 6) := hall
  have HX : Hid (∀ W k, k < 8 → Blk W w.heap.size 64 (arr8 N) → W.cell? ⟨w.heap.size, k, none⟩ = some (.int .i64 (N k))) := fun W k hk h => by rw [h.cell, arr8_get _ hk]
  have HV : Hid (∀ (k j : Nat) W, k < 8 → (j : Int) < N k → Calls Tryz.prog 84 #[.agg #[.int .i64 ((madeN N k).mores k j).u, .int .i64 ((madeN N k).mores k j).a, .int .i64 ((madeN N k).mores k j).b, .int .i64 ((madeN N k).mores k j).c], .int .i64 k] W fun e w' => e = .returned (.agg #[.int .i64 ((madeN N k).mores k (j + 1)).u, .int .i64 ((madeN N k).mores k (j + 1)).a, .int .i64 ((madeN N k).mores k (j + 1)).b, .int .i64 ((madeN N k).mores k (j + 1)).c]) ∧ Below W.heap.size W w') := fun k j W hk hj => by
    obtain ⟨i1, i2, _⟩ := made_all hall hsum (k := k) (by omega)
    have hm := sumN_mono (N := N) (k := k + 1) (l := 8) (by omega) hall
    have es : sumN N (k + 1) = sumN N k + N k := rfl
    have e := mores_u (madeN N k) k j
    exact with_more _ k (mores_ok i1 k (by rw [i2]; omega)) (by rw [e, i2]; omega) hk W
  have HE : Hid (∀ k, k < 8 → (madeN N k).mores k (N k).toNat = madeN N (k + 1)) := fun k _ => rfl
  have HZ : Hid (Z = madeN N 0) := hZ
  clear hf hall hsum
  obtain ⟨x0, x1, x2, x3, x4, x5, x6, x7⟩ := HK0.out.cells8
  go_enter Tryz.func61, Tryz.ntmps61
  go_wp2_with fail
  rw [← hw1]
  clear hw1
  go_wp2_with fail
  go_at_call 83
  refine HC.out.mono ?_
  rintro e w2 ⟨rfl, hb⟩
  have HB : Hid (Below w.heap.size w w2) := HW.out.trans (hb.mono HW.out.size)
  have HP : Hid (Blk w2 w.heap.size 64 (arr8 N)) := HK0.out.below hb
  have HR : Hid (Blk w2 (w.heap.size + 1) 37 (arrW Z)) := HK1.out.below hb
  clear hb x0 x1 x2 x3 x4 x5 x6 x7
  obtain ⟨G, hG⟩ : ∃ G, G = w2.heap.size := ⟨_, rfl⟩
  have HG : Hid (w.heap.size + 1 < G) := by unfold Hid; rw [hG]; exact HR.out.lt
  obtain ⟨w3, hw3⟩ : ∃ w3, w3 = w2.alloc (.cells #[.int .i64 0, .int .i64 0, .int .i64 0, .int .i64 0] 37) := ⟨_, rfl⟩
  have HB3 : Hid (Below w.heap.size w w3) := by unfold Hid; rw [hw3]; exact HB.out.alloc HB.out.size _
  have HP3 : Hid (Blk w3 w.heap.size 64 (arr8 N)) := by unfold Hid; rw [hw3]; exact HP.out.old _
  have HR3 : Hid (Blk w3 (w.heap.size + 1) 37 (arrW Z)) := by unfold Hid; rw [hw3]; exact HR.out.old _
  have HM3 : Hid (Blk w3 G 37 (arrW (madeN N 0))) := by unfold Hid; rw [hw3, hG]; exact Blk.new _ _ _
  clear HB HP HR hZ
  go_wp2
  rw [← hw3, ← hG]
  clear hw3 hG
  go_loopw [13] (fun i wr => ∃ k : Nat, k ≤ 8 ∧ i = .int .i64 k ∧ Below w.heap.size w wr ∧ Blk wr w.heap.size 64 (arr8 N) ∧ Blk wr (w.heap.size + 1) 37 (arrW Z) ∧ Blk wr G 37 (arrW (madeN N k))) (fun i _ => 8 - (intOf i).toNat)
  case atStart => exact ⟨0, Nat.zero_le _, rfl, HB3.out, HP3.out, HR3.out, HM3.out⟩
  case round =>
    obtain ⟨k, hk, rfl, hb, hp, hr, hm⟩ := hrel
    have HB4 : Hid (Below w.heap.size w wr) := hb
    have HP4 : Hid (Blk wr w.heap.size 64 (arr8 N)) := hp
    have HR4 : Hid (Blk wr (w.heap.size + 1) 37 (arrW Z)) := hr
    have HM4 : Hid (Blk wr G 37 (arrW (madeN N k))) := hm
    clear hb hp hr hm
    by_cases hlt : k < 8
    · have y := HX.out wr k hlt HP4.out
      have p := HN.out k hlt
      obtain ⟨x, hx⟩ : ∃ x : Nat, (x : Int) = N k := ⟨(N k).toNat, by omega⟩
      have HXk : Hid ((x : Int) = N k) := hx
      have HEk : Hid ((madeN N k).mores k x = madeN N (k + 1)) := by
        have := HE.out k hlt
        rw [show (N k).toNat = x by omega] at this
        exact this
      rw [← hx] at y p
      clear hx
      go_wp2
      clear y
      rw [show decide ((k : Int) < 8) = true by simp; omega]
      go_loopw [19] (fun i wr => ∃ j : Nat, j ≤ x ∧ i = .int .i64 j ∧ Below w.heap.size w wr ∧ Blk wr w.heap.size 64 (arr8 N) ∧ Blk wr (w.heap.size + 1) 37 (arrW Z) ∧ Blk wr G 37 (arrW ((madeN N k).mores k j))) (fun i _ => x - (intOf i).toNat)
      case atStart => exact ⟨0, Nat.zero_le _, rfl, HB4.out, HP4.out, HR4.out, HM4.out⟩
      case round =>
        obtain ⟨j, hj, rfl, hb, hp, hr, hm⟩ := hrel
        have HB5 : Hid (Below w.heap.size w wr) := hb
        have HP5 : Hid (Blk wr w.heap.size 64 (arr8 N)) := hp
        have HR5 : Hid (Blk wr (w.heap.size + 1) 37 (arrW Z)) := hr
        have HM5 : Hid (Blk wr G 37 (arrW ((madeN N k).mores k j))) := hm
        clear hb hp hr hm
        by_cases hlj : j < x
        · have HVk : Hid (Calls Tryz.prog 84 #[.agg #[.int .i64 ((madeN N k).mores k j).u, .int .i64 ((madeN N k).mores k j).a, .int .i64 ((madeN N k).mores k j).b, .int .i64 ((madeN N k).mores k j).c], .int .i64 k] wr fun e w' => e = .returned (.agg #[.int .i64 ((madeN N k).mores k (j + 1)).u, .int .i64 ((madeN N k).mores k (j + 1)).a, .int .i64 ((madeN N k).mores k (j + 1)).b, .int .i64 ((madeN N k).mores k (j + 1)).c]) ∧ Below wr.heap.size wr w') := HV.out k j wr hlt (by rw [← HXk.out]; omega)
          obtain ⟨D, hD⟩ : ∃ D, D = (madeN N k).mores k j := ⟨_, rfl⟩
          rw [← hD] at HVk HM5
          obtain ⟨E, hE⟩ : ∃ E, E = (madeN N k).mores k (j + 1) := ⟨_, rfl⟩
          rw [← hE] at HVk
          have HEj : Hid (E = (madeN N k).mores k (j + 1)) := hE
          clear hD hE
          obtain ⟨y0, y1, y2, y3⟩ := HM5.out.cells4
          go_wp2_with fail
          go_at_call 84
          refine HVk.out.mono ?_
          rintro e w6 ⟨rfl, hb⟩
          have HB6 : Hid (Below w.heap.size w w6) := HB5.out.trans (hb.mono HB5.out.size)
          have HP6 : Hid (Blk w6 w.heap.size 64 (arr8 N)) := HP5.out.below hb
          have HR6 : Hid (Blk w6 (w.heap.size + 1) 37 (arrW Z)) := HR5.out.below hb
          have HM6 : Hid (Blk w6 G 37 (arrW D)) := HM5.out.below hb
          clear hb y0 y1 y2 y3
          obtain ⟨y0, y1, y2, y3⟩ := HM6.out.cells4
          obtain ⟨f0, f1, f2, f3⟩ := HM6.out.frozen4
          go_wp2
          go_roundw
          case rel =>
            have hg := HG.out
            exact ⟨j + 1, by omega, by go_num, putW_below HB6.out (by omega) E, putW_far HP6.out (by omega) E, putW_far HR6.out (by omega) E, by rw [← HEj.out]; exact putW_blk HM6.out E⟩
          case measure => simp [intOf]; omega
        · obtain rfl : j = x := by omega
          go_wp2
          go_roundw
          case rel => exact ⟨k + 1, by omega, by go_num, HB5.out, HP5.out, HR5.out, by rw [← HEk.out]; exact HM5.out⟩
          case measure => simp [intOf]; omega
    · obtain rfl : k = 8 := by omega
      obtain ⟨D, hD⟩ : ∃ D, D = madeN N 8 := ⟨_, rfl⟩
      rw [← hD] at HM4
      have HD : Hid (D = madeN N 8) := hD
      clear hD
      obtain ⟨y0, y1, y2, y3⟩ := HM4.out.cells4
      obtain ⟨r0, r1, r2, r3⟩ := HR4.out.cells4
      obtain ⟨f0, f1, f2, f3⟩ := HR4.out.frozen4
      go_wp2
      have hld := loadW (putW_blk HR4.out D)
      refine bodyPost_ret (v := .tuple #[.agg (arrW D), .nilIface]) ?_ rfl ⟨by rw [HD.out], ?_⟩
      · rw [results_cell_tmp rfl]
        unfold putW at hld
        simp [asAddr, Result.andThen, hld]
      · exact putW_below HB4.out (by omega) D

/-- World, whatever the counts. -/
theorem fworld_any (N : Nat → Int) (w : World) :
    Calls Tryz.prog 61 #[.agg #[.int .i64 (N 0), .int .i64 (N 1), .int .i64 (N 2), .int .i64 (N 3), .int .i64 (N 4), .int .i64 (N 5), .int .i64 (N 6), .int .i64 (N 7)]] w fun e w' => e = .returned (.tuple #[.agg (arrW (madeW N)), errV (countsFault N)]) ∧ Below w.heap.size w w' := by
  by_cases hf : countsFault N = 0
  · unfold madeW
    rw [if_pos hf, hf]
    exact fworld_right N w hf
  · unfold madeW errV
    rw [if_neg hf, if_neg hf]
    exact fworld_wrong N w hf
end Go.Proofs.YtgkgbpbohgklhafGreatDoor
