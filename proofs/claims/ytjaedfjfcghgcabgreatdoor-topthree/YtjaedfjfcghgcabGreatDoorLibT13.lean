/-
  Proved: what slices.IndexFunc and slices.ContainsFunc return, of rows, at any function that tells of each; what was in memory is as it was (contracts that the statements lean on). Written by program.
  Proved: appending a list of rows to none, and what the row then reads as. (What the walks of chapter 8's statements lean on.)
  Rows of rows of numbers in memory, and which blocks they lie in: what they read as stays where these blocks stay (facts that the contracts on cubes lean on).
-/
import Derived.Test.YtjaedfjfcghgcabGreatDoorLibT12
import Derived.Shelf.Abstract
import Derived.Deep.LoopGhost
import Derived.Test.YtjaedfjfcghgcabGreatDoorLibT6
import Derived.Maps.AppendAt
import Derived.Deep.AppendLies
import Derived.Test.YtjaedfjfcghgcabGreatDoorLibT9
import Derived.OwnWalk
import Derived.Laws.OwnMore
import Derived.Laws.AppendOwn
namespace Go.Proofs.YtjaedfjfcghgcabGreatDoor
open Go.ChangeShapes Go.WideShapes Go.ChangeAt Go.RowKit
set_option maxRecDepth 100000

/-- a row lies at a place. -/
def RowAt (w : World) (b off : Nat) (r : Rw) : Prop := w.cell? ⟨b, off, none⟩ = some (.int .i64 (r.t 0)) ∧ w.cell? ⟨b, off + 1, none⟩ = some (.int .i64 (r.t 1)) ∧ w.cell? ⟨b, off + 2, none⟩ = some (.int .i64 (r.t 2)) ∧ w.cell? ⟨b, off + 3, none⟩ = some (.int .i64 (r.t 3)) ∧ w.cell? ⟨b, off + 4, none⟩ = some (.int .i64 (r.t 4)) ∧ w.cell? ⟨b, off + 5, none⟩ = some (.int .i64 (r.t 5)) ∧ w.cell? ⟨b, off + 6, none⟩ = some (.int .i64 (r.t 6)) ∧ w.cell? ⟨b, off + 7, none⟩ = some (.int .i64 (r.t 7)) ∧ w.cell? ⟨b, off + 8, none⟩ = some (.int .i64 r.m)
/-- the slice v reads, in the world w, as these rows. -/
def ReadsR (w : World) (v : Value) (l : List Rw) : Prop :=
  (∃ ao cap, v = .slice ao 0 cap ∧ l = []) ∨ (∃ b off cap, v = .slice (some ⟨b, off, none⟩) l.length cap ∧ b < w.heap.size ∧ 0 < l.length ∧ (l.length ≤ 9223372036854775807 ∧ l.length ≤ cap) ∧ ∀ i r, l[i]? = some r → RowAt w b (off + i * 9) r)
theorem RowAt.below {w w' : World} {b off : Nat} {r : Rw} (h : RowAt w b off r) (hB : b < w.heap.size) (hb : Below w.heap.size w w') : RowAt w' b off r := by
  obtain ⟨h0, h1, h2, h3, h4, h5, h6, h7, h8⟩ := h
  exact ⟨by rw [hb.cell hB]; exact h0, by rw [hb.cell hB]; exact h1, by rw [hb.cell hB]; exact h2, by rw [hb.cell hB]; exact h3, by rw [hb.cell hB]; exact h4, by rw [hb.cell hB]; exact h5, by rw [hb.cell hB]; exact h6, by rw [hb.cell hB]; exact h7, by rw [hb.cell hB]; exact h8⟩
theorem ReadsR.below {w w' : World} {v : Value} {l : List Rw} (h : ReadsR w v l) (hb : Below w.heap.size w w') : ReadsR w' v l := by
  rcases h with h | ⟨b, off, cap, h1, h2, h3, h4, h5⟩
  · exact Or.inl h
  · exact Or.inr ⟨b, off, cap, h1, Nat.lt_of_lt_of_le h2 hb.size, h3, h4, fun i a ha => (h5 i a ha).below h2 hb⟩
theorem ReadsR.slice {w : World} {v : Value} {l : List Rw} (h : ReadsR w v l) : ∃ ao cap, v = .slice ao l.length cap ∧ l.length ≤ 9223372036854775807 := by
  rcases h with ⟨ao, cap, rfl, rfl⟩ | ⟨b, off, cap, rfl, _, _, h, _⟩
  · exact ⟨ao, cap, rfl, by decide⟩
  · exact ⟨_, cap, rfl, h.1⟩
theorem getD_row {l : List Rw} {k : Nat} (hk : k < l.length) (d : Rw) : l.getD k d = l[k] := by rw [List.getD_eq_getElem?_getD, List.getElem?_eq_getElem hk]; rfl

theorem noneR (a : Option Addr) (cap : Nat) (fv : Value) (w : World) :
    Calls Tryz.prog 83 #[.slice a 0 cap, fv] w fun e w' => e = .returned (.bool false) ∧ Below w.heap.size w w' := by
  have c : Calls Tryz.prog 116 #[.slice a 0 cap, fv] w fun e w' => e = .returned (.int .i64 (-1)) ∧ w = w' := by
    go_enter Tryz.func116, Tryz.ntmps116
    go_wp2
    go_loopw [5, 8] (fun _ i wr => i = .int .i64 0 ∧ w = wr) (fun _ _ _ => 0)
    case atStart => exact ⟨rfl, rfl⟩
    case round =>
      obtain ⟨rfl, rfl⟩ := hrel
      go_wp2
      go_ret
      exact ⟨rfl, rfl⟩
  go_enter Tryz.func83, Tryz.ntmps83
  go_wp2_with (go_at_call 116; refine c.mono ?_; rintro e w' ⟨rfl, rfl⟩)
  go_ret
  exact ⟨rfl, Below.refl _ _⟩

set_option maxHeartbeats 4000000 in
theorem idxR (n b off cap g : Nat) (us : Nat → Rw) (p : Nat → Bool) (w : World) (hl : n ≤ 9223372036854775807) (hB : b < w.heap.size) (hc : ∀ k, k < n → RowAt w b (off + k * 9) (us k))
    (eg : ∀ args w, (callFunc g args).run Tryz.prog w = .ok (.enter g args) w)
    (hp : ∀ W k, Below w.heap.size w W → k < n → Calls Tryz.prog g #[.agg #[.int .i64 ((us k).t 0), .int .i64 ((us k).t 1), .int .i64 ((us k).t 2), .int .i64 ((us k).t 3), .int .i64 ((us k).t 4), .int .i64 ((us k).t 5), .int .i64 ((us k).t 6), .int .i64 ((us k).t 7), .int .i64 (us k).m]] W fun e w' => e = .returned (.bool (p k)) ∧ Below W.heap.size W w') :
    Calls Tryz.prog 116 #[.slice (some ⟨b, off, none⟩) n cap, .func (.func g) #[] #[]] w fun e w' => (∃ r : Int, e = .returned (.int .i64 r) ∧ (0 ≤ r ↔ ∃ k, k < n ∧ p k = true)) ∧ Below w.heap.size w w' := by
  have HC : Hid (∀ W k, Below w.heap.size w W → k < n → RowAt W b (off + k * 9) (us k)) := fun W k hW hk => (hc k hk).below hB hW
  have HP : Hid (∀ W k, Below w.heap.size w W → k < n → Calls Tryz.prog g #[.agg #[.int .i64 ((us k).t 0), .int .i64 ((us k).t 1), .int .i64 ((us k).t 2), .int .i64 ((us k).t 3), .int .i64 ((us k).t 4), .int .i64 ((us k).t 5), .int .i64 ((us k).t 6), .int .i64 ((us k).t 7), .int .i64 (us k).m]] W fun e w' => e = .returned (.bool (p k)) ∧ Below W.heap.size W w') := hp
  clear hc hp hB
  go_enter Tryz.func116, Tryz.ntmps116
  go_wp2
  go_loopw [5, 8] (fun _ i wr => ∃ k : Nat, k ≤ n ∧ i = .int .i64 k ∧ Below w.heap.size w wr ∧ Hid (∀ j, j < k → p j = false)) (fun _ i _ => n - (intOf i).toNat)
  case atStart => exact ⟨0, Nat.zero_le _, rfl, Below.refl _ _, fun j hj => absurd hj (Nat.not_lt_zero _)⟩
  case round =>
    obtain ⟨k, hk, rfl, hb0, A⟩ := hrel
    have HB : Hid (Below w.heap.size w wr) := hb0
    clear hb0
    by_cases hlt : k < n
    · have hcell := HC.out wr k HB.out hlt
      have hcall := HP.out wr k HB.out hlt
      unfold RowAt at hcell
      obtain ⟨T, hT⟩ : ∃ x, x = (us k).t := ⟨_, rfl⟩
      obtain ⟨m, hm⟩ : ∃ x, x = (us k).m := ⟨_, rfl⟩
      rw [← hT, ← hm] at hcell hcall
      clear hT hm
      obtain ⟨c0, c1, c2, c3, c4, c5, c6, c7, c8⟩ := hcell
      have hltz : (k : Int) < (n : Int) := by omega
      cases hq : p k with
      | true =>
        rw [hq] at hcall
        have HQ : Hid (p k = true) := hq
        have HCl : Hid (Calls Tryz.prog g #[.agg #[.int .i64 (T 0), .int .i64 (T 1), .int .i64 (T 2), .int .i64 (T 3), .int .i64 (T 4), .int .i64 (T 5), .int .i64 (T 6), .int .i64 (T 7), .int .i64 m]] wr fun e w' => e = .returned (.bool true) ∧ Below wr.heap.size wr w') := hcall
        clear hcall hq
        go_wp2_with (go_at_fn g; refine HCl.out.mono ?_; rintro e w' ⟨rfl, hb'⟩; have HB' : Hid (Below w.heap.size w w') := HB.out.trans (hb'.mono HB.out.size); clear hb')
        go_ret
        exact ⟨⟨_, rfl, fun _ => ⟨k, hlt, HQ.out⟩, fun _ => by omega⟩, HB'.out⟩
      | false =>
        rw [hq] at hcall
        have HQ : Hid (p k = false) := hq
        have HCl : Hid (Calls Tryz.prog g #[.agg #[.int .i64 (T 0), .int .i64 (T 1), .int .i64 (T 2), .int .i64 (T 3), .int .i64 (T 4), .int .i64 (T 5), .int .i64 (T 6), .int .i64 (T 7), .int .i64 m]] wr fun e w' => e = .returned (.bool false) ∧ Below wr.heap.size wr w') := hcall
        clear hcall hq
        go_wp2_with (go_at_fn g; refine HCl.out.mono ?_; rintro e w' ⟨rfl, hb'⟩; have HB' : Hid (Below w.heap.size w w') := HB.out.trans (hb'.mono HB.out.size); clear hb')
        go_roundw
        case rel =>
          refine ⟨k + 1, by omega, by go_num, HB'.out, fun j hj => ?_⟩
          by_cases e : j = k
          · rw [e]; exact HQ.out
          · exact A.out j (by omega)
        case measure => simp [intOf]; omega
    · have hltz : ¬ (k : Int) < (n : Int) := by omega
      go_wp2
      go_ret
      refine ⟨⟨_, rfl, fun h => absurd h (by decide), fun ⟨j, hj, hpj⟩ => ?_⟩, HB.out⟩
      rw [A.out j (by omega)] at hpj; cases hpj

set_option maxHeartbeats 2000000 in
theorem someR (n b off cap g : Nat) (us : Nat → Rw) (p : Nat → Bool) (w : World) (hl : n ≤ 9223372036854775807) (hB : b < w.heap.size) (hc : ∀ k, k < n → RowAt w b (off + k * 9) (us k))
    (eg : ∀ args w, (callFunc g args).run Tryz.prog w = .ok (.enter g args) w)
    (hp : ∀ W k, Below w.heap.size w W → k < n → Calls Tryz.prog g #[.agg #[.int .i64 ((us k).t 0), .int .i64 ((us k).t 1), .int .i64 ((us k).t 2), .int .i64 ((us k).t 3), .int .i64 ((us k).t 4), .int .i64 ((us k).t 5), .int .i64 ((us k).t 6), .int .i64 ((us k).t 7), .int .i64 (us k).m]] W fun e w' => e = .returned (.bool (p k)) ∧ Below W.heap.size W w') (R : Bool) (hR : R = true ↔ ∃ k, k < n ∧ p k = true) :
    Calls Tryz.prog 83 #[.slice (some ⟨b, off, none⟩) n cap, .func (.func g) #[] #[]] w fun e w' => e = .returned (.bool R) ∧ Below w.heap.size w w' := by
  have c := idxR n b off cap g us p w hl hB hc eg hp
  clear hc hp eg hB hl
  go_enter Tryz.func83, Tryz.ntmps83
  go_wp2_with fail
  go_at_call 116
  refine c.mono ?_
  rintro e w' ⟨⟨r, rfl, hr⟩, hb⟩
  have HB : Hid (Below w.heap.size w w') := hb
  have HR : Hid (R = decide (0 ≤ r)) := by
    unfold Hid
    rw [Bool.eq_iff_iff, hR, decide_eq_true_eq, hr]
  clear hb hr hR c
  go_wp2
  go_ret
  exact ⟨back_b HR.out.symm, HB.out⟩
/-- slices.ContainsFunc of rows. -/
theorem anyR (l : List Rw) (v : Value) (g : Nat) (p : Rw → Bool) (w : World) (hv : ReadsR w v l) (eg : ∀ args w, (callFunc g args).run Tryz.prog w = .ok (.enter g args) w)
    (hp : ∀ W r, Below w.heap.size w W → r ∈ l → Calls Tryz.prog g #[.agg #[.int .i64 (r.t 0), .int .i64 (r.t 1), .int .i64 (r.t 2), .int .i64 (r.t 3), .int .i64 (r.t 4), .int .i64 (r.t 5), .int .i64 (r.t 6), .int .i64 (r.t 7), .int .i64 r.m]] W fun e w' => e = .returned (.bool (p r)) ∧ Below W.heap.size W w') :
    Calls Tryz.prog 83 #[v, .func (.func g) #[] #[]] w fun e w' => e = .returned (.bool (l.any p)) ∧ Below w.heap.size w w' := by
  rcases hv with ⟨ao, cap, rfl, rfl⟩ | ⟨b, off, cap, rfl, hB, h0, ⟨hl, _⟩, hc⟩
  · exact noneR ao cap _ w
  · refine someR l.length b off cap g (fun k => l.getD k ⟨fun _ => 0, 0⟩) (fun k => p (l.getD k ⟨fun _ => 0, 0⟩)) w hl hB (fun k hk => ?_) eg (fun W k hW hk => ?_) _ ?_
    · rw [getD_row hk]; exact hc k _ (List.getElem?_eq_getElem hk)
    · rw [getD_row hk]; exact hp W _ hW (List.getElem_mem hk)
    · rw [List.any_eq_true]
      constructor
      · rintro ⟨m, hm, hpm⟩
        obtain ⟨k, hk, rfl⟩ := List.getElem_of_mem hm
        exact ⟨k, hk, by rw [getD_row hk]; exact hpm⟩
      · rintro ⟨k, hk, hpk⟩
        rw [getD_row hk] at hpk
        exact ⟨l[k], List.getElem_mem hk, hpk⟩

set_option maxHeartbeats 4000000 in
theorem idxP (n b off cap P g : Nat) (us : Nat → Rw) (p : Nat → Bool) (w : World) (hl : n ≤ 9223372036854775807) (hB : b < w.heap.size) (hc : ∀ k, k < n → RowAt w b (off + k * 9) (us k))
    (eg : ∀ args w, (callFunc g args).run Tryz.prog w = .ok (.enter g args) w)
    (hp : ∀ W k, Below w.heap.size w W → k < n → Calls Tryz.prog g #[.agg #[.int .i64 ((us k).t 0), .int .i64 ((us k).t 1), .int .i64 ((us k).t 2), .int .i64 ((us k).t 3), .int .i64 ((us k).t 4), .int .i64 ((us k).t 5), .int .i64 ((us k).t 6), .int .i64 ((us k).t 7), .int .i64 (us k).m], .pointer (some ⟨P, 0, none⟩)] W fun e w' => e = .returned (.bool (p k)) ∧ Below W.heap.size W w') :
    Calls Tryz.prog 116 #[.slice (some ⟨b, off, none⟩) n cap, .func (.func g) #[] #[.pointer (some ⟨P, 0, none⟩)]] w fun e w' => (∃ r : Int, e = .returned (.int .i64 r) ∧ (0 ≤ r ↔ ∃ k, k < n ∧ p k = true)) ∧ Below w.heap.size w w' := by
  have HC : Hid (∀ W k, Below w.heap.size w W → k < n → RowAt W b (off + k * 9) (us k)) := fun W k hW hk => (hc k hk).below hB hW
  have HP : Hid (∀ W k, Below w.heap.size w W → k < n → Calls Tryz.prog g #[.agg #[.int .i64 ((us k).t 0), .int .i64 ((us k).t 1), .int .i64 ((us k).t 2), .int .i64 ((us k).t 3), .int .i64 ((us k).t 4), .int .i64 ((us k).t 5), .int .i64 ((us k).t 6), .int .i64 ((us k).t 7), .int .i64 (us k).m], .pointer (some ⟨P, 0, none⟩)] W fun e w' => e = .returned (.bool (p k)) ∧ Below W.heap.size W w') := hp
  clear hc hp hB
  go_enter Tryz.func116, Tryz.ntmps116
  go_wp2
  go_loopw [5, 8] (fun _ i wr => ∃ k : Nat, k ≤ n ∧ i = .int .i64 k ∧ Below w.heap.size w wr ∧ Hid (∀ j, j < k → p j = false)) (fun _ i _ => n - (intOf i).toNat)
  case atStart => exact ⟨0, Nat.zero_le _, rfl, Below.refl _ _, fun j hj => absurd hj (Nat.not_lt_zero _)⟩
  case round =>
    obtain ⟨k, hk, rfl, hb0, A⟩ := hrel
    have HB : Hid (Below w.heap.size w wr) := hb0
    clear hb0
    by_cases hlt : k < n
    · have hcell := HC.out wr k HB.out hlt
      have hcall := HP.out wr k HB.out hlt
      unfold RowAt at hcell
      obtain ⟨T, hT⟩ : ∃ x, x = (us k).t := ⟨_, rfl⟩
      obtain ⟨m, hm⟩ : ∃ x, x = (us k).m := ⟨_, rfl⟩
      rw [← hT, ← hm] at hcell hcall
      clear hT hm
      obtain ⟨c0, c1, c2, c3, c4, c5, c6, c7, c8⟩ := hcell
      have hltz : (k : Int) < (n : Int) := by omega
      cases hq : p k with
      | true =>
        rw [hq] at hcall
        have HQ : Hid (p k = true) := hq
        have HCl : Hid (Calls Tryz.prog g #[.agg #[.int .i64 (T 0), .int .i64 (T 1), .int .i64 (T 2), .int .i64 (T 3), .int .i64 (T 4), .int .i64 (T 5), .int .i64 (T 6), .int .i64 (T 7), .int .i64 m], .pointer (some ⟨P, 0, none⟩)] wr fun e w' => e = .returned (.bool true) ∧ Below wr.heap.size wr w') := hcall
        clear hcall hq
        go_wp2_with (go_at_fn g; refine HCl.out.mono ?_; rintro e w' ⟨rfl, hb'⟩; have HB' : Hid (Below w.heap.size w w') := HB.out.trans (hb'.mono HB.out.size); clear hb')
        go_ret
        exact ⟨⟨_, rfl, fun _ => ⟨k, hlt, HQ.out⟩, fun _ => by omega⟩, HB'.out⟩
      | false =>
        rw [hq] at hcall
        have HQ : Hid (p k = false) := hq
        have HCl : Hid (Calls Tryz.prog g #[.agg #[.int .i64 (T 0), .int .i64 (T 1), .int .i64 (T 2), .int .i64 (T 3), .int .i64 (T 4), .int .i64 (T 5), .int .i64 (T 6), .int .i64 (T 7), .int .i64 m], .pointer (some ⟨P, 0, none⟩)] wr fun e w' => e = .returned (.bool false) ∧ Below wr.heap.size wr w') := hcall
        clear hcall hq
        go_wp2_with (go_at_fn g; refine HCl.out.mono ?_; rintro e w' ⟨rfl, hb'⟩; have HB' : Hid (Below w.heap.size w w') := HB.out.trans (hb'.mono HB.out.size); clear hb')
        go_roundw
        case rel =>
          refine ⟨k + 1, by omega, by go_num, HB'.out, fun j hj => ?_⟩
          by_cases e : j = k
          · rw [e]; exact HQ.out
          · exact A.out j (by omega)
        case measure => simp [intOf]; omega
    · have hltz : ¬ (k : Int) < (n : Int) := by omega
      go_wp2
      go_ret
      refine ⟨⟨_, rfl, fun h => absurd h (by decide), fun ⟨j, hj, hpj⟩ => ?_⟩, HB.out⟩
      rw [A.out j (by omega)] at hpj; cases hpj

set_option maxHeartbeats 2000000 in
theorem someP (n b off cap P g : Nat) (us : Nat → Rw) (p : Nat → Bool) (w : World) (hl : n ≤ 9223372036854775807) (hB : b < w.heap.size) (hc : ∀ k, k < n → RowAt w b (off + k * 9) (us k))
    (eg : ∀ args w, (callFunc g args).run Tryz.prog w = .ok (.enter g args) w)
    (hp : ∀ W k, Below w.heap.size w W → k < n → Calls Tryz.prog g #[.agg #[.int .i64 ((us k).t 0), .int .i64 ((us k).t 1), .int .i64 ((us k).t 2), .int .i64 ((us k).t 3), .int .i64 ((us k).t 4), .int .i64 ((us k).t 5), .int .i64 ((us k).t 6), .int .i64 ((us k).t 7), .int .i64 (us k).m], .pointer (some ⟨P, 0, none⟩)] W fun e w' => e = .returned (.bool (p k)) ∧ Below W.heap.size W w') (R : Bool) (hR : R = true ↔ ∃ k, k < n ∧ p k = true) :
    Calls Tryz.prog 83 #[.slice (some ⟨b, off, none⟩) n cap, .func (.func g) #[] #[.pointer (some ⟨P, 0, none⟩)]] w fun e w' => e = .returned (.bool R) ∧ Below w.heap.size w w' := by
  have c := idxP n b off cap P g us p w hl hB hc eg hp
  clear hc hp eg hB hl
  go_enter Tryz.func83, Tryz.ntmps83
  go_wp2_with fail
  go_at_call 116
  refine c.mono ?_
  rintro e w' ⟨⟨r, rfl, hr⟩, hb⟩
  have HB : Hid (Below w.heap.size w w') := hb
  have HR : Hid (R = decide (0 ≤ r)) := by
    unfold Hid
    rw [Bool.eq_iff_iff, hR, decide_eq_true_eq, hr]
  clear hb hr hR c
  go_wp2
  go_ret
  exact ⟨back_b HR.out.symm, HB.out⟩
/-- slices.ContainsFunc of rows. -/
theorem anyP (l : List Rw) (v : Value) (P g : Nat) (p : Rw → Bool) (w : World) (hv : ReadsR w v l) (eg : ∀ args w, (callFunc g args).run Tryz.prog w = .ok (.enter g args) w)
    (hp : ∀ W r, Below w.heap.size w W → r ∈ l → Calls Tryz.prog g #[.agg #[.int .i64 (r.t 0), .int .i64 (r.t 1), .int .i64 (r.t 2), .int .i64 (r.t 3), .int .i64 (r.t 4), .int .i64 (r.t 5), .int .i64 (r.t 6), .int .i64 (r.t 7), .int .i64 r.m], .pointer (some ⟨P, 0, none⟩)] W fun e w' => e = .returned (.bool (p r)) ∧ Below W.heap.size W w') :
    Calls Tryz.prog 83 #[v, .func (.func g) #[] #[.pointer (some ⟨P, 0, none⟩)]] w fun e w' => e = .returned (.bool (l.any p)) ∧ Below w.heap.size w w' := by
  rcases hv with ⟨ao, cap, rfl, rfl⟩ | ⟨b, off, cap, rfl, hB, h0, ⟨hl, _⟩, hc⟩
  · exact noneR ao cap _ w
  · refine someP l.length b off cap P g (fun k => l.getD k ⟨fun _ => 0, 0⟩) (fun k => p (l.getD k ⟨fun _ => 0, 0⟩)) w hl hB (fun k hk => ?_) eg (fun W k hW hk => ?_) _ ?_
    · rw [getD_row hk]; exact hc k _ (List.getElem?_eq_getElem hk)
    · rw [getD_row hk]; exact hp W _ hW (List.getElem_mem hk)
    · rw [List.any_eq_true]
      constructor
      · rintro ⟨m, hm, hpm⟩
        obtain ⟨k, hk, rfl⟩ := List.getElem_of_mem hm
        exact ⟨k, hk, by rw [getD_row hk]; exact hpm⟩
      · rintro ⟨k, hk, hpk⟩
        rw [getD_row hk] at hpk
        exact ⟨l[k], List.getElem_mem hk, hpk⟩
end Go.Proofs.YtjaedfjfcghgcabGreatDoor


namespace Go.Proofs.YtjaedfjfcghgcabGreatDoor
open Go.ChangeShapes Go.WideShapes Go.ChangeAt Go.RowKit
set_option maxRecDepth 100000

/-- the cells of a list of rows. -/
def cellsR (l : List Rw) : List Value := l.flatMap fun r => (arrR r.t r.m).toList
theorem cellsR_append (l m : List Rw) : cellsR (l ++ m) = cellsR l ++ cellsR m := by unfold cellsR; rw [List.flatMap_append]
theorem cellsR_one (r : Rw) : cellsR [r] = (arrR r.t r.m).toList := by unfold cellsR; simp
theorem cellsR_at (l : List Rw) : ∀ (i : Nat) (r : Rw), l[i]? = some r → ∀ f, f < 9 → (cellsR l)[i * 9 + f]? = (arrR r.t r.m)[f]? := by
  induction l with
  | nil => intro i r h; simp at h
  | cons q l ih =>
    intro i r h f hf
    have e : cellsR (q :: l) = (arrR q.t q.m).toList ++ cellsR l := by unfold cellsR; rw [List.flatMap_cons]
    have hl : (arrR q.t q.m).toList.length = 9 := rfl
    rw [e]
    cases i with
    | zero =>
      obtain rfl : q = r := by simpa using h
      rw [List.getElem?_append_left (by omega), show 0 * 9 + f = f by omega, Array.getElem?_toList]
    | succ i =>
      rw [List.getElem?_append_right (by omega), hl, show (i + 1) * 9 + f - 9 = i * 9 + f by omega]
      exact ih i r (by simpa using h) f hf
theorem RowAt.all {w : World} {b off : Nat} {r : Rw} (h : RowAt w b off r) : ∀ f, f < 9 → w.cell? ⟨b, off + f, none⟩ = (arrR r.t r.m)[f]? := by
  obtain ⟨h0, h1, h2, h3, h4, h5, h6, h7, h8⟩ := h
  intro f hf
  have d : f = 0 ∨ f = 1 ∨ f = 2 ∨ f = 3 ∨ f = 4 ∨ f = 5 ∨ f = 6 ∨ f = 7 ∨ f = 8 := by omega
  rcases d with rfl | rfl | rfl | rfl | rfl | rfl | rfl | rfl | rfl
  · exact h0
  · exact h1
  · exact h2
  · exact h3
  · exact h4
  · exact h5
  · exact h6
  · exact h7
  · exact h8
theorem own_readsR {w : World} {K : Nat} {v : Value} {l : List Rw} (h : w.ownsRow K 46 9 v l.length (cellsR l)) (hm : l.length ≤ 9223372036854775807) : ReadsR w v l := by
  rcases h.2 with ⟨rfl, h0⟩ | ⟨g, cap, cur, rfl, hb, hg, hc, hmx, hs, ht⟩
  · exact Or.inl ⟨none, 0, rfl, List.eq_nil_of_length_eq_zero h0⟩
  · rcases Nat.eq_zero_or_pos l.length with h0 | h0
    · have e : l = [] := List.eq_nil_of_length_eq_zero h0
      subst e
      exact Or.inl ⟨_, _, rfl, rfl⟩
    · refine Or.inr ⟨g, 0, cap, rfl, (Array.getElem?_eq_some_iff.1 hg).1, h0, ⟨hm, hc⟩, fun i r hr => ?_⟩
      have hi : i < l.length := (List.getElem?_eq_some_iff.1 hr).1
      have k : ∀ f, f < 9 → w.cell? ⟨g, 0 + i * 9 + f, none⟩ = (arrR r.t r.m)[f]? := fun f hf => by
        rw [cell_of_row w g _ cur _ (0, 0) hg]
        have hx := cellsR_at l i r hr f hf
        rw [← ht, List.getElem?_take_of_lt (by omega)] at hx
        rw [show 0 + i * 9 + f = i * 9 + f by omega, ← Array.getElem?_toList]
        exact hx
      exact ⟨k 0 (by omega), k 1 (by omega), k 2 (by omega), k 3 (by omega), k 4 (by omega), k 5 (by omega), k 6 (by omega), k 7 (by omega), k 8 (by omega)⟩
theorem infoI9 : (Tryz.prog.info? 46).isSome = true := by kernel_rfl
theorem zeroI9 : (Tryz.prog.info? 46).bind (·.zero) = some (.agg #[.int .i64 0, .int .i64 0, .int .i64 0, .int .i64 0, .int .i64 0, .int .i64 0, .int .i64 0, .int .i64 0, .int .i64 0]) := by kernel_rfl
theorem sizeI9 : (Tryz.prog.info? 46).map (·.size) = some 9 := by kernel_rfl
theorem bytesI9 : (Tryz.prog.info? 46).map (·.bytes) = some 72 := by kernel_rfl
/-- one row more, out of a block of its own. -/
theorem append_one {w : World} {ops : Array Oper} {rest : List Oper} {o : Oper} {a : Act} {Q : Exit → Act → World → Prop} (hgd : o.guard = none) (s x : Operand)
    (ho : o.op = .call { callee := .builtin .append, args := #[s, x], argTypes := #[43, 43] }) (K : Nat) (v : Value) (hs : a.eval s = v) (l : List Rw) (r : Rw) (B c : Nat) (hx : a.eval x = .slice (some ⟨B, 0, none⟩) 1 c)
    (hown : w.ownsRow K 46 9 v l.length (cellsR l)) (hB : w.heap[B]? = some (.cells (arrR r.t r.m) 46 (0, 0))) (hK : K ≤ w.heap.size) (h12 : l.length ≤ 12)
    (h : ∀ v' w', w'.ownsRow K 46 9 v' (l ++ [r]).length (cellsR (l ++ [r])) → w.grownBy w' v.ownBlock → wpList Tryz.prog ops Q rest (a.put o.dst v') w') :
    wpList Tryz.prog ops Q (o :: rest) a w := by
  obtain ⟨i9, hi⟩ : ∃ i, Tryz.prog.info? 46 = some i := Option.isSome_iff_exists.1 infoI9
  have hz0 : i9.zero = some (.agg #[.int .i64 0, .int .i64 0, .int .i64 0, .int .i64 0, .int .i64 0, .int .i64 0, .int .i64 0, .int .i64 0, .int .i64 0]) := by have := zeroI9; rw [hi] at this; simpa using this
  have hz1 : i9.size = 9 := by have := sizeI9; rw [hi] at this; simpa using this
  have hz2 : i9.bytes = 72 := by have := bytesI9; rw [hi] at this; simpa using this
  refine wpList_append_own_at w hgd s x 43 ho K 46 i9 _ 9 72 Tryz.underlying43 hi hz0 hz1 hz2 rfl (by decide) v l.length (cellsR l) hs hown ⟨B, 0, none⟩ 1 c (arrR r.t r.m).toList hx rfl (World.news_of_block hB) (by simp [arrR, Value.oneCell']) (by unfold maxLen; omega) (by omega) hK ?_
  intro v' w' h1 h2 _ _
  refine h v' w' ?_ h2
  rw [cellsR_append, cellsR_one, List.length_append]
  exact h1
end Go.Proofs.YtjaedfjfcghgcabGreatDoor


namespace Go.Proofs.YtjaedfjfcghgcabGreatDoor
open Go.ChangeShapes Go.WideShapes Go.ChangeAt Go.RowKit
set_option maxRecDepth 100000

/-- blocks of S stay as they were. -/
def Kept (S : Nat → Prop) (w w' : World) : Prop := w.heap.size ≤ w'.heap.size ∧ ∀ b, S b → b < w.heap.size → w'.heap[b]? = w.heap[b]?
theorem Kept.of_below {S : Nat → Prop} {w w' : World} (h : Below w.heap.size w w') : Kept S w w' := ⟨h.size, fun b _ hb => h.block b hb⟩
theorem Kept.of_belowK {S : Nat → Prop} {w w' : World} {K : Nat} (h : Below K w w') (hS : ∀ b, S b → b < w.heap.size → b < K) : Kept S w w' := ⟨h.size, fun b h1 h2 => h.block b (hS b h1 h2)⟩
theorem Kept.of_grown {S : Nat → Prop} {w w' : World} {r : Option Nat} (h : w.grownBy w' r) (hS : ∀ b, S b → some b ≠ r) : Kept S w w' := ⟨h.size, fun b h1 h2 => h.block b h2 (hS b h1)⟩
/-- the slice v reads, in the world w, as the numbers t, and lies in a block of S. -/
def RS (S : Nat → Prop) (w : World) (v : Value) (t : List Int) : Prop :=
  (∃ ao cap, v = .slice ao 0 cap ∧ t = []) ∨ (∃ b off cap, v = .slice (some ⟨b, off, none⟩) t.length cap ∧ (S b ∧ b < w.heap.size) ∧ 0 < t.length ∧ (t.length ≤ 9223372036854775807 ∧ t.length ≤ cap) ∧ ∀ k, k < t.length → w.cell? ⟨b, off + k, none⟩ = some (.int .i64 (t.getD k 0)))
theorem RS.reads {S : Nat → Prop} {w : World} {v : Value} {t : List Int} (h : RS S w v t) : Reads w v t := by
  rcases h with h | ⟨b, off, cap, h1, h2, h3, h4, h5⟩
  · exact Or.inl h
  · exact Or.inr ⟨b, off, cap, h1, h2.2, h3, h4, h5⟩
theorem Reads.rs {S : Nat → Prop} {w : World} {v : Value} {t : List Int} (h : Reads w v t) (hS : ∀ b, b < w.heap.size → S b) : RS S w v t := by
  rcases h with h | ⟨b, off, cap, h1, h2, h3, h4, h5⟩
  · exact Or.inl h
  · exact Or.inr ⟨b, off, cap, h1, ⟨hS b h2, h2⟩, h3, h4, h5⟩
theorem RS.mono {S T : Nat → Prop} {w : World} {v : Value} {t : List Int} (h : RS S w v t) (hS : ∀ b, b < w.heap.size → S b → T b) : RS T w v t := by
  rcases h with h | ⟨b, off, cap, h1, h2, h3, h4, h5⟩
  · exact Or.inl h
  · exact Or.inr ⟨b, off, cap, h1, ⟨hS b h2.2 h2.1, h2.2⟩, h3, h4, h5⟩
theorem RS.kept {S : Nat → Prop} {w w' : World} {v : Value} {t : List Int} (h : RS S w v t) (hk : Kept S w w') : RS S w' v t := by
  rcases h with h | ⟨b, off, cap, h1, h2, h3, h4, h5⟩
  · exact Or.inl h
  · exact Or.inr ⟨b, off, cap, h1, ⟨h2.1, Nat.lt_of_lt_of_le h2.2 hk.1⟩, h3, h4, fun k hk' => by rw [World.cell?_of_block (w := w) (hk.2 b h2.1 h2.2)]; exact h5 k hk'⟩
theorem RS.slice {S : Nat → Prop} {w : World} {v : Value} {t : List Int} (h : RS S w v t) : ∃ ao cap, v = .slice ao t.length cap ∧ t.length ≤ 9223372036854775807 := by
  rcases h with ⟨ao, cap, rfl, rfl⟩ | ⟨b, off, cap, rfl, _, _, h, _⟩
  · exact ⟨ao, cap, rfl, by decide⟩
  · exact ⟨_, cap, rfl, h.1⟩
theorem RS.one {S : Nat → Prop} {w : World} {v : Value} {t : List Int} (h : RS S w v t) : v.oneCell' = true := by
  obtain ⟨_, _, rfl, _⟩ := h.slice; rfl
/-- the slice v reads as these rows of numbers; it and they lie in blocks of S. -/
def RS2 (S : Nat → Prop) (w : World) (v : Value) (L : List (List Int)) : Prop :=
  (∃ ao cap, v = .slice ao 0 cap ∧ L = []) ∨ (∃ b off cap, v = .slice (some ⟨b, off, none⟩) L.length cap ∧ (S b ∧ b < w.heap.size) ∧ 0 < L.length ∧ (L.length ≤ 9223372036854775807 ∧ L.length ≤ cap) ∧ ∀ k t, L[k]? = some t → ∃ u, w.cell? ⟨b, off + k, none⟩ = some u ∧ RS S w u t)
theorem RS2.mono {S T : Nat → Prop} {w : World} {v : Value} {L : List (List Int)} (h : RS2 S w v L) (hS : ∀ b, b < w.heap.size → S b → T b) : RS2 T w v L := by
  rcases h with h | ⟨b, off, cap, h1, h2, h3, h4, h5⟩
  · exact Or.inl h
  · refine Or.inr ⟨b, off, cap, h1, ⟨hS b h2.2 h2.1, h2.2⟩, h3, h4, fun k t hk => ?_⟩
    obtain ⟨u, hu, hr⟩ := h5 k t hk
    exact ⟨u, hu, hr.mono hS⟩
theorem RS2.kept {S : Nat → Prop} {w w' : World} {v : Value} {L : List (List Int)} (h : RS2 S w v L) (hk : Kept S w w') : RS2 S w' v L := by
  rcases h with h | ⟨b, off, cap, h1, h2, h3, h4, h5⟩
  · exact Or.inl h
  · refine Or.inr ⟨b, off, cap, h1, ⟨h2.1, Nat.lt_of_lt_of_le h2.2 hk.1⟩, h3, h4, fun k t hkt => ?_⟩
    obtain ⟨u, hu, hr⟩ := h5 k t hkt
    exact ⟨u, by rw [World.cell?_of_block (w := w) (hk.2 b h2.1 h2.2)]; exact hu, hr.kept hk⟩
theorem RS2.slice {S : Nat → Prop} {w : World} {v : Value} {L : List (List Int)} (h : RS2 S w v L) : ∃ ao cap, v = .slice ao L.length cap ∧ L.length ≤ 9223372036854775807 := by
  rcases h with ⟨ao, cap, rfl, rfl⟩ | ⟨b, off, cap, rfl, _, _, h, _⟩
  · exact ⟨ao, cap, rfl, by decide⟩
  · exact ⟨_, cap, rfl, h.1⟩
theorem RS2.one {S : Nat → Prop} {w : World} {v : Value} {L : List (List Int)} (h : RS2 S w v L) : v.oneCell' = true := by
  obtain ⟨_, _, rfl, _⟩ := h.slice; rfl
/-- a row of rows that is the call's own, behind K; its rows lie elsewhere. -/
def Own2 (S : Nat → Prop) (K : Nat) (w : World) (v : Value) (L : List (List Int)) : Prop :=
  ∃ xs : List Value, w.ownsRow K 23 1 v L.length xs ∧ ∀ (k : Nat) t, L[k]? = some t → ∃ u, xs[k]? = some u ∧ RS (fun b => (S b ∨ K ≤ b) ∧ some b ≠ v.ownBlock) w u t
theorem Own2.nil (S : Nat → Prop) (K : Nat) (w : World) : Own2 S K w (.slice none 0 0) [] := ⟨[], World.ownsRow_nil _ _ _ _, fun k t h => (by simp at h)⟩
theorem ownsRow_same {w w' : World} {base : Nat} {e : TypeId} {size : Nat} {v : Value} {n : Nat} {xs : List Value} (h : w.ownsRow base e size v n xs) (hb : ∀ b, b < w.heap.size → w'.heap[b]? = w.heap[b]?) : w'.ownsRow base e size v n xs := by
  refine ⟨h.1, ?_⟩
  rcases h.2 with hn | ⟨g, cap, cur, rfl, hg, hh, rest⟩
  · exact .inl hn
  · exact .inr ⟨g, cap, cur, rfl, hg, by rw [hb g (Array.getElem?_eq_some_iff.1 hh).1]; exact hh, rest⟩
theorem Own2.below {S : Nat → Prop} {K : Nat} {w w' : World} {v : Value} {L : List (List Int)} (h : Own2 S K w v L) (hb : Below w.heap.size w w') : Own2 S K w' v L := by
  obtain ⟨xs, h1, h2⟩ := h
  refine ⟨xs, ownsRow_same h1 hb.block, fun k t hk => ?_⟩
  obtain ⟨u, hu, hr⟩ := h2 k t hk
  exact ⟨u, hu, hr.kept (Kept.of_below hb)⟩
theorem Own2.push {S : Nat → Prop} {K : Nat} {w w' : World} {v u : Value} {L : List (List Int)} {t : List Int} {xs : List Value} {g cap : Nat} (hw : w.ownsRow K 23 1 v L.length xs)
    (hx : ∀ (k : Nat) t, L[k]? = some t → ∃ u, xs[k]? = some u ∧ RS (fun b => (S b ∨ K ≤ b) ∧ some b ≠ v.ownBlock) w u t) (hu : RS (fun b => (S b ∨ K ≤ b) ∧ some b ≠ v.ownBlock) w u t)
    (hown : w'.ownsRow K 23 1 (.slice (some ⟨g, 0, none⟩) (L.length + 1) cap) (L.length + 1) (xs ++ [u])) (hg : w.grownBy w' v.ownBlock) (hat : v.ownBlock = some g ∨ g = w.heap.size) :
    Own2 S K w' (.slice (some ⟨g, 0, none⟩) (L.length + 1) cap) (L ++ [t]) := by
  have hl : xs.length = L.length := by have := hw.1; simpa using this
  have key : ∀ x s, RS (fun b => (S b ∨ K ≤ b) ∧ some b ≠ v.ownBlock) w x s → RS (fun b => (S b ∨ K ≤ b) ∧ some b ≠ (Value.slice (some ⟨g, 0, none⟩) (L.length + 1) cap).ownBlock) w' x s := by
    intro x s hxs
    have h1 : RS (fun b => ((S b ∨ K ≤ b) ∧ some b ≠ v.ownBlock) ∧ some b ≠ (Value.slice (some ⟨g, 0, none⟩) (L.length + 1) cap).ownBlock) w x s := hxs.mono fun b hb h => ⟨h, by
      show some b ≠ some g
      rcases hat with e | e
      · rw [← e]; exact h.2
      · intro e2; rw [Option.some.inj e2, e] at hb; omega⟩
    have h2 := h1.kept (Kept.of_grown hg fun b hb => hb.1.2)
    exact h2.mono fun b _ hb => ⟨hb.1.1, hb.2⟩
  refine ⟨xs ++ [u], by rw [List.length_append]; exact hown, fun k s hk => ?_⟩
  by_cases hlt : k < L.length
  · rw [List.getElem?_append_left hlt] at hk
    obtain ⟨x, hx1, hx2⟩ := hx k s hk
    exact ⟨x, by rw [List.getElem?_append_left (by omega)]; exact hx1, key _ _ hx2⟩
  · rw [List.getElem?_append_right (by omega)] at hk
    have e : k - L.length = 0 := by
      have := (List.getElem?_eq_some_iff.1 hk).1; simp at this; omega
    rw [e] at hk
    simp at hk; subst hk
    exact ⟨u, by rw [List.getElem?_append_right (by omega), hl, e]; rfl, key _ _ hu⟩
/-- what a call's own row of rows reads as. -/
theorem Own2.reads {S : Nat → Prop} {K : Nat} {w : World} {v : Value} {L : List (List Int)} (h : Own2 S K w v L) (hm : L.length ≤ 9223372036854775807) : RS2 (fun b => S b ∨ K ≤ b) w v L := by
  obtain ⟨xs, h1, h2⟩ := h
  rcases h1.2 with ⟨rfl, h0⟩ | ⟨g, cap, cur, rfl, hg, hh, hc, _⟩
  · exact Or.inl ⟨_, _, rfl, List.eq_nil_of_length_eq_zero (by omega)⟩
  · rcases Nat.eq_zero_or_pos L.length with h0 | h0
    · exact Or.inl ⟨_, cap, by rw [h0], List.eq_nil_of_length_eq_zero (by omega)⟩
    · refine Or.inr ⟨g, 0, cap, rfl, ⟨Or.inr hg, (Array.getElem?_eq_some_iff.1 hh).1⟩, h0, ⟨hm, hc⟩, fun k t hk => ?_⟩
      have hi := (List.getElem?_eq_some_iff.1 hk).1
      obtain ⟨u, hu, hr⟩ := h2 k t hk
      exact ⟨u, by rw [Nat.zero_add, h1.cellAt _ (by omega)]; exact hu, hr.mono fun b _ hb => hb.1⟩
theorem Own2.lt {S : Nat → Prop} {K : Nat} {w : World} {v : Value} {L : List (List Int)} (h : Own2 S K w v L) : ∀ k, v.ownBlock = some k → K ≤ k ∧ k < w.heap.size := by
  obtain ⟨xs, h1, _⟩ := h; exact h1.lt
end Go.Proofs.YtjaedfjfcghgcabGreatDoor

