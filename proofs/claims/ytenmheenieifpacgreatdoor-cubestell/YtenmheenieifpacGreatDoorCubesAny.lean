/-
  Proved: what slices.IndexFunc and slices.ContainsFunc return, of rows of numbers and of rows of rows, at any function that tells of each; and slices.Contains and slices.Equal, of numbers; what was in memory is as it was (contracts that the statements lean on). Written by program.
-/
import Derived.Test.YtenmheenieifpacGreatDoorCubesRows
import Derived.Test.YtenmheenieifpacGreatDoorCubesJoin
import Derived.Shelf.Abstract
import Derived.Deep.LoopGhost
namespace Go.Proofs.YtenmheenieifpacGreatDoor
open Go.ChangeShapes Go.WideShapes Go.ChangeAt Go.RowKit
set_option maxRecDepth 100000

set_option maxHeartbeats 2000000 in
theorem idx1 (n b off cap P g : Nat) (us : Nat → Int) (p : Nat → Bool) (w : World) (hl : n ≤ 9223372036854775807) (hB : b < w.heap.size) (hc : ∀ k, k < n → w.cell? ⟨b, off + k, none⟩ = some (.int .i64 (us k)))
    (eg : ∀ args w, (callFunc g args).run Tryz.prog w = .ok (.enter g args) w)
    (hp : ∀ W k, Below w.heap.size w W → k < n → Calls Tryz.prog g #[.int .i64 (us k), .pointer (some ⟨P, 0, none⟩)] W fun e w' => e = .returned (.bool (p k)) ∧ Below W.heap.size W w') :
    Calls Tryz.prog 48 #[.slice (some ⟨b, off, none⟩) n cap, .func (.func g) #[] #[.pointer (some ⟨P, 0, none⟩)]] w fun e w' => (∃ r : Int, e = .returned (.int .i64 r) ∧ (0 ≤ r ↔ ∃ k, k < n ∧ p k = true)) ∧ Below w.heap.size w w' := by
  have HC : Hid (∀ W k, Below w.heap.size w W → k < n → W.cell? ⟨b, off + k, none⟩ = some (.int .i64 (us k))) := fun W k hW hk => by rw [hW.cell (show (⟨b, off + k, none⟩ : Addr).block < w.heap.size from hB)]; exact hc k hk
  have HP : Hid (∀ W k, Below w.heap.size w W → k < n → Calls Tryz.prog g #[.int .i64 (us k), .pointer (some ⟨P, 0, none⟩)] W fun e w' => e = .returned (.bool (p k)) ∧ Below W.heap.size W w') := hp
  clear hc hp hB
  go_enter Tryz.func48, Tryz.ntmps48
  go_wp2
  go_loopw [5, 8] (fun _ i wr => ∃ k : Nat, k ≤ n ∧ i = .int .i64 k ∧ Below w.heap.size w wr ∧ Hid (∀ j, j < k → p j = false)) (fun _ i _ => n - (intOf i).toNat)
  case atStart => exact ⟨0, Nat.zero_le _, rfl, Below.refl _ _, fun j hj => absurd hj (Nat.not_lt_zero _)⟩
  case round =>
    obtain ⟨k, hk, rfl, hb0, A⟩ := hrel
    have HB : Hid (Below w.heap.size w wr) := hb0
    clear hb0
    by_cases hlt : k < n
    · have hcell := HC.out wr k HB.out hlt
      have hcall := HP.out wr k HB.out hlt
      obtain ⟨x, hx⟩ : ∃ x, x = us k := ⟨_, rfl⟩
      rw [← hx] at hcell hcall
      clear hx
      have hltz : (k : Int) < (n : Int) := by omega
      cases hq : p k with
      | true =>
        rw [hq] at hcall
        have HQ : Hid (p k = true) := hq
        have HCl : Hid (Calls Tryz.prog g #[.int .i64 (x), .pointer (some ⟨P, 0, none⟩)] wr fun e w' => e = .returned (.bool true) ∧ Below wr.heap.size wr w') := hcall
        clear hcall hq
        go_wp2_with (go_at_fn g; refine HCl.out.mono ?_; rintro e w' ⟨rfl, hb'⟩; have HB' : Hid (Below w.heap.size w w') := HB.out.trans (hb'.mono HB.out.size); clear hb')
        go_ret
        exact ⟨⟨_, rfl, fun _ => ⟨k, hlt, HQ.out⟩, fun _ => by omega⟩, HB'.out⟩
      | false =>
        rw [hq] at hcall
        have HQ : Hid (p k = false) := hq
        have HCl : Hid (Calls Tryz.prog g #[.int .i64 (x), .pointer (some ⟨P, 0, none⟩)] wr fun e w' => e = .returned (.bool false) ∧ Below wr.heap.size wr w') := hcall
        clear hcall hq
        go_wp2_with (go_at_fn g; refine HCl.out.mono ?_; rintro e w' ⟨rfl, hb'⟩; have HB' : Hid (Below w.heap.size w w') := HB.out.trans (hb'.mono HB.out.size); clear hb')
        go_roundw
        case rel =>
          refine ⟨k + 1, by omega, by go_num, HB'.out, fun j hj => ?_⟩
          by_cases e : j = k
          · rw [e]; exact HQ.out
          · exact A.out j (by omega)
        case measure => simp [intOf]; omega
    · have hltz : ¬ (k : Int) < (n : Int) := by omega
      go_wp2
      go_ret
      refine ⟨⟨_, rfl, fun h => absurd h (by decide), fun ⟨j, hj, hpj⟩ => ?_⟩, HB.out⟩
      rw [A.out j (by omega)] at hpj; cases hpj

set_option maxHeartbeats 2000000 in
theorem any1 (n b off cap P g : Nat) (us : Nat → Int) (p : Nat → Bool) (w : World) (hl : n ≤ 9223372036854775807) (hB : b < w.heap.size) (hc : ∀ k, k < n → w.cell? ⟨b, off + k, none⟩ = some (.int .i64 (us k)))
    (eg : ∀ args w, (callFunc g args).run Tryz.prog w = .ok (.enter g args) w)
    (hp : ∀ W k, Below w.heap.size w W → k < n → Calls Tryz.prog g #[.int .i64 (us k), .pointer (some ⟨P, 0, none⟩)] W fun e w' => e = .returned (.bool (p k)) ∧ Below W.heap.size W w') (R : Bool) (hR : R = true ↔ ∃ k, k < n ∧ p k = true) :
    Calls Tryz.prog 29 #[.slice (some ⟨b, off, none⟩) n cap, .func (.func g) #[] #[.pointer (some ⟨P, 0, none⟩)]] w fun e w' => e = .returned (.bool R) ∧ Below w.heap.size w w' := by
  have c := idx1 n b off cap P g us p w hl hB hc eg hp
  clear hc hp eg hB hl
  go_enter Tryz.func29, Tryz.ntmps29
  go_wp2_with fail
  go_at_call 48
  refine c.mono ?_
  rintro e w' ⟨⟨r, rfl, hr⟩, hb⟩
  have HB : Hid (Below w.heap.size w w') := hb
  have HR : Hid (R = decide (0 ≤ r)) := by
    unfold Hid
    rw [Bool.eq_iff_iff, hR, decide_eq_true_eq, hr]
  clear hb hr hR c
  go_wp2
  go_ret
  exact ⟨back_b HR.out.symm, HB.out⟩
theorem none1 (a : Option Addr) (cap : Nat) (fv : Value) (w : World) :
    Calls Tryz.prog 29 #[.slice a 0 cap, fv] w fun e w' => e = .returned (.bool false) ∧ Below w.heap.size w w' := by
  have c : Calls Tryz.prog 48 #[.slice a 0 cap, fv] w fun e w' => e = .returned (.int .i64 (-1)) ∧ w = w' := by
    go_enter Tryz.func48, Tryz.ntmps48
    go_wp2
    go_loopw [5, 8] (fun _ i wr => i = .int .i64 0 ∧ w = wr) (fun _ _ _ => 0)
    case atStart => exact ⟨rfl, rfl⟩
    case round =>
      obtain ⟨rfl, rfl⟩ := hrel
      go_wp2
      go_ret
      exact ⟨rfl, rfl⟩
  go_enter Tryz.func29, Tryz.ntmps29
  go_wp2_with (go_at_call 48; refine c.mono ?_; rintro e w' ⟨rfl, rfl⟩)
  go_ret
  exact ⟨rfl, Below.refl _ _⟩

set_option maxHeartbeats 2000000 in
theorem idx2 (n b off cap P g : Nat) (us : Nat → Value) (p : Nat → Bool) (w : World) (hl : n ≤ 9223372036854775807) (hB : b < w.heap.size) (hc : ∀ k, k < n → w.cell? ⟨b, off + k, none⟩ = some (us k))
    (eg : ∀ args w, (callFunc g args).run Tryz.prog w = .ok (.enter g args) w)
    (hp : ∀ W k, Below w.heap.size w W → k < n → Calls Tryz.prog g #[us k, .pointer (some ⟨P, 0, none⟩)] W fun e w' => e = .returned (.bool (p k)) ∧ Below W.heap.size W w') :
    Calls Tryz.prog 47 #[.slice (some ⟨b, off, none⟩) n cap, .func (.func g) #[] #[.pointer (some ⟨P, 0, none⟩)]] w fun e w' => (∃ r : Int, e = .returned (.int .i64 r) ∧ (0 ≤ r ↔ ∃ k, k < n ∧ p k = true)) ∧ Below w.heap.size w w' := by
  have HC : Hid (∀ W k, Below w.heap.size w W → k < n → W.cell? ⟨b, off + k, none⟩ = some (us k)) := fun W k hW hk => by rw [hW.cell (show (⟨b, off + k, none⟩ : Addr).block < w.heap.size from hB)]; exact hc k hk
  have HP : Hid (∀ W k, Below w.heap.size w W → k < n → Calls Tryz.prog g #[us k, .pointer (some ⟨P, 0, none⟩)] W fun e w' => e = .returned (.bool (p k)) ∧ Below W.heap.size W w') := hp
  clear hc hp hB
  go_enter Tryz.func47, Tryz.ntmps47
  go_wp2
  go_loopw [5, 8] (fun _ i wr => ∃ k : Nat, k ≤ n ∧ i = .int .i64 k ∧ Below w.heap.size w wr ∧ Hid (∀ j, j < k → p j = false)) (fun _ i _ => n - (intOf i).toNat)
  case atStart => exact ⟨0, Nat.zero_le _, rfl, Below.refl _ _, fun j hj => absurd hj (Nat.not_lt_zero _)⟩
  case round =>
    obtain ⟨k, hk, rfl, hb0, A⟩ := hrel
    have HB : Hid (Below w.heap.size w wr) := hb0
    clear hb0
    by_cases hlt : k < n
    · have hcell := HC.out wr k HB.out hlt
      have hcall := HP.out wr k HB.out hlt
      obtain ⟨x, hx⟩ : ∃ x, x = us k := ⟨_, rfl⟩
      rw [← hx] at hcell hcall
      clear hx
      have hltz : (k : Int) < (n : Int) := by omega
      cases hq : p k with
      | true =>
        rw [hq] at hcall
        have HQ : Hid (p k = true) := hq
        have HCl : Hid (Calls Tryz.prog g #[x, .pointer (some ⟨P, 0, none⟩)] wr fun e w' => e = .returned (.bool true) ∧ Below wr.heap.size wr w') := hcall
        clear hcall hq
        go_wp2_with (go_at_fn g; refine HCl.out.mono ?_; rintro e w' ⟨rfl, hb'⟩; have HB' : Hid (Below w.heap.size w w') := HB.out.trans (hb'.mono HB.out.size); clear hb')
        go_ret
        exact ⟨⟨_, rfl, fun _ => ⟨k, hlt, HQ.out⟩, fun _ => by omega⟩, HB'.out⟩
      | false =>
        rw [hq] at hcall
        have HQ : Hid (p k = false) := hq
        have HCl : Hid (Calls Tryz.prog g #[x, .pointer (some ⟨P, 0, none⟩)] wr fun e w' => e = .returned (.bool false) ∧ Below wr.heap.size wr w') := hcall
        clear hcall hq
        go_wp2_with (go_at_fn g; refine HCl.out.mono ?_; rintro e w' ⟨rfl, hb'⟩; have HB' : Hid (Below w.heap.size w w') := HB.out.trans (hb'.mono HB.out.size); clear hb')
        go_roundw
        case rel =>
          refine ⟨k + 1, by omega, by go_num, HB'.out, fun j hj => ?_⟩
          by_cases e : j = k
          · rw [e]; exact HQ.out
          · exact A.out j (by omega)
        case measure => simp [intOf]; omega
    · have hltz : ¬ (k : Int) < (n : Int) := by omega
      go_wp2
      go_ret
      refine ⟨⟨_, rfl, fun h => absurd h (by decide), fun ⟨j, hj, hpj⟩ => ?_⟩, HB.out⟩
      rw [A.out j (by omega)] at hpj; cases hpj

set_option maxHeartbeats 2000000 in
theorem any2 (n b off cap P g : Nat) (us : Nat → Value) (p : Nat → Bool) (w : World) (hl : n ≤ 9223372036854775807) (hB : b < w.heap.size) (hc : ∀ k, k < n → w.cell? ⟨b, off + k, none⟩ = some (us k))
    (eg : ∀ args w, (callFunc g args).run Tryz.prog w = .ok (.enter g args) w)
    (hp : ∀ W k, Below w.heap.size w W → k < n → Calls Tryz.prog g #[us k, .pointer (some ⟨P, 0, none⟩)] W fun e w' => e = .returned (.bool (p k)) ∧ Below W.heap.size W w') (R : Bool) (hR : R = true ↔ ∃ k, k < n ∧ p k = true) :
    Calls Tryz.prog 27 #[.slice (some ⟨b, off, none⟩) n cap, .func (.func g) #[] #[.pointer (some ⟨P, 0, none⟩)]] w fun e w' => e = .returned (.bool R) ∧ Below w.heap.size w w' := by
  have c := idx2 n b off cap P g us p w hl hB hc eg hp
  clear hc hp eg hB hl
  go_enter Tryz.func27, Tryz.ntmps27
  go_wp2_with fail
  go_at_call 47
  refine c.mono ?_
  rintro e w' ⟨⟨r, rfl, hr⟩, hb⟩
  have HB : Hid (Below w.heap.size w w') := hb
  have HR : Hid (R = decide (0 ≤ r)) := by
    unfold Hid
    rw [Bool.eq_iff_iff, hR, decide_eq_true_eq, hr]
  clear hb hr hR c
  go_wp2
  go_ret
  exact ⟨back_b HR.out.symm, HB.out⟩
theorem none2 (a : Option Addr) (cap : Nat) (fv : Value) (w : World) :
    Calls Tryz.prog 27 #[.slice a 0 cap, fv] w fun e w' => e = .returned (.bool false) ∧ Below w.heap.size w w' := by
  have c : Calls Tryz.prog 47 #[.slice a 0 cap, fv] w fun e w' => e = .returned (.int .i64 (-1)) ∧ w = w' := by
    go_enter Tryz.func47, Tryz.ntmps47
    go_wp2
    go_loopw [5, 8] (fun _ i wr => i = .int .i64 0 ∧ w = wr) (fun _ _ _ => 0)
    case atStart => exact ⟨rfl, rfl⟩
    case round =>
      obtain ⟨rfl, rfl⟩ := hrel
      go_wp2
      go_ret
      exact ⟨rfl, rfl⟩
  go_enter Tryz.func27, Tryz.ntmps27
  go_wp2_with (go_at_call 47; refine c.mono ?_; rintro e w' ⟨rfl, rfl⟩)
  go_ret
  exact ⟨rfl, Below.refl _ _⟩

/-- slices.ContainsFunc of numbers. -/
theorem anyI (t : List Int) (v : Value) (P g : Nat) (p : Int → Bool) (w : World) (hv : Reads w v t) (eg : ∀ args w, (callFunc g args).run Tryz.prog w = .ok (.enter g args) w)
    (hp : ∀ W m, Below w.heap.size w W → m ∈ t → Calls Tryz.prog g #[.int .i64 m, .pointer (some ⟨P, 0, none⟩)] W fun e w' => e = .returned (.bool (p m)) ∧ Below W.heap.size W w') :
    Calls Tryz.prog 29 #[v, .func (.func g) #[] #[.pointer (some ⟨P, 0, none⟩)]] w fun e w' => e = .returned (.bool (t.any p)) ∧ Below w.heap.size w w' := by
  rcases hv with ⟨ao, cap, rfl, rfl⟩ | ⟨b, off, cap, rfl, hB, h0, ⟨hl, _⟩, hc⟩
  · exact none1 ao cap _ w
  · refine any1 t.length b off cap P g (fun k => t.getD k 0) (fun k => p (t.getD k 0)) w hl hB hc eg (fun W k hW hk => hp W _ hW ?_) _ ?_
    · rw [List.getD_eq_getElem?_getD, List.getElem?_eq_getElem hk]; exact List.getElem_mem hk
    · rw [List.any_eq_true]
      constructor
      · rintro ⟨m, hm, hpm⟩
        obtain ⟨k, hk, rfl⟩ := List.getElem_of_mem hm
        exact ⟨k, hk, by rw [List.getD_eq_getElem?_getD, List.getElem?_eq_getElem hk]; exact hpm⟩
      · rintro ⟨k, hk, hpk⟩
        rw [List.getD_eq_getElem?_getD, List.getElem?_eq_getElem hk] at hpk
        exact ⟨t[k], List.getElem_mem hk, hpk⟩
/-- slices.ContainsFunc of rows. -/
theorem anyL (S : Nat → Prop) (L : List (List Int)) (v : Value) (P g : Nat) (p : List Int → Bool) (w : World) (hv : RS2 S w v L) (eg : ∀ args w, (callFunc g args).run Tryz.prog w = .ok (.enter g args) w)
    (hp : ∀ W u t, Below w.heap.size w W → t ∈ L → Reads W u t → Calls Tryz.prog g #[u, .pointer (some ⟨P, 0, none⟩)] W fun e w' => e = .returned (.bool (p t)) ∧ Below W.heap.size W w') :
    Calls Tryz.prog 27 #[v, .func (.func g) #[] #[.pointer (some ⟨P, 0, none⟩)]] w fun e w' => e = .returned (.bool (L.any p)) ∧ Below w.heap.size w w' := by
  rcases hv with ⟨ao, cap, rfl, rfl⟩ | ⟨b, off, cap, rfl, ⟨_, hB⟩, h0, ⟨hl, _⟩, hc⟩
  · exact none2 ao cap _ w
  · have key : ∀ k, k < L.length → ∃ u, w.cell? ⟨b, off + k, none⟩ = some u ∧ Reads w u (L.getD k []) := fun k hk => by
      obtain ⟨u, hu, hr⟩ := hc k _ (List.getElem?_eq_getElem hk)
      exact ⟨u, hu, by rw [List.getD_eq_getElem?_getD, List.getElem?_eq_getElem hk]; exact hr.reads⟩
    refine any2 L.length b off cap P g (fun k => (w.cell? ⟨b, off + k, none⟩).getD (.int .i64 0)) (fun k => p (L.getD k [])) w hl hB (fun k hk => ?_) eg (fun W k hW hk => ?_) _ ?_
    · obtain ⟨u, hu, _⟩ := key k hk
      rw [hu]; rfl
    · obtain ⟨u, hu, hr⟩ := key k hk
      rw [hu]
      refine hp W u _ hW ?_ (hr.below hW)
      rw [List.getD_eq_getElem?_getD, List.getElem?_eq_getElem hk]; exact List.getElem_mem hk
    · rw [List.any_eq_true]
      constructor
      · rintro ⟨m, hm, hpm⟩
        obtain ⟨k, hk, rfl⟩ := List.getElem_of_mem hm
        exact ⟨k, hk, by rw [List.getD_eq_getElem?_getD, List.getElem?_eq_getElem hk]; exact hpm⟩
      · rintro ⟨k, hk, hpk⟩
        rw [List.getD_eq_getElem?_getD, List.getElem?_eq_getElem hk] at hpk
        exact ⟨L[k], List.getElem_mem hk, hpk⟩

set_option maxHeartbeats 2000000 in
theorem hasI (t : List Int) (v : Value) (x : Int) (w : World) (hv : Reads w v t) :
    Calls Tryz.prog 66 #[v, .int .i64 x] w fun e w' => e = .returned (.bool (t.contains x)) ∧ w = w' := by
  have c : Calls Tryz.prog 82 #[v, .int .i64 x] w fun e w' => (∃ r : Int, e = .returned (.int .i64 r) ∧ (0 ≤ r ↔ x ∈ t)) ∧ w = w' := by
    rcases hv with ⟨ao, cap, rfl, rfl⟩ | ⟨b, off, cap, rfl, hB, h0, ⟨hl, _⟩, hc⟩
    · go_enter Tryz.func82, Tryz.ntmps82
      go_wp2
      go_loop [5, 8] (fun _ i => i = .int .i64 0) (fun _ _ => 0)
      case atStart => rfl
      case round =>
        subst hrel
        go_wp2
        go_ret
        first | exact ⟨⟨_, rfl, by decide⟩, rfl⟩ | exact ⟨⟨_, rfl, by simp⟩, rfl⟩
    · have HC : Hid (∀ k, k < t.length → w.cell? ⟨b, off + k, none⟩ = some (.int .i64 (t.getD k 0))) := hc
      clear hc
      obtain ⟨n, hn⟩ : ∃ n, n = t.length := ⟨_, rfl⟩
      rw [← hn] at hl ⊢
      have HN : Hid (n = t.length) := hn
      clear hn h0 hB
      go_enter Tryz.func82, Tryz.ntmps82
      go_wp2
      go_loop [5, 8] (fun _ i => ∃ k : Nat, k ≤ n ∧ i = .int .i64 k ∧ Hid (∀ j, j < k → t.getD j 0 ≠ x)) (fun _ i => n - (intOf i).toNat)
      case atStart => exact ⟨0, Nat.zero_le _, rfl, fun j hj => absurd hj (Nat.not_lt_zero _)⟩
      case round =>
        obtain ⟨k, hk, rfl, A⟩ := hrel
        by_cases hlt : k < n
        · have hkt : k < t.length := by rw [← HN.out]; exact hlt
          have hcell := HC.out k hkt
          obtain ⟨y, hy⟩ : ∃ y, y = t.getD k 0 := ⟨_, rfl⟩
          have HY : Hid (y = t.getD k 0 ∧ y ∈ t) := ⟨hy, by rw [hy, List.getD_eq_getElem?_getD, List.getElem?_eq_getElem hkt]; exact List.getElem_mem hkt⟩
          rw [← hy] at hcell
          clear hy hkt
          have hltz : (k : Int) < (n : Int) := by omega
          by_cases hxy : x = y
          · have hb : (x == y) = true := by simpa using hxy
            have HX : Hid (x ∈ t) := by unfold Hid; rw [hxy]; exact HY.out.2
            clear hxy
            go_wp2
            go_ret
            exact ⟨⟨_, rfl, fun _ => HX.out, fun _ => by omega⟩, rfl⟩
          · have hb : (x == y) = false := by simpa using hxy
            have HX : Hid (t.getD k 0 ≠ x) := fun h => hxy (by rw [HY.out.1, h])
            clear hxy
            go_wp2
            go_round
            case rel =>
              refine ⟨k + 1, by omega, by go_num, fun j hj => ?_⟩
              by_cases e : j = k
              · rw [e]; exact HX.out
              · exact A.out j (by omega)
            case measure => simp [intOf]; omega
        · have hltz : ¬ (k : Int) < (n : Int) := by omega
          go_wp2
          go_ret
          refine ⟨⟨_, rfl, fun h => absurd h (by decide), fun h => ?_⟩, rfl⟩
          obtain ⟨j, hj, rfl⟩ := List.getElem_of_mem h
          exact absurd (by rw [List.getD_eq_getElem?_getD, List.getElem?_eq_getElem hj]; rfl) (A.out j (by have := HN.out; omega))
  clear hv
  go_enter Tryz.func66, Tryz.ntmps66
  go_wp2_with fail
  go_at_call 82
  refine c.mono ?_
  rintro e w' ⟨⟨r, rfl, hr⟩, rfl⟩
  have HR : Hid (t.contains x = decide (0 ≤ r)) := by
    unfold Hid
    rw [Bool.eq_iff_iff, decide_eq_true_eq, hr]; simp
  clear hr c
  go_wp2
  go_ret
  exact ⟨back_b HR.out.symm, rfl⟩
end Go.Proofs.YtenmheenieifpacGreatDoor
