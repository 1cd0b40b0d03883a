/-
  Plain facts on cubes (chapter 5): what is left of the members of two cubes, sorted by atoms and each once, is the two cubes joined. No program is read here.
  Proved: what slices.IndexFunc and slices.ContainsFunc return, of rows of numbers and of rows of rows, at any function that tells of each; and slices.Contains and slices.Equal, of numbers; what was in memory is as it was (contracts that the statements lean on). Written by program.
  Proved: what slices.Equal returns, of any two rows of numbers, and what cubes.with returns: one cube more, unless that has an atom both ways, or was there ahead; what else was in memory is as it was (contracts that the statements lean on).
-/
import Derived.Test.YtjaedfjfcghgcabGreatDoorLibT8
import Derived.Lib.SlicesCompact
import Derived.Lib.Small
import Derived.Test.YtjaedfjfcghgcabGreatDoorLibT13
import Derived.Shelf.Abstract
import Derived.Deep.LoopGhost
import Derived.Test.YtjaedfjfcghgcabGreatDoorLibT9
import Derived.Deep.AppendLies
import Derived.BigQuiet
namespace Go.Proofs.YtjaedfjfcghgcabGreatDoor
open Go.RowKit

theorem mem_compactUpTo (d : Array Int) : ∀ m, ∀ x, x ∈ Lib.compactUpTo d m ↔ ∃ j, j < m ∧ x = d[j]! := by
  intro m
  induction m with
  | zero => intro x; simp [Lib.compactUpTo]
  | succ m ih =>
    intro x
    rw [Lib.compactUpTo_succ, List.mem_append, ih]
    constructor
    · rintro (⟨j, hj, e⟩ | h)
      · exact ⟨j, by omega, e⟩
      · split at h
        · exact ⟨m, by omega, List.mem_singleton.1 h⟩
        · cases h
    · rintro ⟨j, hj, e⟩
      by_cases h : j < m
      · exact Or.inl ⟨j, h, e⟩
      · obtain rfl : j = m := by omega
        by_cases hk : Lib.keeps d j = true
        · right; rw [if_pos hk]; simp [e]
        · left
          have hk' : ¬ (j = 0 ∨ d[j]! ≠ d[j - 1]!) := by
            intro hh; apply hk; unfold Lib.keeps; exact decide_eq_true hh
          refine ⟨j - 1, by omega, ?_⟩
          rw [e]
          by_cases he : d[j]! = d[j - 1]!
          · exact he
          · exact absurd (Or.inr he) hk'
theorem rising_compactUpTo (d : Array Int) (n : Nat) (hs : ∀ i j, i < j → j < n → (d[i]!).natAbs ≤ (d[j]!).natAbs) (hw : ∀ i j, i < n → j < n → (d[i]!).natAbs = (d[j]!).natAbs → d[i]! = d[j]!) :
    ∀ m, m ≤ n → (Lib.compactUpTo d m).Pairwise (fun a b => a.natAbs < b.natAbs) := by
  intro m
  induction m with
  | zero => intro _; simp [Lib.compactUpTo]
  | succ m ih =>
    intro hm
    rw [Lib.compactUpTo_succ, List.pairwise_append]
    refine ⟨ih (by omega), by split <;> simp, ?_⟩
    intro x hx y hy
    split at hy
    · rename_i hk
      rw [List.mem_singleton.1 hy]
      obtain ⟨j, hj, rfl⟩ := (mem_compactUpTo d m x).1 hx
      have hk' : m = 0 ∨ d[m]! ≠ d[m - 1]! := of_decide_eq_true hk
      have h1 : d[m]! ≠ d[m - 1]! := hk'.resolve_left (by omega)
      have h2 := hs (m - 1) m (by omega) (by omega)
      have h3 : (d[j]!).natAbs ≤ (d[m - 1]!).natAbs := by
        by_cases e : j = m - 1
        · rw [e]; exact Nat.le_refl _
        · exact hs j (m - 1) (by omega) (by omega)
      have h4 : (d[m - 1]!).natAbs ≠ (d[m]!).natAbs := fun e => h1 (hw (m - 1) m (by omega) (by omega) e).symm
      omega
    · cases hy
/-- the order of members: by atoms. -/
def farC (m n : Int) : Int := Lib.compareInt m.natAbs n.natAbs
/-- what is left, sorted and each once. -/
theorem joined_is {M : Nat} (hM : M ≤ 6) {c d : List Int} (hc : cubeOk M c) (hd : cubeOk M d) {e : Array Int} (hp : e.toList.Perm (c ++ d)) (hs : ∀ i j, i < j → j < e.size → (e[i]!).natAbs ≤ (e[j]!).natAbs) :
    (∀ m, m ∈ Lib.compact e.toList ↔ m ∈ c ++ d) ∧ (bothWays (c ++ d) = false → Lib.compact e.toList = joinC c d) := by
  have hr : ∀ m ∈ c ++ d, 1 ≤ m.natAbs ∧ m.natAbs ≤ 6 := by
    intro m hm
    rcases List.mem_append.1 hm with h | h
    · have := hc.1 m h; omega
    · have := hd.1 m h; omega
  have h0 : Lib.compact e.toList = Lib.compactUpTo e e.size := by unfold Lib.compact; simp
  have hmem : ∀ m, m ∈ Lib.compact e.toList ↔ m ∈ c ++ d := by
    intro m
    rw [h0, mem_compactUpTo, ← hp.mem_iff, Array.mem_toList_iff]
    constructor
    · rintro ⟨j, hj, rfl⟩
      rw [getElem!_pos e j hj]; exact Array.getElem_mem hj
    · intro h
      obtain ⟨j, hj, rfl⟩ := Array.mem_iff_getElem.1 h
      exact ⟨j, hj, (getElem!_pos e j hj).symm⟩
  refine ⟨hmem, fun hb => ?_⟩
  have hin : ∀ i, i < e.size → e[i]! ∈ c ++ d := fun i hi => by
    rw [← hp.mem_iff, Array.mem_toList_iff, getElem!_pos e i hi]; exact Array.getElem_mem hi
  refine rising_ext ?_ (join_ok hM hc hd hb).2 (fun m => (hmem m).trans (mem_joinC hr hb m).symm)
  rw [h0]
  refine rising_compactUpTo e e.size hs (fun i j hi hj he => ?_) e.size (Nat.le_refl _)
  rw [← Bool.not_eq_true, bothWays_iff] at hb
  rcases Int.natAbs_eq_natAbs_iff.1 he with h | h
  · exact h
  · exact absurd ⟨_, hin j hj, by rw [← h]; exact hin i hi⟩ hb
/-- a cube more, as the program does it: unless an atom is there both ways, or it was there ahead. -/
theorem with_is {L : List (List Int)} {c d r : List Int} (h1 : ∀ m, m ∈ r ↔ m ∈ c ++ d) (h2 : bothWays (c ++ d) = false → r = joinC c d) :
    (if (bothWays r || L.contains r) = true then L else L ++ [r]) = andS c L d := by
  unfold andS
  rw [bothWays_mem h1]
  cases hb : bothWays (c ++ d) with
  | true => simp
  | false =>
    rw [h2 hb]
    unfold putC
    simp
end Go.Proofs.YtjaedfjfcghgcabGreatDoor


namespace Go.Proofs.YtjaedfjfcghgcabGreatDoor
open Go.ChangeShapes Go.WideShapes Go.ChangeAt Go.RowKit
set_option maxRecDepth 100000

set_option maxHeartbeats 2000000 in
theorem idx1 (n b off cap P g : Nat) (us : Nat → Int) (p : Nat → Bool) (w : World) (hl : n ≤ 9223372036854775807) (hB : b < w.heap.size) (hc : ∀ k, k < n → w.cell? ⟨b, off + k, none⟩ = some (.int .i64 (us k)))
    (eg : ∀ args w, (callFunc g args).run Tryz.prog w = .ok (.enter g args) w)
    (hp : ∀ W k, Below w.heap.size w W → k < n → Calls Tryz.prog g #[.int .i64 (us k), .pointer (some ⟨P, 0, none⟩)] W fun e w' => e = .returned (.bool (p k)) ∧ Below W.heap.size W w') :
    Calls Tryz.prog 87 #[.slice (some ⟨b, off, none⟩) n cap, .func (.func g) #[] #[.pointer (some ⟨P, 0, none⟩)]] w fun e w' => (∃ r : Int, e = .returned (.int .i64 r) ∧ (0 ≤ r ↔ ∃ k, k < n ∧ p k = true)) ∧ Below w.heap.size w w' := by
  have HC : Hid (∀ W k, Below w.heap.size w W → k < n → W.cell? ⟨b, off + k, none⟩ = some (.int .i64 (us k))) := fun W k hW hk => by rw [hW.cell (show (⟨b, off + k, none⟩ : Addr).block < w.heap.size from hB)]; exact hc k hk
  have HP : Hid (∀ W k, Below w.heap.size w W → k < n → Calls Tryz.prog g #[.int .i64 (us k), .pointer (some ⟨P, 0, none⟩)] W fun e w' => e = .returned (.bool (p k)) ∧ Below W.heap.size W w') := hp
  clear hc hp hB
  go_enter Tryz.func87, Tryz.ntmps87
  go_wp2
  go_loopw [5, 8] (fun _ i wr => ∃ k : Nat, k ≤ n ∧ i = .int .i64 k ∧ Below w.heap.size w wr ∧ Hid (∀ j, j < k → p j = false)) (fun _ i _ => n - (intOf i).toNat)
  case atStart => exact ⟨0, Nat.zero_le _, rfl, Below.refl _ _, fun j hj => absurd hj (Nat.not_lt_zero _)⟩
  case round =>
    obtain ⟨k, hk, rfl, hb0, A⟩ := hrel
    have HB : Hid (Below w.heap.size w wr) := hb0
    clear hb0
    by_cases hlt : k < n
    · have hcell := HC.out wr k HB.out hlt
      have hcall := HP.out wr k HB.out hlt
      obtain ⟨x, hx⟩ : ∃ x, x = us k := ⟨_, rfl⟩
      rw [← hx] at hcell hcall
      clear hx
      have hltz : (k : Int) < (n : Int) := by omega
      cases hq : p k with
      | true =>
        rw [hq] at hcall
        have HQ : Hid (p k = true) := hq
        have HCl : Hid (Calls Tryz.prog g #[.int .i64 (x), .pointer (some ⟨P, 0, none⟩)] wr fun e w' => e = .returned (.bool true) ∧ Below wr.heap.size wr w') := hcall
        clear hcall hq
        go_wp2_with (go_at_fn g; refine HCl.out.mono ?_; rintro e w' ⟨rfl, hb'⟩; have HB' : Hid (Below w.heap.size w w') := HB.out.trans (hb'.mono HB.out.size); clear hb')
        go_ret
        exact ⟨⟨_, rfl, fun _ => ⟨k, hlt, HQ.out⟩, fun _ => by omega⟩, HB'.out⟩
      | false =>
        rw [hq] at hcall
        have HQ : Hid (p k = false) := hq
        have HCl : Hid (Calls Tryz.prog g #[.int .i64 (x), .pointer (some ⟨P, 0, none⟩)] wr fun e w' => e = .returned (.bool false) ∧ Below wr.heap.size wr w') := hcall
        clear hcall hq
        go_wp2_with (go_at_fn g; refine HCl.out.mono ?_; rintro e w' ⟨rfl, hb'⟩; have HB' : Hid (Below w.heap.size w w') := HB.out.trans (hb'.mono HB.out.size); clear hb')
        go_roundw
        case rel =>
          refine ⟨k + 1, by omega, by go_num, HB'.out, fun j hj => ?_⟩
          by_cases e : j = k
          · rw [e]; exact HQ.out
          · exact A.out j (by omega)
        case measure => simp [intOf]; omega
    · have hltz : ¬ (k : Int) < (n : Int) := by omega
      go_wp2
      go_ret
      refine ⟨⟨_, rfl, fun h => absurd h (by decide), fun ⟨j, hj, hpj⟩ => ?_⟩, HB.out⟩
      rw [A.out j (by omega)] at hpj; cases hpj

set_option maxHeartbeats 2000000 in
theorem any1 (n b off cap P g : Nat) (us : Nat → Int) (p : Nat → Bool) (w : World) (hl : n ≤ 9223372036854775807) (hB : b < w.heap.size) (hc : ∀ k, k < n → w.cell? ⟨b, off + k, none⟩ = some (.int .i64 (us k)))
    (eg : ∀ args w, (callFunc g args).run Tryz.prog w = .ok (.enter g args) w)
    (hp : ∀ W k, Below w.heap.size w W → k < n → Calls Tryz.prog g #[.int .i64 (us k), .pointer (some ⟨P, 0, none⟩)] W fun e w' => e = .returned (.bool (p k)) ∧ Below W.heap.size W w') (R : Bool) (hR : R = true ↔ ∃ k, k < n ∧ p k = true) :
    Calls Tryz.prog 45 #[.slice (some ⟨b, off, none⟩) n cap, .func (.func g) #[] #[.pointer (some ⟨P, 0, none⟩)]] w fun e w' => e = .returned (.bool R) ∧ Below w.heap.size w w' := by
  have c := idx1 n b off cap P g us p w hl hB hc eg hp
  clear hc hp eg hB hl
  go_enter Tryz.func45, Tryz.ntmps45
  go_wp2_with fail
  go_at_call 87
  refine c.mono ?_
  rintro e w' ⟨⟨r, rfl, hr⟩, hb⟩
  have HB : Hid (Below w.heap.size w w') := hb
  have HR : Hid (R = decide (0 ≤ r)) := by
    unfold Hid
    rw [Bool.eq_iff_iff, hR, decide_eq_true_eq, hr]
  clear hb hr hR c
  go_wp2
  go_ret
  exact ⟨back_b HR.out.symm, HB.out⟩
theorem none1 (a : Option Addr) (cap : Nat) (fv : Value) (w : World) :
    Calls Tryz.prog 45 #[.slice a 0 cap, fv] w fun e w' => e = .returned (.bool false) ∧ Below w.heap.size w w' := by
  have c : Calls Tryz.prog 87 #[.slice a 0 cap, fv] w fun e w' => e = .returned (.int .i64 (-1)) ∧ w = w' := by
    go_enter Tryz.func87, Tryz.ntmps87
    go_wp2
    go_loopw [5, 8] (fun _ i wr => i = .int .i64 0 ∧ w = wr) (fun _ _ _ => 0)
    case atStart => exact ⟨rfl, rfl⟩
    case round =>
      obtain ⟨rfl, rfl⟩ := hrel
      go_wp2
      go_ret
      exact ⟨rfl, rfl⟩
  go_enter Tryz.func45, Tryz.ntmps45
  go_wp2_with (go_at_call 87; refine c.mono ?_; rintro e w' ⟨rfl, rfl⟩)
  go_ret
  exact ⟨rfl, Below.refl _ _⟩

set_option maxHeartbeats 2000000 in
theorem idx2 (n b off cap P g : Nat) (us : Nat → Value) (p : Nat → Bool) (w : World) (hl : n ≤ 9223372036854775807) (hB : b < w.heap.size) (hc : ∀ k, k < n → w.cell? ⟨b, off + k, none⟩ = some (us k))
    (eg : ∀ args w, (callFunc g args).run Tryz.prog w = .ok (.enter g args) w)
    (hp : ∀ W k, Below w.heap.size w W → k < n → Calls Tryz.prog g #[us k, .pointer (some ⟨P, 0, none⟩)] W fun e w' => e = .returned (.bool (p k)) ∧ Below W.heap.size W w') :
    Calls Tryz.prog 161 #[.slice (some ⟨b, off, none⟩) n cap, .func (.func g) #[] #[.pointer (some ⟨P, 0, none⟩)]] w fun e w' => (∃ r : Int, e = .returned (.int .i64 r) ∧ (0 ≤ r ↔ ∃ k, k < n ∧ p k = true)) ∧ Below w.heap.size w w' := by
  have HC : Hid (∀ W k, Below w.heap.size w W → k < n → W.cell? ⟨b, off + k, none⟩ = some (us k)) := fun W k hW hk => by rw [hW.cell (show (⟨b, off + k, none⟩ : Addr).block < w.heap.size from hB)]; exact hc k hk
  have HP : Hid (∀ W k, Below w.heap.size w W → k < n → Calls Tryz.prog g #[us k, .pointer (some ⟨P, 0, none⟩)] W fun e w' => e = .returned (.bool (p k)) ∧ Below W.heap.size W w') := hp
  clear hc hp hB
  go_enter Tryz.func161, Tryz.ntmps161
  go_wp2
  go_loopw [5, 8] (fun _ i wr => ∃ k : Nat, k ≤ n ∧ i = .int .i64 k ∧ Below w.heap.size w wr ∧ Hid (∀ j, j < k → p j = false)) (fun _ i _ => n - (intOf i).toNat)
  case atStart => exact ⟨0, Nat.zero_le _, rfl, Below.refl _ _, fun j hj => absurd hj (Nat.not_lt_zero _)⟩
  case round =>
    obtain ⟨k, hk, rfl, hb0, A⟩ := hrel
    have HB : Hid (Below w.heap.size w wr) := hb0
    clear hb0
    by_cases hlt : k < n
    · have hcell := HC.out wr k HB.out hlt
      have hcall := HP.out wr k HB.out hlt
      obtain ⟨x, hx⟩ : ∃ x, x = us k := ⟨_, rfl⟩
      rw [← hx] at hcell hcall
      clear hx
      have hltz : (k : Int) < (n : Int) := by omega
      cases hq : p k with
      | true =>
        rw [hq] at hcall
        have HQ : Hid (p k = true) := hq
        have HCl : Hid (Calls Tryz.prog g #[x, .pointer (some ⟨P, 0, none⟩)] wr fun e w' => e = .returned (.bool true) ∧ Below wr.heap.size wr w') := hcall
        clear hcall hq
        go_wp2_with (go_at_fn g; refine HCl.out.mono ?_; rintro e w' ⟨rfl, hb'⟩; have HB' : Hid (Below w.heap.size w w') := HB.out.trans (hb'.mono HB.out.size); clear hb')
        go_ret
        exact ⟨⟨_, rfl, fun _ => ⟨k, hlt, HQ.out⟩, fun _ => by omega⟩, HB'.out⟩
      | false =>
        rw [hq] at hcall
        have HQ : Hid (p k = false) := hq
        have HCl : Hid (Calls Tryz.prog g #[x, .pointer (some ⟨P, 0, none⟩)] wr fun e w' => e = .returned (.bool false) ∧ Below wr.heap.size wr w') := hcall
        clear hcall hq
        go_wp2_with (go_at_fn g; refine HCl.out.mono ?_; rintro e w' ⟨rfl, hb'⟩; have HB' : Hid (Below w.heap.size w w') := HB.out.trans (hb'.mono HB.out.size); clear hb')
        go_roundw
        case rel =>
          refine ⟨k + 1, by omega, by go_num, HB'.out, fun j hj => ?_⟩
          by_cases e : j = k
          · rw [e]; exact HQ.out
          · exact A.out j (by omega)
        case measure => simp [intOf]; omega
    · have hltz : ¬ (k : Int) < (n : Int) := by omega
      go_wp2
      go_ret
      refine ⟨⟨_, rfl, fun h => absurd h (by decide), fun ⟨j, hj, hpj⟩ => ?_⟩, HB.out⟩
      rw [A.out j (by omega)] at hpj; cases hpj

set_option maxHeartbeats 2000000 in
theorem any2 (n b off cap P g : Nat) (us : Nat → Value) (p : Nat → Bool) (w : World) (hl : n ≤ 9223372036854775807) (hB : b < w.heap.size) (hc : ∀ k, k < n → w.cell? ⟨b, off + k, none⟩ = some (us k))
    (eg : ∀ args w, (callFunc g args).run Tryz.prog w = .ok (.enter g args) w)
    (hp : ∀ W k, Below w.heap.size w W → k < n → Calls Tryz.prog g #[us k, .pointer (some ⟨P, 0, none⟩)] W fun e w' => e = .returned (.bool (p k)) ∧ Below W.heap.size W w') (R : Bool) (hR : R = true ↔ ∃ k, k < n ∧ p k = true) :
    Calls Tryz.prog 137 #[.slice (some ⟨b, off, none⟩) n cap, .func (.func g) #[] #[.pointer (some ⟨P, 0, none⟩)]] w fun e w' => e = .returned (.bool R) ∧ Below w.heap.size w w' := by
  have c := idx2 n b off cap P g us p w hl hB hc eg hp
  clear hc hp eg hB hl
  go_enter Tryz.func137, Tryz.ntmps137
  go_wp2_with fail
  go_at_call 161
  refine c.mono ?_
  rintro e w' ⟨⟨r, rfl, hr⟩, hb⟩
  have HB : Hid (Below w.heap.size w w') := hb
  have HR : Hid (R = decide (0 ≤ r)) := by
    unfold Hid
    rw [Bool.eq_iff_iff, hR, decide_eq_true_eq, hr]
  clear hb hr hR c
  go_wp2
  go_ret
  exact ⟨back_b HR.out.symm, HB.out⟩
theorem none2 (a : Option Addr) (cap : Nat) (fv : Value) (w : World) :
    Calls Tryz.prog 137 #[.slice a 0 cap, fv] w fun e w' => e = .returned (.bool false) ∧ Below w.heap.size w w' := by
  have c : Calls Tryz.prog 161 #[.slice a 0 cap, fv] w fun e w' => e = .returned (.int .i64 (-1)) ∧ w = w' := by
    go_enter Tryz.func161, Tryz.ntmps161
    go_wp2
    go_loopw [5, 8] (fun _ i wr => i = .int .i64 0 ∧ w = wr) (fun _ _ _ => 0)
    case atStart => exact ⟨rfl, rfl⟩
    case round =>
      obtain ⟨rfl, rfl⟩ := hrel
      go_wp2
      go_ret
      exact ⟨rfl, rfl⟩
  go_enter Tryz.func137, Tryz.ntmps137
  go_wp2_with (go_at_call 161; refine c.mono ?_; rintro e w' ⟨rfl, rfl⟩)
  go_ret
  exact ⟨rfl, Below.refl _ _⟩

/-- slices.ContainsFunc of numbers. -/
theorem anyI (t : List Int) (v : Value) (P g : Nat) (p : Int → Bool) (w : World) (hv : Reads w v t) (eg : ∀ args w, (callFunc g args).run Tryz.prog w = .ok (.enter g args) w)
    (hp : ∀ W m, Below w.heap.size w W → m ∈ t → Calls Tryz.prog g #[.int .i64 m, .pointer (some ⟨P, 0, none⟩)] W fun e w' => e = .returned (.bool (p m)) ∧ Below W.heap.size W w') :
    Calls Tryz.prog 45 #[v, .func (.func g) #[] #[.pointer (some ⟨P, 0, none⟩)]] w fun e w' => e = .returned (.bool (t.any p)) ∧ Below w.heap.size w w' := by
  rcases hv with ⟨ao, cap, rfl, rfl⟩ | ⟨b, off, cap, rfl, hB, h0, ⟨hl, _⟩, hc⟩
  · exact none1 ao cap _ w
  · refine any1 t.length b off cap P g (fun k => t.getD k 0) (fun k => p (t.getD k 0)) w hl hB hc eg (fun W k hW hk => hp W _ hW ?_) _ ?_
    · rw [List.getD_eq_getElem?_getD, List.getElem?_eq_getElem hk]; exact List.getElem_mem hk
    · rw [List.any_eq_true]
      constructor
      · rintro ⟨m, hm, hpm⟩
        obtain ⟨k, hk, rfl⟩ := List.getElem_of_mem hm
        exact ⟨k, hk, by rw [List.getD_eq_getElem?_getD, List.getElem?_eq_getElem hk]; exact hpm⟩
      · rintro ⟨k, hk, hpk⟩
        rw [List.getD_eq_getElem?_getD, List.getElem?_eq_getElem hk] at hpk
        exact ⟨t[k], List.getElem_mem hk, hpk⟩
/-- slices.ContainsFunc of rows. -/
theorem anyL (S : Nat → Prop) (L : List (List Int)) (v : Value) (P g : Nat) (p : List Int → Bool) (w : World) (hv : RS2 S w v L) (eg : ∀ args w, (callFunc g args).run Tryz.prog w = .ok (.enter g args) w)
    (hp : ∀ W u t, Below w.heap.size w W → t ∈ L → Reads W u t → Calls Tryz.prog g #[u, .pointer (some ⟨P, 0, none⟩)] W fun e w' => e = .returned (.bool (p t)) ∧ Below W.heap.size W w') :
    Calls Tryz.prog 137 #[v, .func (.func g) #[] #[.pointer (some ⟨P, 0, none⟩)]] w fun e w' => e = .returned (.bool (L.any p)) ∧ Below w.heap.size w w' := by
  rcases hv with ⟨ao, cap, rfl, rfl⟩ | ⟨b, off, cap, rfl, ⟨_, hB⟩, h0, ⟨hl, _⟩, hc⟩
  · exact none2 ao cap _ w
  · have key : ∀ k, k < L.length → ∃ u, w.cell? ⟨b, off + k, none⟩ = some u ∧ Reads w u (L.getD k []) := fun k hk => by
      obtain ⟨u, hu, hr⟩ := hc k _ (List.getElem?_eq_getElem hk)
      exact ⟨u, hu, by rw [List.getD_eq_getElem?_getD, List.getElem?_eq_getElem hk]; exact hr.reads⟩
    refine any2 L.length b off cap P g (fun k => (w.cell? ⟨b, off + k, none⟩).getD (.int .i64 0)) (fun k => p (L.getD k [])) w hl hB (fun k hk => ?_) eg (fun W k hW hk => ?_) _ ?_
    · obtain ⟨u, hu, _⟩ := key k hk
      rw [hu]; rfl
    · obtain ⟨u, hu, hr⟩ := key k hk
      rw [hu]
      refine hp W u _ hW ?_ (hr.below hW)
      rw [List.getD_eq_getElem?_getD, List.getElem?_eq_getElem hk]; exact List.getElem_mem hk
    · rw [List.any_eq_true]
      constructor
      · rintro ⟨m, hm, hpm⟩
        obtain ⟨k, hk, rfl⟩ := List.getElem_of_mem hm
        exact ⟨k, hk, by rw [List.getD_eq_getElem?_getD, List.getElem?_eq_getElem hk]; exact hpm⟩
      · rintro ⟨k, hk, hpk⟩
        rw [List.getD_eq_getElem?_getD, List.getElem?_eq_getElem hk] at hpk
        exact ⟨L[k], List.getElem_mem hk, hpk⟩

set_option maxHeartbeats 2000000 in
theorem hasI (t : List Int) (v : Value) (x : Int) (w : World) (hv : Reads w v t) :
    Calls Tryz.prog 134 #[v, .int .i64 x] w fun e w' => e = .returned (.bool (t.contains x)) ∧ w = w' := by
  have c : Calls Tryz.prog 160 #[v, .int .i64 x] w fun e w' => (∃ r : Int, e = .returned (.int .i64 r) ∧ (0 ≤ r ↔ x ∈ t)) ∧ w = w' := by
    rcases hv with ⟨ao, cap, rfl, rfl⟩ | ⟨b, off, cap, rfl, hB, h0, ⟨hl, _⟩, hc⟩
    · go_enter Tryz.func160, Tryz.ntmps160
      go_wp2
      go_loop [5, 8] (fun _ i => i = .int .i64 0) (fun _ _ => 0)
      case atStart => rfl
      case round =>
        subst hrel
        go_wp2
        go_ret
        first | exact ⟨⟨_, rfl, by decide⟩, rfl⟩ | exact ⟨⟨_, rfl, by simp⟩, rfl⟩
    · have HC : Hid (∀ k, k < t.length → w.cell? ⟨b, off + k, none⟩ = some (.int .i64 (t.getD k 0))) := hc
      clear hc
      obtain ⟨n, hn⟩ : ∃ n, n = t.length := ⟨_, rfl⟩
      rw [← hn] at hl ⊢
      have HN : Hid (n = t.length) := hn
      clear hn h0 hB
      go_enter Tryz.func160, Tryz.ntmps160
      go_wp2
      go_loop [5, 8] (fun _ i => ∃ k : Nat, k ≤ n ∧ i = .int .i64 k ∧ Hid (∀ j, j < k → t.getD j 0 ≠ x)) (fun _ i => n - (intOf i).toNat)
      case atStart => exact ⟨0, Nat.zero_le _, rfl, fun j hj => absurd hj (Nat.not_lt_zero _)⟩
      case round =>
        obtain ⟨k, hk, rfl, A⟩ := hrel
        by_cases hlt : k < n
        · have hkt : k < t.length := by rw [← HN.out]; exact hlt
          have hcell := HC.out k hkt
          obtain ⟨y, hy⟩ : ∃ y, y = t.getD k 0 := ⟨_, rfl⟩
          have HY : Hid (y = t.getD k 0 ∧ y ∈ t) := ⟨hy, by rw [hy, List.getD_eq_getElem?_getD, List.getElem?_eq_getElem hkt]; exact List.getElem_mem hkt⟩
          rw [← hy] at hcell
          clear hy hkt
          have hltz : (k : Int) < (n : Int) := by omega
          by_cases hxy : x = y
          · have hb : (x == y) = true := by simpa using hxy
            have HX : Hid (x ∈ t) := by unfold Hid; rw [hxy]; exact HY.out.2
            clear hxy
            go_wp2
            go_ret
            exact ⟨⟨_, rfl, fun _ => HX.out, fun _ => by omega⟩, rfl⟩
          · have hb : (x == y) = false := by simpa using hxy
            have HX : Hid (t.getD k 0 ≠ x) := fun h => hxy (by rw [HY.out.1, h])
            clear hxy
            go_wp2
            go_round
            case rel =>
              refine ⟨k + 1, by omega, by go_num, fun j hj => ?_⟩
              by_cases e : j = k
              · rw [e]; exact HX.out
              · exact A.out j (by omega)
            case measure => simp [intOf]; omega
        · have hltz : ¬ (k : Int) < (n : Int) := by omega
          go_wp2
          go_ret
          refine ⟨⟨_, rfl, fun h => absurd h (by decide), fun h => ?_⟩, rfl⟩
          obtain ⟨j, hj, rfl⟩ := List.getElem_of_mem h
          exact absurd (by rw [List.getD_eq_getElem?_getD, List.getElem?_eq_getElem hj]; rfl) (A.out j (by have := HN.out; omega))
  clear hv
  go_enter Tryz.func134, Tryz.ntmps134
  go_wp2_with fail
  go_at_call 160
  refine c.mono ?_
  rintro e w' ⟨⟨r, rfl, hr⟩, rfl⟩
  have HR : Hid (t.contains x = decide (0 ≤ r)) := by
    unfold Hid
    rw [Bool.eq_iff_iff, decide_eq_true_eq, hr]; simp
  clear hr c
  go_wp2
  go_ret
  exact ⟨back_b HR.out.symm, rfl⟩
end Go.Proofs.YtjaedfjfcghgcabGreatDoor


namespace Go.Proofs.YtjaedfjfcghgcabGreatDoor
open Go.ChangeShapes Go.WideShapes Go.ChangeAt Go.RowKit
set_option maxRecDepth 100000

theorem infoS : (Tryz.prog.info? 23).map (fun i => (i.zero, i.size, i.bytes)) = some (some (.slice none 0 0), 1, 24) := by kernel_rfl
theorem getD_eq_of_len {s t : List Int} (hl : s.length = t.length) (h : ∀ j, j < s.length → s.getD j 0 = t.getD j 0) : s = t := by
  apply List.ext_getElem hl
  intro i h1 h2
  have := h i h1
  simpa [List.getD_eq_getElem?_getD, List.getElem?_eq_getElem h1, List.getElem?_eq_getElem h2] using this

set_option maxHeartbeats 2000000 in
theorem eqI (s t : List Int) (v v' : Value) (w : World) (h : Reads w v s) (h' : Reads w v' t) :
    Calls Tryz.prog 136 #[v, v'] w fun e w' => e = .returned (.bool (s == t)) ∧ Below w.heap.size w w' := by
  obtain ⟨ao, acap, rfl, hm⟩ : ∃ ao cap, v = .slice ao s.length cap ∧ s.length ≤ 9223372036854775807 := (h.rs (S := fun _ => True) (fun _ _ => trivial)).slice
  obtain ⟨bo, bcap, rfl, hn⟩ : ∃ ao cap, v' = .slice ao t.length cap ∧ t.length ≤ 9223372036854775807 := (h'.rs (S := fun _ => True) (fun _ _ => trivial)).slice
  by_cases hl : s.length = t.length
  · rcases h with ⟨_, _, hv, rfl⟩ | ⟨b, off, cap, hv, hB, h0, _, hc⟩
    · obtain rfl : t = [] := List.eq_nil_of_length_eq_zero (by simpa using hl.symm)
      go_enter Tryz.func136, Tryz.ntmps136
      go_wp2
      refine wp_loop_rounds 1 ?_
      rw [rounds_succ]
      go_wp2
      go_ret
      exact ⟨rfl, Below.refl _ _⟩
    · rcases h' with ⟨_, _, _, rfl⟩ | ⟨b', off', cap', hv', hB', _, _, hc'⟩
      · simp at hl; rw [hl] at h0; simp at h0
      · obtain rfl : ao = some ⟨b, off, none⟩ := by cases hv; rfl
        obtain rfl : bo = some ⟨b', off', none⟩ := by cases hv'; rfl
        clear hv hv'
        have HC : Hid (∀ k, k < s.length → w.cell? ⟨b, off + k, none⟩ = some (.int .i64 (s.getD k 0))) := hc
        have HC' : Hid (∀ k, k < t.length → w.cell? ⟨b', off' + k, none⟩ = some (.int .i64 (t.getD k 0))) := hc'
        have HB : Hid (b < w.heap.size ∧ b' < w.heap.size) := ⟨hB, hB'⟩
        have HL : Hid (s.length = t.length) := hl
        clear hc hc' hB hB'
        obtain ⟨n, hn'⟩ : ∃ n, n = s.length := ⟨_, rfl⟩
        rw [← hl]
        rw [← hn'] at hm h0 ⊢
        have HN : Hid (n = s.length) := hn'
        clear hn' hn hl
        obtain ⟨R, hR⟩ : ∃ R, R = (s == t) := ⟨_, rfl⟩
        rw [← hR]
        have HR : Hid (R = (s == t)) := hR
        clear hR
        go_enter Tryz.func136, Tryz.ntmps136
        go_wp2
        go_loopw [5, 13] (fun _ i wr => ∃ k : Nat, k ≤ n ∧ i = .int .i64 k ∧ Below w.heap.size w wr ∧ Hid (∀ j, j < k → s.getD j 0 = t.getD j 0)) (fun _ i _ => n - (intOf i).toNat)
        case atStart => exact ⟨0, Nat.zero_le _, rfl, Below.refl _ _, fun j hj => absurd hj (Nat.not_lt_zero _)⟩
        case round =>
          obtain ⟨k, hk, rfl, hbel, A⟩ := hrel
          by_cases hlt : k < n
          · obtain ⟨x, hx⟩ : ∃ x, x = s.getD k 0 := ⟨_, rfl⟩
            obtain ⟨y, hy⟩ : ∃ y, y = t.getD k 0 := ⟨_, rfl⟩
            have hks : k < s.length := by rw [← HN.out]; exact hlt
            have hkt : k < t.length := by rw [← HL.out]; exact hks
            have c0 : wr.cell? ⟨b, off + k, none⟩ = some (.int .i64 x) := by rw [hx, hbel.cell HB.out.1]; exact HC.out k hks
            have c1 : wr.cell? ⟨b', off' + k, none⟩ = some (.int .i64 y) := by rw [hy, hbel.cell HB.out.2]; exact HC'.out k hkt
            have HW : Hid (Below w.heap.size w wr) := hbel
            have HXY : Hid (x = s.getD k 0 ∧ y = t.getD k 0) := ⟨hx, hy⟩
            have hlt' : (k : Int) < (n : Int) := by omega
            clear hx hy hks hkt hbel
            by_cases hxy : x = y
            · have HE : Hid (s.getD k 0 = t.getD k 0) := by unfold Hid; rw [← HXY.out.1, ← HXY.out.2, hxy]
              have hb : (x != y) = false := by simp [hxy]
              clear hxy
              go_wp2_with fail
              go_quiet (fail)
              go_wp2
              go_roundw
              case rel =>
                refine ⟨k + 1, by omega, by go_num, HW.out.trans ((below_drewNs _ _).mono HW.out.size), fun j hj => ?_⟩
                by_cases e : j = k
                · rw [e]; exact HE.out
                · exact A.out j (by omega)
              case measure => simp [intOf]; omega
            · have HE : Hid (R = false) := by
                unfold Hid
                rw [HR.out]
                have : s ≠ t := fun e => hxy (by rw [HXY.out.1, HXY.out.2, e])
                simpa using this
              have hb : (x != y) = true := by simpa using hxy
              clear hxy
              go_wp2_with fail
              go_quiet (fail)
              go_wp2
              go_ret
              exact ⟨back_b HE.out.symm, HW.out.trans ((below_drewNs _ _).mono HW.out.size)⟩
          · obtain rfl : k = n := by omega
            have HW : Hid (Below w.heap.size w wr) := hbel
            have HE : Hid (R = true) := by
              unfold Hid
              rw [HR.out]
              have : s = t := getD_eq_of_len HL.out (fun j hj => A.out j (by rw [HN.out]; exact hj))
              simp [this]
            clear hbel
            go_wp2
            go_ret
            exact ⟨back_b HE.out.symm, HW.out⟩
  · have hne : ((s.length : Int) != (t.length : Int)) = true := by simp; omega
    have HE : Hid ((s == t) = false) := by
      unfold Hid
      have : s ≠ t := fun e => hl (by rw [e])
      simpa using this
    obtain ⟨R, hR⟩ : ∃ R, R = (s == t) := ⟨_, rfl⟩
    rw [← hR]
    rw [← hR] at HE
    clear hR hl
    go_enter Tryz.func136, Tryz.ntmps136
    go_wp2
    go_ret
    exact ⟨back_b HE.out.symm, Below.refl _ _⟩
/-- the cube has this member, turned round. -/
theorem turns_any (c : List Int) (u : Value) (P : Nat) (m : Int) (w : World) (hm : m.natAbs ≤ 6) (hP : w.cell? ⟨P, 0, none⟩ = some u) (hu : Reads w u c) :
    Calls Tryz.prog 133 #[.int .i64 m, .pointer (some ⟨P, 0, none⟩)] w fun e w' => e = .returned (.bool (c.contains (-m))) ∧ Below w.heap.size w w' := by
  have h := hasI c u (-m) w hu
  obtain ⟨R, hR⟩ : ∃ R, R = c.contains (-m) := ⟨_, rfl⟩
  rw [← hR] at h ⊢
  obtain ⟨ao, cap, rfl, _⟩ := (hu.rs (S := fun _ => True) (fun _ _ => trivial)).slice
  clear hR hu
  have h1 : -9223372036854775808 ≤ -m := by omega
  have h2 : -m ≤ 9223372036854775807 := by omega
  have H : Hid (Calls Tryz.prog 134 #[.slice ao c.length cap, .int .i64 (-m)] w fun e w' => e = .returned (.bool R) ∧ w = w') := h
  clear h hm
  go_enter Tryz.func133, Tryz.ntmps133
  go_wp2_with (go_at_call 134; refine H.out.mono ?_; rintro e w' ⟨rfl, rfl⟩)
  go_ret
  exact ⟨rfl, Below.refl _ _⟩
/-- it is the same as another one. -/
theorem sameC_any (t c : List Int) (v u : Value) (P : Nat) (w : World) (hP : w.cell? ⟨P, 0, none⟩ = some u) (hv : Reads w v t) (hu : Reads w u c) :
    Calls Tryz.prog 135 #[v, .pointer (some ⟨P, 0, none⟩)] w fun e w' => e = .returned (.bool (t == c)) ∧ Below w.heap.size w w' := by
  have H : Hid (Calls Tryz.prog 136 #[v, u] w fun e w' => e = .returned (.bool (t == c)) ∧ Below w.heap.size w w') := eqI t c v u w hv hu
  obtain ⟨R, hR⟩ : ∃ R, R = (t == c) := ⟨_, rfl⟩
  rw [← hR] at H ⊢
  obtain ⟨ao, cap, rfl, _⟩ := (hu.rs (S := fun _ => True) (fun _ _ => trivial)).slice
  obtain ⟨bo, bcap, rfl, _⟩ := (hv.rs (S := fun _ => True) (fun _ _ => trivial)).slice
  clear hR hu hv
  go_enter Tryz.func135, Tryz.ntmps135
  go_wp2_with (go_at_call 136; refine H.out.mono ?_; rintro e w' ⟨rfl, hb⟩)
  go_ret
  exact ⟨rfl, hb⟩
end Go.Proofs.YtjaedfjfcghgcabGreatDoor

