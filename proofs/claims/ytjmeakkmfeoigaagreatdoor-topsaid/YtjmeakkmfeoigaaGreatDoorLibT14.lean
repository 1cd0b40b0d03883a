/-
  Facts and contracts that the statement leans on.
-/
import Derived.Test.YtjmeakkmfeoigaaGreatDoorLibT13
import Derived.Shelf.Abstract
import Derived.Deep.LoopGhost
import Derived.Test.YtjmeakkmfeoigaaGreatDoorLibT7
import Derived.Deep.AppendLies
import Derived.BigQuiet
import Derived.Lib.AppendZerosOnto
import Derived.Lib.AppendIntMem
import Derived.Test.YtjmeakkmfeoigaaGreatDoorShelf2
namespace Go.Proofs.YtjmeakkmfeoigaaGreatDoor
open Go.ChangeShapes Go.WideShapes Go.ChangeAt Go.RowKit
set_option maxRecDepth 100000
set_option maxHeartbeats 2000000 in
theorem idx1 (n b off cap P g : Nat) (us : Nat → Int) (p : Nat → Bool) (w : World) (hl : n ≤ 9223372036854775807) (hB : b < w.heap.size) (hc : ∀ k, k < n → w.cell? ⟨b, off + k, none⟩ = some (.int .i64 (us k)))
    (eg : ∀ args w, (callFunc g args).run Tryz.prog w = .ok (.enter g args) w)
    (hp : ∀ W k, Below w.heap.size w W → k < n → Calls Tryz.prog g #[.int .i64 (us k), .pointer (some ⟨P, 0, none⟩)] W (Bk W (.bool (p k)))) :
    Calls Tryz.prog 70 #[.slice (some ⟨b, off, none⟩) n cap, .func (.func g) #[] #[.pointer (some ⟨P, 0, none⟩)]] w fun e w' => (∃ r : Int, e = .returned (.int .i64 r) ∧ (0 ≤ r ↔ ∃ k, k < n ∧ p k = true)) ∧ Below w.heap.size w w' := by
 have HC : Hid (∀ W k, Below w.heap.size w W → k < n → W.cell? ⟨b, off + k, none⟩ = some (.int .i64 (us k))) := fun W k hW hk => by rw [hW.cell (show (⟨b, off + k, none⟩ : Addr).block < w.heap.size from hB)]; exact hc k hk
 have HP := hide hp
 clear hc hp hB
 go_enter Tryz.func70, Tryz.ntmps70
 go_wp2
 go_loopw [5, 8] (fun _ i wr => ∃ k : Nat, k ≤ n ∧ i = .int .i64 k ∧ Below w.heap.size w wr ∧ Hid (∀ j, j < k → p j = false)) (fun _ i _ => n - (intOf i).toNat)
 case atStart => exact ⟨0, Nat.zero_le _, rfl, Below.refl _ _, fun j hj => absurd hj (Nat.not_lt_zero _)⟩
 case round =>
  obtain ⟨k, hk, rfl, hb0, A⟩ := hrel
  have HB := hide hb0
  clear hb0
  by_cases hlt : k < n
  ·have hcell := HC.out wr k HB.out hlt
   have hcall := HP.out wr k HB.out hlt
   obtain ⟨x, hx⟩ := nm (us k)
   rw [← hx] at hcell hcall
   clear hx
   have hltz : (k : Int) < (n : Int) := by omega
   cases hq : p k with
   | true =>
    rw [hq] at hcall
    have HQ := hide hq
    have HCl := hide hcall
    clear hcall hq
    go_wp2_with (go_at_fn g; refine HCl.out.mono ?_; rintro e w' ⟨rfl, hb'⟩; have HB' : Hid (Below w.heap.size w w') := HB.out.trans (hb'.mono HB.out.size); clear hb')
    go_ret
    exact ⟨⟨_, rfl, fun _ => ⟨k, hlt, HQ.out⟩, fun _ => by omega⟩, HB'.out⟩
   | false =>
    rw [hq] at hcall
    have HQ := hide hq
    have HCl := hide hcall
    clear hcall hq
    go_wp2_with (go_at_fn g; refine HCl.out.mono ?_; rintro e w' ⟨rfl, hb'⟩; have HB' : Hid (Below w.heap.size w w') := HB.out.trans (hb'.mono HB.out.size); clear hb')
    go_roundw
    case rel =>
     refine ⟨k + 1, by omega, by go_num, HB'.out, fun j hj => ?_⟩
     by_cases e : j = k
     ·rw [e]; exact HQ.out
     ·exact A.out j (by omega)
    case measure => simp [intOf]; omega
  ·have hltz : ¬ (k : Int) < (n : Int) := by omega
   go_wp2
   go_ret
   refine ⟨⟨_, rfl, fun h => absurd h (by decide), fun ⟨j, hj, hpj⟩ => ?_⟩, HB.out⟩
   rw [A.out j (by omega)] at hpj; cases hpj
set_option maxHeartbeats 2000000 in
theorem any1 (n b off cap P g : Nat) (us : Nat → Int) (p : Nat → Bool) (w : World) (hl : n ≤ 9223372036854775807) (hB : b < w.heap.size) (hc : ∀ k, k < n → w.cell? ⟨b, off + k, none⟩ = some (.int .i64 (us k)))
    (eg : ∀ args w, (callFunc g args).run Tryz.prog w = .ok (.enter g args) w)
    (hp : ∀ W k, Below w.heap.size w W → k < n → Calls Tryz.prog g #[.int .i64 (us k), .pointer (some ⟨P, 0, none⟩)] W (Bk W (.bool (p k)))) (R : Bool) (hR : R = true ↔ ∃ k, k < n ∧ p k = true) :
    Calls Tryz.prog 39 #[.slice (some ⟨b, off, none⟩) n cap, .func (.func g) #[] #[.pointer (some ⟨P, 0, none⟩)]] w (Bk w (.bool R)) := by
 have c := idx1 n b off cap P g us p w hl hB hc eg hp
 clear hc hp eg hB hl
 go_enter Tryz.func39, Tryz.ntmps39
 go_wp2_with fail
 go_at_call 70
 refine c.mono ?_
 rintro e w' ⟨⟨r, rfl, hr⟩, hb⟩
 have HB := hide hb
 have HR : Hid (R = decide (0 ≤ r)) := by
  unfold Hid
  rw [Bool.eq_iff_iff, hR, decide_eq_true_eq, hr]
 clear hb hr hR c
 go_wp2
 go_ret
 exact ⟨back_b HR.out.symm, HB.out⟩
theorem none1 (a : Option Addr) (cap : Nat) (fv : Value) (w : World) :
    Calls Tryz.prog 39 #[.slice a 0 cap, fv] w (Bk w (.bool false)) := by
 have c : Calls Tryz.prog 70 #[.slice a 0 cap, fv] w (Sk w (.int .i64 (-1))) := by
  go_enter Tryz.func70, Tryz.ntmps70
  go_wp2
  go_loopw [5, 8] (fun _ i wr => i = .int .i64 0 ∧ w = wr) (fun _ _ _ => 0)
  case atStart => exact ⟨rfl, rfl⟩
  case round =>
   obtain ⟨rfl, rfl⟩ := hrel
   go_wp2
   go_ret
   exact ⟨rfl, rfl⟩
 go_enter Tryz.func39, Tryz.ntmps39
 go_wp2_with (go_at_call 70; refine c.mono ?_; rintro e w' ⟨rfl, rfl⟩)
 go_ret
 exact ⟨rfl, Below.refl _ _⟩
set_option maxHeartbeats 2000000 in
theorem idx2 (n b off cap P g : Nat) (us : Nat → Value) (p : Nat → Bool) (w : World) (hl : n ≤ 9223372036854775807) (hB : b < w.heap.size) (hc : ∀ k, k < n → w.cell? ⟨b, off + k, none⟩ = some (us k))
    (eg : ∀ args w, (callFunc g args).run Tryz.prog w = .ok (.enter g args) w)
    (hp : ∀ W k, Below w.heap.size w W → k < n → Calls Tryz.prog g #[us k, .pointer (some ⟨P, 0, none⟩)] W (Bk W (.bool (p k)))) :
    Calls Tryz.prog 205 #[.slice (some ⟨b, off, none⟩) n cap, .func (.func g) #[] #[.pointer (some ⟨P, 0, none⟩)]] w fun e w' => (∃ r : Int, e = .returned (.int .i64 r) ∧ (0 ≤ r ↔ ∃ k, k < n ∧ p k = true)) ∧ Below w.heap.size w w' := by
 have HC : Hid (∀ W k, Below w.heap.size w W → k < n → W.cell? ⟨b, off + k, none⟩ = some (us k)) := fun W k hW hk => by rw [hW.cell (show (⟨b, off + k, none⟩ : Addr).block < w.heap.size from hB)]; exact hc k hk
 have HP := hide hp
 clear hc hp hB
 go_enter Tryz.func205, Tryz.ntmps205
 go_wp2
 go_loopw [5, 8] (fun _ i wr => ∃ k : Nat, k ≤ n ∧ i = .int .i64 k ∧ Below w.heap.size w wr ∧ Hid (∀ j, j < k → p j = false)) (fun _ i _ => n - (intOf i).toNat)
 case atStart => exact ⟨0, Nat.zero_le _, rfl, Below.refl _ _, fun j hj => absurd hj (Nat.not_lt_zero _)⟩
 case round =>
  obtain ⟨k, hk, rfl, hb0, A⟩ := hrel
  have HB := hide hb0
  clear hb0
  by_cases hlt : k < n
  ·have hcell := HC.out wr k HB.out hlt
   have hcall := HP.out wr k HB.out hlt
   obtain ⟨x, hx⟩ := nm (us k)
   rw [← hx] at hcell hcall
   clear hx
   have hltz : (k : Int) < (n : Int) := by omega
   cases hq : p k with
   | true =>
    rw [hq] at hcall
    have HQ := hide hq
    have HCl := hide hcall
    clear hcall hq
    go_wp2_with (go_at_fn g; refine HCl.out.mono ?_; rintro e w' ⟨rfl, hb'⟩; have HB' : Hid (Below w.heap.size w w') := HB.out.trans (hb'.mono HB.out.size); clear hb')
    go_ret
    exact ⟨⟨_, rfl, fun _ => ⟨k, hlt, HQ.out⟩, fun _ => by omega⟩, HB'.out⟩
   | false =>
    rw [hq] at hcall
    have HQ := hide hq
    have HCl := hide hcall
    clear hcall hq
    go_wp2_with (go_at_fn g; refine HCl.out.mono ?_; rintro e w' ⟨rfl, hb'⟩; have HB' : Hid (Below w.heap.size w w') := HB.out.trans (hb'.mono HB.out.size); clear hb')
    go_roundw
    case rel =>
     refine ⟨k + 1, by omega, by go_num, HB'.out, fun j hj => ?_⟩
     by_cases e : j = k
     ·rw [e]; exact HQ.out
     ·exact A.out j (by omega)
    case measure => simp [intOf]; omega
  ·have hltz : ¬ (k : Int) < (n : Int) := by omega
   go_wp2
   go_ret
   refine ⟨⟨_, rfl, fun h => absurd h (by decide), fun ⟨j, hj, hpj⟩ => ?_⟩, HB.out⟩
   rw [A.out j (by omega)] at hpj; cases hpj
set_option maxHeartbeats 2000000 in
theorem any2 (n b off cap P g : Nat) (us : Nat → Value) (p : Nat → Bool) (w : World) (hl : n ≤ 9223372036854775807) (hB : b < w.heap.size) (hc : ∀ k, k < n → w.cell? ⟨b, off + k, none⟩ = some (us k))
    (eg : ∀ args w, (callFunc g args).run Tryz.prog w = .ok (.enter g args) w)
    (hp : ∀ W k, Below w.heap.size w W → k < n → Calls Tryz.prog g #[us k, .pointer (some ⟨P, 0, none⟩)] W (Bk W (.bool (p k)))) (R : Bool) (hR : R = true ↔ ∃ k, k < n ∧ p k = true) :
    Calls Tryz.prog 177 #[.slice (some ⟨b, off, none⟩) n cap, .func (.func g) #[] #[.pointer (some ⟨P, 0, none⟩)]] w (Bk w (.bool R)) := by
 have c := idx2 n b off cap P g us p w hl hB hc eg hp
 clear hc hp eg hB hl
 go_enter Tryz.func177, Tryz.ntmps177
 go_wp2_with fail
 go_at_call 205
 refine c.mono ?_
 rintro e w' ⟨⟨r, rfl, hr⟩, hb⟩
 have HB := hide hb
 have HR : Hid (R = decide (0 ≤ r)) := by
  unfold Hid
  rw [Bool.eq_iff_iff, hR, decide_eq_true_eq, hr]
 clear hb hr hR c
 go_wp2
 go_ret
 exact ⟨back_b HR.out.symm, HB.out⟩
theorem none2 (a : Option Addr) (cap : Nat) (fv : Value) (w : World) :
    Calls Tryz.prog 177 #[.slice a 0 cap, fv] w (Bk w (.bool false)) := by
 have c : Calls Tryz.prog 205 #[.slice a 0 cap, fv] w (Sk w (.int .i64 (-1))) := by
  go_enter Tryz.func205, Tryz.ntmps205
  go_wp2
  go_loopw [5, 8] (fun _ i wr => i = .int .i64 0 ∧ w = wr) (fun _ _ _ => 0)
  case atStart => exact ⟨rfl, rfl⟩
  case round =>
   obtain ⟨rfl, rfl⟩ := hrel
   go_wp2
   go_ret
   exact ⟨rfl, rfl⟩
 go_enter Tryz.func177, Tryz.ntmps177
 go_wp2_with (go_at_call 205; refine c.mono ?_; rintro e w' ⟨rfl, rfl⟩)
 go_ret
 exact ⟨rfl, Below.refl _ _⟩
theorem anyI (t : List Int) (v : Value) (P g : Nat) (p : Int → Bool) (w : World) (hv : Reads w v t) (eg : ∀ args w, (callFunc g args).run Tryz.prog w = .ok (.enter g args) w)
    (hp : ∀ W m, Below w.heap.size w W → m ∈ t → Calls Tryz.prog g #[.int .i64 m, .pointer (some ⟨P, 0, none⟩)] W (Bk W (.bool (p m)))) :
    Calls Tryz.prog 39 #[v, .func (.func g) #[] #[.pointer (some ⟨P, 0, none⟩)]] w (Bk w (.bool (t.any p))) := by
 rcases hv with ⟨ao, cap, rfl, rfl⟩ | ⟨b, off, cap, rfl, hB, h0, ⟨hl, _⟩, hc⟩
 ·exact none1 ao cap _ w
 ·refine any1 t.length b off cap P g (fun k => t.getD k 0) (fun k => p (t.getD k 0)) w hl hB hc eg (fun W k hW hk => hp W _ hW ?_) _ ?_
  ·rw [List.getD_eq_getElem?_getD, List.getElem?_eq_getElem hk]; exact List.getElem_mem hk
  ·rw [List.any_eq_true]
   constructor
   ·rintro ⟨m, hm, hpm⟩
    obtain ⟨k, hk, rfl⟩ := List.getElem_of_mem hm
    exact ⟨k, hk, by rw [List.getD_eq_getElem?_getD, List.getElem?_eq_getElem hk]; exact hpm⟩
   ·rintro ⟨k, hk, hpk⟩
    rw [List.getD_eq_getElem?_getD, List.getElem?_eq_getElem hk] at hpk
    exact ⟨t[k], List.getElem_mem hk, hpk⟩
theorem anyL (S : Nat → Prop) (L : List (List Int)) (v : Value) (P g : Nat) (p : List Int → Bool) (w : World) (hv : RS2 S w v L) (eg : ∀ args w, (callFunc g args).run Tryz.prog w = .ok (.enter g args) w)
    (hp : ∀ W u t, Below w.heap.size w W → t ∈ L → Reads W u t → Calls Tryz.prog g #[u, .pointer (some ⟨P, 0, none⟩)] W (Bk W (.bool (p t)))) :
    Calls Tryz.prog 177 #[v, .func (.func g) #[] #[.pointer (some ⟨P, 0, none⟩)]] w (Bk w (.bool (L.any p))) := by
 rcases hv with ⟨ao, cap, rfl, rfl⟩ | ⟨b, off, cap, rfl, ⟨_, hB⟩, h0, ⟨hl, _⟩, hc⟩
 ·exact none2 ao cap _ w
 ·have key : ∀ k, k < L.length → ∃ u, w.cell? ⟨b, off + k, none⟩ = some u ∧ Reads w u (L.getD k []) := fun k hk => by
   obtain ⟨u, hu, hr⟩ := hc k _ (List.getElem?_eq_getElem hk)
   exact ⟨u, hu, by rw [List.getD_eq_getElem?_getD, List.getElem?_eq_getElem hk]; exact hr.reads⟩
  refine any2 L.length b off cap P g (fun k => (w.cell? ⟨b, off + k, none⟩).getD (.int .i64 0)) (fun k => p (L.getD k [])) w hl hB (fun k hk => ?_) eg (fun W k hW hk => ?_) _ ?_
  ·obtain ⟨u, hu, _⟩ := key k hk
   rw [hu]; rfl
  ·obtain ⟨u, hu, hr⟩ := key k hk
   rw [hu]
   refine hp W u _ hW ?_ (hr.below hW)
   rw [List.getD_eq_getElem?_getD, List.getElem?_eq_getElem hk]; exact List.getElem_mem hk
  ·rw [List.any_eq_true]
   constructor
   ·rintro ⟨m, hm, hpm⟩
    obtain ⟨k, hk, rfl⟩ := List.getElem_of_mem hm
    exact ⟨k, hk, by rw [List.getD_eq_getElem?_getD, List.getElem?_eq_getElem hk]; exact hpm⟩
   ·rintro ⟨k, hk, hpk⟩
    rw [List.getD_eq_getElem?_getD, List.getElem?_eq_getElem hk] at hpk
    exact ⟨L[k], List.getElem_mem hk, hpk⟩
set_option maxHeartbeats 2000000 in
theorem hasI (t : List Int) (v : Value) (x : Int) (w : World) (hv : Reads w v t) :
    Calls Tryz.prog 174 #[v, .int .i64 x] w (Sk w (.bool (t.contains x))) := by
 have c : Calls Tryz.prog 204 #[v, .int .i64 x] w fun e w' => (∃ r : Int, e = .returned (.int .i64 r) ∧ (0 ≤ r ↔ x ∈ t)) ∧ w = w' := by
  rcases hv with ⟨ao, cap, rfl, rfl⟩ | ⟨b, off, cap, rfl, hB, h0, ⟨hl, _⟩, hc⟩
  ·go_enter Tryz.func204, Tryz.ntmps204
   go_wp2
   go_loop [5, 8] (fun _ i => i = .int .i64 0) (fun _ _ => 0)
   case atStart => rfl
   case round =>
    subst hrel
    go_wp2
    go_ret
    first | exact ⟨⟨_, rfl, by decide⟩, rfl⟩ | exact ⟨⟨_, rfl, by simp⟩, rfl⟩
  ·have HC := hide hc
   clear hc
   obtain ⟨n, hn⟩ := nm t.length
   rw [← hn] at hl ⊢
   have HN := hide hn
   clear hn h0 hB
   go_enter Tryz.func204, Tryz.ntmps204
   go_wp2
   go_loop [5, 8] (fun _ i => ∃ k : Nat, k ≤ n ∧ i = .int .i64 k ∧ Hid (∀ j, j < k → t.getD j 0 ≠ x)) (fun _ i => n - (intOf i).toNat)
   case atStart => exact ⟨0, Nat.zero_le _, rfl, fun j hj => absurd hj (Nat.not_lt_zero _)⟩
   case round =>
    obtain ⟨k, hk, rfl, A⟩ := hrel
    by_cases hlt : k < n
    ·have hkt : k < t.length := by rw [← HN.out]; exact hlt
     have hcell := HC.out k hkt
     obtain ⟨y, hy⟩ := nm (t.getD k 0)
     have HY : Hid (y = t.getD k 0 ∧ y ∈ t) := ⟨hy, by rw [hy, List.getD_eq_getElem?_getD, List.getElem?_eq_getElem hkt]; exact List.getElem_mem hkt⟩
     rw [← hy] at hcell
     clear hy hkt
     have hltz : (k : Int) < (n : Int) := by omega
     by_cases hxy : x = y
     ·have hb : (x == y) = true := by simpa using hxy
      have HX : Hid (x ∈ t) := by unfold Hid; rw [hxy]; exact HY.out.2
      clear hxy
      go_wp2
      go_ret
      exact ⟨⟨_, rfl, fun _ => HX.out, fun _ => by omega⟩, rfl⟩
     ·have hb : (x == y) = false := by simpa using hxy
      have HX : Hid (t.getD k 0 ≠ x) := fun h => hxy (by rw [HY.out.1, h])
      clear hxy
      go_wp2
      go_round
      case rel =>
       refine ⟨k + 1, by omega, by go_num, fun j hj => ?_⟩
       by_cases e : j = k
       ·rw [e]; exact HX.out
       ·exact A.out j (by omega)
      case measure => simp [intOf]; omega
    ·have hltz : ¬ (k : Int) < (n : Int) := by omega
     go_wp2
     go_ret
     refine ⟨⟨_, rfl, fun h => absurd h (by decide), fun h => ?_⟩, rfl⟩
     obtain ⟨j, hj, rfl⟩ := List.getElem_of_mem h
     exact absurd (by rw [List.getD_eq_getElem?_getD, List.getElem?_eq_getElem hj]; rfl) (A.out j (by have := HN.out; omega))
 clear hv
 go_enter Tryz.func174, Tryz.ntmps174
 go_wp2_with fail
 go_at_call 204
 refine c.mono ?_
 rintro e w' ⟨⟨r, rfl, hr⟩, rfl⟩
 have HR : Hid (t.contains x = decide (0 ≤ r)) := by
  unfold Hid
  rw [Bool.eq_iff_iff, decide_eq_true_eq, hr]; simp
 clear hr c
 go_wp2
 go_ret
 exact ⟨back_b HR.out.symm, rfl⟩
end Go.Proofs.YtjmeakkmfeoigaaGreatDoor
namespace Go.Proofs.YtjmeakkmfeoigaaGreatDoor
open Go.ChangeShapes Go.WideShapes Go.ChangeAt Go.RowKit
set_option maxRecDepth 100000
theorem infoS : (Tryz.prog.info? 27).map (fun i => (i.zero, i.size, i.bytes)) = some (some (.slice none 0 0), 1, 24) := by kernel_rfl
theorem getD_eq_of_len {s t : List Int} (hl : s.length = t.length) (h : ∀ j, j < s.length → s.getD j 0 = t.getD j 0) : s = t := by
 apply List.ext_getElem hl
 intro i h1 h2
 have := h i h1
 simpa [List.getD_eq_getElem?_getD, List.getElem?_eq_getElem h1, List.getElem?_eq_getElem h2] using this
set_option maxHeartbeats 2000000 in
theorem eqI (s t : List Int) (v v' : Value) (w : World) (h : Reads w v s) (h' : Reads w v' t) :
    Calls Tryz.prog 176 #[v, v'] w (Bk w (.bool (s == t))) := by
 obtain ⟨ao, acap, rfl, hm⟩ : ∃ ao cap, v = .slice ao s.length cap ∧ s.length ≤ 9223372036854775807 := (h.rs (S := fun _ => True) (fun _ _ => trivial)).slice
 obtain ⟨bo, bcap, rfl, hn⟩ : ∃ ao cap, v' = .slice ao t.length cap ∧ t.length ≤ 9223372036854775807 := (h'.rs (S := fun _ => True) (fun _ _ => trivial)).slice
 by_cases hl : s.length = t.length
 ·rcases h with ⟨_, _, hv, rfl⟩ | ⟨b, off, cap, hv, hB, h0, _, hc⟩
  ·obtain rfl : t = [] := List.eq_nil_of_length_eq_zero (by simpa using hl.symm)
   go_enter Tryz.func176, Tryz.ntmps176
   go_wp2
   refine wp_loop_rounds 1 ?_
   rw [rounds_succ]
   go_wp2
   go_ret
   exact ⟨rfl, Below.refl _ _⟩
  ·rcases h' with ⟨_, _, _, rfl⟩ | ⟨b', off', cap', hv', hB', _, _, hc'⟩
   ·simp at hl; rw [hl] at h0; simp at h0
   ·obtain rfl : ao = some ⟨b, off, none⟩ := by cases hv; rfl
    obtain rfl : bo = some ⟨b', off', none⟩ := by cases hv'; rfl
    clear hv hv'
    have HC := hide hc
    have HC' := hide hc'
    have HB : Hid (b < w.heap.size ∧ b' < w.heap.size) := ⟨hB, hB'⟩
    have HL := hide hl
    clear hc hc' hB hB'
    obtain ⟨n, hn'⟩ := nm s.length
    rw [← hl]
    rw [← hn'] at hm h0 ⊢
    have HN := hide hn'
    clear hn' hn hl
    obtain ⟨R, hR⟩ := nm ((s == t))
    rw [← hR]
    have HR := hide hR
    clear hR
    go_enter Tryz.func176, Tryz.ntmps176
    go_wp2
    go_loopw [5, 13] (fun _ i wr => ∃ k : Nat, k ≤ n ∧ i = .int .i64 k ∧ Below w.heap.size w wr ∧ Hid (∀ j, j < k → s.getD j 0 = t.getD j 0)) (fun _ i _ => n - (intOf i).toNat)
    case atStart => exact ⟨0, Nat.zero_le _, rfl, Below.refl _ _, fun j hj => absurd hj (Nat.not_lt_zero _)⟩
    case round =>
     obtain ⟨k, hk, rfl, hbel, A⟩ := hrel
     by_cases hlt : k < n
     ·obtain ⟨x, hx⟩ := nm (s.getD k 0)
      obtain ⟨y, hy⟩ := nm (t.getD k 0)
      have hks : k < s.length := by rw [← HN.out]; exact hlt
      have hkt : k < t.length := by rw [← HL.out]; exact hks
      have c0 : wr.cell? ⟨b, off + k, none⟩ = some (.int .i64 x) := by rw [hx, hbel.cell HB.out.1]; exact HC.out k hks
      have c1 : wr.cell? ⟨b', off' + k, none⟩ = some (.int .i64 y) := by rw [hy, hbel.cell HB.out.2]; exact HC'.out k hkt
      have HW := hide hbel
      have HXY : Hid (x = s.getD k 0 ∧ y = t.getD k 0) := ⟨hx, hy⟩
      have hlt' : (k : Int) < (n : Int) := by omega
      clear hx hy hks hkt hbel
      by_cases hxy : x = y
      ·have HE : Hid (s.getD k 0 = t.getD k 0) := by unfold Hid; rw [← HXY.out.1, ← HXY.out.2, hxy]
       have hb : (x != y) = false := by simp [hxy]
       clear hxy
       go_wp2_with fail
       go_quiet (fail)
       go_wp2
       go_roundw
       case rel =>
        refine ⟨k + 1, by omega, by go_num, HW.out.trans ((below_drewNs _ _).mono HW.out.size), fun j hj => ?_⟩
        by_cases e : j = k
        ·rw [e]; exact HE.out
        ·exact A.out j (by omega)
       case measure => simp [intOf]; omega
      ·have HE : Hid (R = false) := by
        unfold Hid
        rw [HR.out]
        have : s ≠ t := fun e => hxy (by rw [HXY.out.1, HXY.out.2, e])
        simpa using this
       have hb : (x != y) = true := by simpa using hxy
       clear hxy
       go_wp2_with fail
       go_quiet (fail)
       go_wp2
       go_ret
       exact ⟨back_b HE.out.symm, HW.out.trans ((below_drewNs _ _).mono HW.out.size)⟩
     ·obtain rfl : k = n := by omega
      have HW := hide hbel
      have HE : Hid (R = true) := by
       unfold Hid
       rw [HR.out]
       have : s = t := getD_eq_of_len HL.out (fun j hj => A.out j (by rw [HN.out]; exact hj))
       simp [this]
      clear hbel
      go_wp2
      go_ret
      exact ⟨back_b HE.out.symm, HW.out⟩
 ·have hne : ((s.length : Int) != (t.length : Int)) = true := by simp; omega
  have HE : Hid ((s == t) = false) := by
   unfold Hid
   have : s ≠ t := fun e => hl (by rw [e])
   simpa using this
  obtain ⟨R, hR⟩ := nm ((s == t))
  rw [← hR]
  rw [← hR] at HE
  clear hR hl
  go_enter Tryz.func176, Tryz.ntmps176
  go_wp2
  go_ret
  exact ⟨back_b HE.out.symm, Below.refl _ _⟩
theorem turns_any (c : List Int) (u : Value) (P : Nat) (m : Int) (w : World) (hm : m.natAbs ≤ 6) (hP : w.cell? ⟨P, 0, none⟩ = some u) (hu : Reads w u c) :
    Calls Tryz.prog 173 #[.int .i64 m, .pointer (some ⟨P, 0, none⟩)] w (Bk w (.bool (c.contains (-m)))) := by
 have h := hasI c u (-m) w hu
 obtain ⟨R, hR⟩ := nm (c.contains (-m))
 rw [← hR] at h ⊢
 obtain ⟨ao, cap, rfl, _⟩ := (hu.rs (S := fun _ => True) (fun _ _ => trivial)).slice
 clear hR hu
 have h1 : -9223372036854775808 ≤ -m := by omega
 have h2 : -m ≤ 9223372036854775807 := by omega
 have H := hide h
 clear h hm
 go_enter Tryz.func173, Tryz.ntmps173
 go_wp2_with (go_at_call 174; refine H.out.mono ?_; rintro e w' ⟨rfl, rfl⟩)
 go_ret
 exact ⟨rfl, Below.refl _ _⟩
theorem sameC_any (t c : List Int) (v u : Value) (P : Nat) (w : World) (hP : w.cell? ⟨P, 0, none⟩ = some u) (hv : Reads w v t) (hu : Reads w u c) :
    Calls Tryz.prog 175 #[v, .pointer (some ⟨P, 0, none⟩)] w (Bk w (.bool (t == c))) := by
 have H : Hid (Calls Tryz.prog 176 #[v, u] w (Bk w (.bool (t == c)))) := eqI t c v u w hv hu
 obtain ⟨R, hR⟩ := nm ((t == c))
 rw [← hR] at H ⊢
 obtain ⟨ao, cap, rfl, _⟩ := (hu.rs (S := fun _ => True) (fun _ _ => trivial)).slice
 obtain ⟨bo, bcap, rfl, _⟩ := (hv.rs (S := fun _ => True) (fun _ _ => trivial)).slice
 clear hR hu hv
 go_enter Tryz.func175, Tryz.ntmps175
 go_wp2_with (go_at_call 176; refine H.out.mono ?_; rintro e w' ⟨rfl, hb⟩)
 go_ret
 exact ⟨rfl, hb⟩
end Go.Proofs.YtjmeakkmfeoigaaGreatDoor
namespace Go.Proofs.YtjmeakkmfeoigaaGreatDoor
open Go.ChangeShapes Go.WideShapes Go.ChangeAt Go.RowKit
set_option maxRecDepth 100000
structure RowV where
 o : Option Addr
 m : Nat
 cap : Nat
 vs : List Value
def RowV.Lies (w : World) (r : RowV) : Prop := r.vs.length = r.m * 1 ∧ (∀ u ∈ r.vs, u.oneCell' = true) ∧ (r.m = 0 ∨ ∃ b off, r.o = some ⟨b, off, none⟩ ∧ b < w.heap.size ∧ ∀ j u, r.vs[j]? = some u → w.cell? ⟨b, off + j, none⟩ = some u)
theorem RowV.Lies.below {w w' : World} {r : RowV} (h : r.Lies w) (hb : Below w.heap.size w w') : r.Lies w' := by
 obtain ⟨h1, h2, h3⟩ := h
 refine ⟨h1, h2, ?_⟩
 rcases h3 with h3 | ⟨b, off, e, hB, hc⟩
 ·exact Or.inl h3
 ·exact Or.inr ⟨b, off, e, Nat.lt_of_lt_of_le hB hb.size, fun j u hu => by rw [hb.cell hB]; exact hc j u hu⟩
def manyV (l : List RowV) : Nat := (l.map (·.m)).sum
def allV (l : List RowV) : List Value := (l.map (·.vs)).flatten
theorem manyV_succ (l : List RowV) {k : Nat} {r : RowV} (h : l[k]? = some r) : manyV (l.take (k + 1)) = manyV (l.take k) + r.m := by
 unfold manyV
 rw [List.take_add_one, h]; simp
theorem allV_succ (l : List RowV) {k : Nat} {r : RowV} (h : l[k]? = some r) : allV (l.take (k + 1)) = allV (l.take k) ++ r.vs := by
 unfold allV
 rw [List.take_add_one, h]; simp
theorem manyV_take (l : List RowV) (k : Nat) : manyV (l.take k) ≤ manyV l := by
 have : manyV l = manyV (l.take k) + manyV (l.drop k) := by
  unfold manyV
  rw [← List.sum_append_nat, ← List.map_append, List.take_append_drop]
 omega
theorem run_append_nothing {P : Program} {w : World} {base : Nat} {t ty e : TypeId} {i : TypeInfo} {size : Nat} (ht : P.underlying t = some (.slice e)) (hi : P.info? e = some i)
    {v : Value} {n : Nat} {xs : List Value} (hown : w.ownsRow base e size v n xs) (ao : Option Addr) (cap : Nat) :
    (Builtin.append_ #[t, t] ty #[v, .slice ao 0 cap]).run P w = .ok v w := by
 cases ao with
 | none =>
  rcases hown.2 with ⟨rfl, rfl⟩ | ⟨g, c, cur, rfl, _, _, hnc, _⟩
  ·simp [Builtin.append_, run_underlying ht, sizeOf, typeInfo, hi, Builtin.lenOf, Builtin.firstCells]
  ·simp [Builtin.append_, run_underlying ht, sizeOf, typeInfo, hi, Builtin.lenOf, Builtin.firstCells, hnc, storeCells]
 | some a =>
  have hf := run_firstCells_some (P := P) w i.size 0 a 0 cap [] (by simp) (by intro j u h; simp at h)
  rcases hown.2 with ⟨rfl, rfl⟩ | ⟨g, c, cur, rfl, _, _, hnc, _⟩
  ·simp [Builtin.append_, run_underlying ht, sizeOf, typeInfo, hi, Builtin.lenOf, hf]
  ·simp [Builtin.append_, run_underlying ht, sizeOf, typeInfo, hi, Builtin.lenOf, hnc, hf, storeCells]
theorem infoN : (Tryz.prog.info? 3).map (fun i => (i.zero, i.size, i.bytes)) = some (some (.int .i64 0), 1, 8) := by kernel_rfl
set_option maxHeartbeats 2000000 in
theorem growV1 (n : Nat) (h1 : n ≤ 200) (w : World) :
    Calls Tryz.prog 82 #[.slice none 0 0, .int .i64 n] w fun e w' => ∃ v, e = .returned v ∧ w'.ownsRow w.heap.size 3 1 v 0 [] ∧ Below w.heap.size w w' := by
 obtain ⟨i0, hi, hz0, hz1, hz2⟩ := info_parts infoN
 rcases Nat.eq_zero_or_pos n with rfl | h0
 ·go_enter Tryz.func82, Tryz.ntmps82
  go_wp2
  go_ret
  exact ⟨_, rfl, World.ownsRow_nil _ _ _ _, Below.refl _ _⟩
 have a1 : ¬ ((n : Int) < 0) := by omega
 have a4 : (n : Int) > 0 := by omega
 have hold : (Builtin.firstCells i0.size 0 (.slice none 0 0)).run Tryz.prog w.drew = .ok #[] w.drew := run_firstCells_none w.drew i0.size 0 0 0
 have hrz : ∀ ty, (Builtin.append_ #[27, 3] ty #[.slice none 0 0, .int .i64 n]).run Tryz.prog w =
     .ok (.slice (some ⟨w.heap.size, 0, none⟩) n (grownCap w n 0 3)) (w.drew.alloc (.cells (#[] ++ Builtin.zeroCells (Value.cells (.int .i64 0)) n ++ Builtin.zeroCells (Value.cells (.int .i64 0)) (grownCap w n 0 3 - n)) 3)) := fun ty => by
  have h := Lib.run_append_grow_zeros w 27 3 ty 3 i0 (.int .i64 0) .i64 .i64 Tryz.underlying27 Tryz.underlying3 hi hz0 none 0 0 [] hold n h0 (by omega) (by omega) (by omega) (by rw [hz2]; omega) (by rw [Nat.zero_add, hz2]; exact growslice_fits (by omega) (by omega))
  rw [Nat.zero_add] at h
  exact h
 have hGn : n ≤ grownCap w n 0 3 := grownCap_ge w _ _ _
 have hG63 : grownCap w n 0 3 ≤ maxLen := grownCap_le_maxLen w n 0 3 (by unfold maxLen; omega)
 obtain ⟨G, hG⟩ := nm (grownCap w n 0 3)
 rw [← hG] at hrz hGn hG63
 have HE : Hid (∃ w', w' = w.drew.alloc (.cells (#[] ++ Builtin.zeroCells (Value.cells (.int .i64 0)) n ++ Builtin.zeroCells (Value.cells (.int .i64 0)) (G - n)) 3) ∧ w'.ownsRow w.heap.size 3 1 (.slice (some ⟨w.heap.size, 0, none⟩) 0 G) 0 [] ∧ Below w.heap.size w w') := by
  refine ⟨_, rfl, ?_, ?_⟩
  ·refine ⟨by simp, .inr ⟨w.heap.size, G, _, rfl, Nat.le_refl _, heap_alloc_new w.drew _, Nat.zero_le _, hG63, ?_, by simp⟩⟩
   simp [Builtin.zeroCells, Value.cells]
   omega
  ·exact ((Below.refl _ w).drew).trans (below_alloc1 w.drew _)
 have hG63' : G ≤ 9223372036854775807 := by unfold maxLen at hG63; omega
 clear hold hG hG63
 obtain ⟨w', hw', HE⟩ := HE.out
 rw [← hw'] at hrz
 have HE' := hide HE
 clear hw' HE
 go_enter Tryz.func82, Tryz.ntmps82
 go_wp2_with (at_builtin; refine Lib.wpList_append_run _ rfl _ _ _ _ rfl _ _ rfl rfl _ _ (hrz _) ?_)
 go_ret
 exact ⟨_, rfl, HE'.out⟩
set_option maxHeartbeats 4000000 in
theorem concatV1 (l : List RowV) (A lcap : Nat) (w : World) (hl : l.length ≤ 4) (hA : A < w.heap.size) (hc : ∀ k r, l[k]? = some r → w.cell? ⟨A, k, none⟩ = some (.slice r.o r.m r.cap)) (hr : ∀ r ∈ l, r.Lies w) (h1 : manyV l ≤ 200) :
    Calls Tryz.prog 50 #[.slice (some ⟨A, 0, none⟩) l.length lcap] w fun e w' => ∃ v, e = .returned v ∧ w'.ownsRow w.heap.size 3 1 v (manyV l) (allV l) ∧ Below w.heap.size w w' := by
 obtain ⟨i0, hi, hz0, hz1, hz2⟩ := info_parts infoN
 obtain ⟨N, hN⟩ := nm l.length
 rw [← hN] at hl ⊢
 have HN := hide hN
 clear hN
 have HC : Hid (∀ W, Below w.heap.size w W → ∀ k r, l[k]? = some r → W.cell? ⟨A, k, none⟩ = some (.slice r.o r.m r.cap)) := fun W hW k r h => by rw [hW.cell (show (⟨A, k, none⟩ : Addr).block < _ from hA)]; exact hc k r h
 have HR : Hid (∀ W, Below w.heap.size w W → ∀ (k : Nat) (r : RowV), l[k]? = some r → r.Lies W) := fun W hW k r h => (hr r (List.mem_of_getElem? h)).below hW
 have HS : Hid (∀ k, manyV (l.take k) ≤ 200) := fun k => Nat.le_trans (manyV_take l k) h1
 have HG : Hid (∀ W, Calls Tryz.prog 82 #[.slice none 0 0, .int .i64 (manyV l)] W fun e w' => ∃ v, e = .returned v ∧ w'.ownsRow W.heap.size 3 1 v 0 [] ∧ Below W.heap.size W w') := fun W => growV1 _ h1 W
 obtain ⟨M, hM⟩ := nm (manyV l)
 rw [← hM] at HG ⊢
 have HM := hide hM
 clear hM hc hr h1 hA
 go_enter Tryz.func50, Tryz.ntmps50
 go_wp2_with fail
 go_loop [3, 5, 11] (fun c _ i => ∃ k : Nat, k ≤ N ∧ i = .int .i64 k ∧ c = .int .i64 (manyV (l.take k))) (fun _ _ i => N - (intOf i).toNat)
 case atStart => exact ⟨0, Nat.zero_le _, rfl, rfl⟩
 case round =>
  obtain ⟨k, hk, rfl, rfl⟩ := hrel
  by_cases hlt : k < N
  ·obtain ⟨r, hr⟩ : ∃ r, l[k]? = some r := ⟨_, List.getElem?_eq_getElem (by have := HN.out; omega)⟩
   have hcell := HC.out w (Below.refl _ _) k r hr
   have HE : Hid (manyV (l.take (k + 1)) = manyV (l.take k) + r.m) := manyV_succ l hr
   have hs1 := HS.out (k + 1)
   rw [HE.out] at hs1
   obtain ⟨S, hS⟩ := nm (manyV (l.take k))
   rw [← hS] at HE hs1 ⊢
   clear hS hr
   obtain ⟨ro, rm, rc, rvs⟩ := r
   simp only at hcell HE hs1
   have q : ¬ ((S : Int) + (rm : Int) < 0) := by omega
   go_wp2
   go_round
   case rel => exact ⟨k + 1, by omega, by go_num, by rw [HE.out]; go_num⟩
   case measure => simp [intOf]; omega
  ·have HE : Hid (manyV (l.take k) = M) := by unfold Hid; rw [List.take_of_length_le (by have := HN.out; omega), HM.out]
   rw [HE.out]
   go_wp2_with fail
   go_at_call 82
   refine (HG.out _).mono ?_
   rintro e w2 ⟨v2, rfl, hown, hb⟩
   obtain ⟨K, hK⟩ := nm w.heap.size
   rw [← hK] at hown hb HC HR
   have HB2 : Hid (Below K w w2 ∧ K ≤ w2.heap.size) := ⟨hb, by have := hb.size; omega⟩
   have HO2 := hide hown
   have HKe := hide (hK.symm)
   clear hb hown hK
   go_wp2_with fail
   go_loopw [6, 8, 27] (fun v _ i wr => ∃ k : Nat, k ≤ N ∧ i = .int .i64 k ∧ wr.ownsRow K 3 1 v (manyV (l.take k)) (allV (l.take k)) ∧ Below K w wr ∧ K ≤ wr.heap.size) (fun _ _ i _ => N - (intOf i).toNat)
   case atStart => exact ⟨0, Nat.zero_le _, rfl, HO2.out, HB2.out.1, HB2.out.2⟩
   case round =>
    obtain ⟨j, hj, rfl, hown, hbel, hKw⟩ := hrel
    by_cases hjl : j < N
    ·obtain ⟨r, hr⟩ : ∃ r, l[j]? = some r := ⟨_, List.getElem?_eq_getElem (by have := HN.out; omega)⟩
     have hcell := HC.out wr hbel j r hr
     have HL := hide (HR.out wr hbel j r hr)
     have HE : Hid (manyV (l.take (j + 1)) = manyV (l.take j) + r.m) := manyV_succ l hr
     have HE2 : Hid (allV (l.take (j + 1)) = allV (l.take j) ++ r.vs) := allV_succ l hr
     have hs1 := HS.out (j + 1)
     rw [HE.out] at hs1
     obtain ⟨S, hS⟩ := nm (manyV (l.take j))
     obtain ⟨XS, hXS⟩ := nm (allV (l.take j))
     rw [← hS] at HE hs1 hown
     rw [← hXS] at HE2 hown
     clear hS hXS hr
     obtain ⟨ro, rm, rc, rvs⟩ := r
     simp only at hcell HE HE2 hs1
     have HOW := hide hown
     have HBW : Hid (Below K w wr ∧ K ≤ wr.heap.size) := ⟨hbel, hKw⟩
     clear hown hbel hKw
     rcases Nat.eq_zero_or_pos rm with hz | hrm
     ·subst hz
      have hvs : rvs = [] := List.eq_nil_of_length_eq_zero (by have := HL.out.1; simpa using this)
      have HO3 : Hid (wr.ownsRow K 3 1 u6 (manyV (l.take (j + 1))) (allV (l.take (j + 1)))) := by
       unfold Hid; rw [HE.out, HE2.out, hvs, List.append_nil, Nat.add_zero]; exact HOW.out
      have hrun : ∀ ty, (Builtin.append_ #[27, 27] ty #[u6, .slice ro 0 rc]).run Tryz.prog wr = .ok u6 wr := fun ty => run_append_nothing Tryz.underlying27 hi HOW.out ro rc
      clear hvs
      go_wp2_with (first | (at_builtin; refine Lib.wpList_append_run _ rfl _ _ _ _ rfl _ _ rfl rfl _ _ (hrun _) ?_))
      go_roundw
      case rel => exact ⟨j + 1, by omega, by go_num, HO3.out, HBW.out.1, HBW.out.2⟩
      case measure => simp [intOf]; omega
     ·obtain ⟨rb, roff, rfl, hB, hcs⟩ : ∃ b off, ro = some ⟨b, off, none⟩ ∧ b < wr.heap.size ∧ ∀ j u, rvs[j]? = some u → wr.cell? ⟨b, off + j, none⟩ = some u := HL.out.2.2.resolve_left (by show ¬ rm = 0; omega)
      have HCs := hide hcs
      clear hcs
      go_wp2_with (first | (at_builtin; refine wpList_append_own _ rfl (.tmp 31) (.tmp 32) 27 rfl K 3 i0 (.int .i64 0) 1 8 Tryz.underlying27 hi hz0 hz1 hz2 rfl (by decide) u6 S XS rfl HOW.out ⟨rb, roff, none⟩ rm rc rvs rfl HL.out.1 ?a1 HL.out.2.1 ?a3 ?a4 ?a5 ?_))
      case a1 =>
       intro i u hu
       rw [Go.WideShapes.add_plain]
       exact HCs.out i u hu
      case a3 => unfold maxLen; omega
      case a4 => omega
      case a5 => exact HBW.out.2
      intro v' w3 hown' hgrow _
      have HB3 : Hid (Below K w w3 ∧ K ≤ w3.heap.size) := by
       refine ⟨HBW.out.1.grown hgrow HBW.out.2 (fun k hk => (HOW.out.lt k hk).1), ?_⟩
       have := hgrow.size
       have := HBW.out.2
       omega
      have HO3 : Hid (w3.ownsRow K 3 1 v' (manyV (l.take (j + 1))) (allV (l.take (j + 1)))) := by
       unfold Hid; rw [HE.out, HE2.out]; exact hown'
      clear hown' hgrow
      go_wp2
      go_roundw
      case rel => exact ⟨j + 1, by omega, by go_num, HO3.out, HB3.out.1, HB3.out.2⟩
      case measure => simp [intOf]; omega
    ·rw [List.take_of_length_le (by have := HN.out; omega)] at hown
     have HO3 : Hid (wr.ownsRow K 3 1 u6 M (allV l)) := by unfold Hid; rw [HM.out]; exact hown
     have HB3 := hide hbel
     clear hown hbel
     go_wp2
     go_ret
     refine ⟨_, rfl, ?_, ?_⟩
     ·rw [HKe.out]; exact HO3.out
     ·rw [HKe.out]; exact HB3.out
set_option maxHeartbeats 2000000 in
theorem growV2 (n : Nat) (h1 : n ≤ 200) (w : World) :
    Calls Tryz.prog 182 #[.slice none 0 0, .int .i64 n] w fun e w' => ∃ v, e = .returned v ∧ w'.ownsRow w.heap.size 27 1 v 0 [] ∧ Below w.heap.size w w' := by
 obtain ⟨i0, hi, hz0, hz1, hz2⟩ := info_parts infoS
 rcases Nat.eq_zero_or_pos n with rfl | h0
 ·go_enter Tryz.func182, Tryz.ntmps182
  go_wp2
  go_ret
  exact ⟨_, rfl, World.ownsRow_nil _ _ _ _, Below.refl _ _⟩
 have a1 : ¬ ((n : Int) < 0) := by omega
 have a4 : (n : Int) > 0 := by omega
 have hold : (Builtin.firstCells i0.size 0 (.slice none 0 0)).run Tryz.prog w.drew = .ok #[] w.drew := run_firstCells_none w.drew i0.size 0 0 0
 have hrz : ∀ ty, (Builtin.append_ #[94, 3] ty #[.slice none 0 0, .int .i64 n]).run Tryz.prog w =
     .ok (.slice (some ⟨w.heap.size, 0, none⟩) n (grownCap w n 0 27)) (w.drew.alloc (.cells (#[] ++ Builtin.zeroCells (Value.cells (.slice none 0 0)) n ++ Builtin.zeroCells (Value.cells (.slice none 0 0)) (grownCap w n 0 27 - n)) 27)) := fun ty => by
  have h := Lib.run_append_grow_zeros w 94 3 ty 27 i0 (.slice none 0 0) .i64 .i64 Tryz.underlying94 Tryz.underlying3 hi hz0 none 0 0 [] hold n h0 (by omega) (by omega) (by omega) (by rw [hz2]; omega) (by rw [Nat.zero_add, hz2]; exact growslice_fits (by omega) (by omega))
  rw [Nat.zero_add] at h
  exact h
 have hGn : n ≤ grownCap w n 0 27 := grownCap_ge w _ _ _
 have hG63 : grownCap w n 0 27 ≤ maxLen := grownCap_le_maxLen w n 0 27 (by unfold maxLen; omega)
 obtain ⟨G, hG⟩ := nm (grownCap w n 0 27)
 rw [← hG] at hrz hGn hG63
 have HE : Hid (∃ w', w' = w.drew.alloc (.cells (#[] ++ Builtin.zeroCells (Value.cells (.slice none 0 0)) n ++ Builtin.zeroCells (Value.cells (.slice none 0 0)) (G - n)) 27) ∧ w'.ownsRow w.heap.size 27 1 (.slice (some ⟨w.heap.size, 0, none⟩) 0 G) 0 [] ∧ Below w.heap.size w w') := by
  refine ⟨_, rfl, ?_, ?_⟩
  ·refine ⟨by simp, .inr ⟨w.heap.size, G, _, rfl, Nat.le_refl _, heap_alloc_new w.drew _, Nat.zero_le _, hG63, ?_, by simp⟩⟩
   simp [Builtin.zeroCells, Value.cells]
   omega
  ·exact ((Below.refl _ w).drew).trans (below_alloc1 w.drew _)
 have hG63' : G ≤ 9223372036854775807 := by unfold maxLen at hG63; omega
 clear hold hG hG63
 obtain ⟨w', hw', HE⟩ := HE.out
 rw [← hw'] at hrz
 have HE' := hide HE
 clear hw' HE
 go_enter Tryz.func182, Tryz.ntmps182
 go_wp2_with (at_builtin; refine Lib.wpList_append_run _ rfl _ _ _ _ rfl _ _ rfl rfl _ _ (hrz _) ?_)
 go_ret
 exact ⟨_, rfl, HE'.out⟩
set_option maxHeartbeats 4000000 in
theorem concatV2 (l : List RowV) (A lcap : Nat) (w : World) (hl : l.length ≤ 4) (hA : A < w.heap.size) (hc : ∀ k r, l[k]? = some r → w.cell? ⟨A, k, none⟩ = some (.slice r.o r.m r.cap)) (hr : ∀ r ∈ l, r.Lies w) (h1 : manyV l ≤ 200) :
    Calls Tryz.prog 150 #[.slice (some ⟨A, 0, none⟩) l.length lcap] w fun e w' => ∃ v, e = .returned v ∧ w'.ownsRow w.heap.size 27 1 v (manyV l) (allV l) ∧ Below w.heap.size w w' := by
 obtain ⟨i0, hi, hz0, hz1, hz2⟩ := info_parts infoS
 obtain ⟨N, hN⟩ := nm l.length
 rw [← hN] at hl ⊢
 have HN := hide hN
 clear hN
 have HC : Hid (∀ W, Below w.heap.size w W → ∀ k r, l[k]? = some r → W.cell? ⟨A, k, none⟩ = some (.slice r.o r.m r.cap)) := fun W hW k r h => by rw [hW.cell (show (⟨A, k, none⟩ : Addr).block < _ from hA)]; exact hc k r h
 have HR : Hid (∀ W, Below w.heap.size w W → ∀ (k : Nat) (r : RowV), l[k]? = some r → r.Lies W) := fun W hW k r h => (hr r (List.mem_of_getElem? h)).below hW
 have HS : Hid (∀ k, manyV (l.take k) ≤ 200) := fun k => Nat.le_trans (manyV_take l k) h1
 have HG : Hid (∀ W, Calls Tryz.prog 182 #[.slice none 0 0, .int .i64 (manyV l)] W fun e w' => ∃ v, e = .returned v ∧ w'.ownsRow W.heap.size 27 1 v 0 [] ∧ Below W.heap.size W w') := fun W => growV2 _ h1 W
 obtain ⟨M, hM⟩ := nm (manyV l)
 rw [← hM] at HG ⊢
 have HM := hide hM
 clear hM hc hr h1 hA
 go_enter Tryz.func150, Tryz.ntmps150
 go_wp2_with fail
 go_loop [3, 5, 11] (fun c _ i => ∃ k : Nat, k ≤ N ∧ i = .int .i64 k ∧ c = .int .i64 (manyV (l.take k))) (fun _ _ i => N - (intOf i).toNat)
 case atStart => exact ⟨0, Nat.zero_le _, rfl, rfl⟩
 case round =>
  obtain ⟨k, hk, rfl, rfl⟩ := hrel
  by_cases hlt : k < N
  ·obtain ⟨r, hr⟩ : ∃ r, l[k]? = some r := ⟨_, List.getElem?_eq_getElem (by have := HN.out; omega)⟩
   have hcell := HC.out w (Below.refl _ _) k r hr
   have HE : Hid (manyV (l.take (k + 1)) = manyV (l.take k) + r.m) := manyV_succ l hr
   have hs1 := HS.out (k + 1)
   rw [HE.out] at hs1
   obtain ⟨S, hS⟩ := nm (manyV (l.take k))
   rw [← hS] at HE hs1 ⊢
   clear hS hr
   obtain ⟨ro, rm, rc, rvs⟩ := r
   simp only at hcell HE hs1
   have q : ¬ ((S : Int) + (rm : Int) < 0) := by omega
   go_wp2
   go_round
   case rel => exact ⟨k + 1, by omega, by go_num, by rw [HE.out]; go_num⟩
   case measure => simp [intOf]; omega
  ·have HE : Hid (manyV (l.take k) = M) := by unfold Hid; rw [List.take_of_length_le (by have := HN.out; omega), HM.out]
   rw [HE.out]
   go_wp2_with fail
   go_at_call 182
   refine (HG.out _).mono ?_
   rintro e w2 ⟨v2, rfl, hown, hb⟩
   obtain ⟨K, hK⟩ := nm w.heap.size
   rw [← hK] at hown hb HC HR
   have HB2 : Hid (Below K w w2 ∧ K ≤ w2.heap.size) := ⟨hb, by have := hb.size; omega⟩
   have HO2 := hide hown
   have HKe := hide (hK.symm)
   clear hb hown hK
   go_wp2_with fail
   go_loopw [6, 8, 27] (fun v _ i wr => ∃ k : Nat, k ≤ N ∧ i = .int .i64 k ∧ wr.ownsRow K 27 1 v (manyV (l.take k)) (allV (l.take k)) ∧ Below K w wr ∧ K ≤ wr.heap.size) (fun _ _ i _ => N - (intOf i).toNat)
   case atStart => exact ⟨0, Nat.zero_le _, rfl, HO2.out, HB2.out.1, HB2.out.2⟩
   case round =>
    obtain ⟨j, hj, rfl, hown, hbel, hKw⟩ := hrel
    by_cases hjl : j < N
    ·obtain ⟨r, hr⟩ : ∃ r, l[j]? = some r := ⟨_, List.getElem?_eq_getElem (by have := HN.out; omega)⟩
     have hcell := HC.out wr hbel j r hr
     have HL := hide (HR.out wr hbel j r hr)
     have HE : Hid (manyV (l.take (j + 1)) = manyV (l.take j) + r.m) := manyV_succ l hr
     have HE2 : Hid (allV (l.take (j + 1)) = allV (l.take j) ++ r.vs) := allV_succ l hr
     have hs1 := HS.out (j + 1)
     rw [HE.out] at hs1
     obtain ⟨S, hS⟩ := nm (manyV (l.take j))
     obtain ⟨XS, hXS⟩ := nm (allV (l.take j))
     rw [← hS] at HE hs1 hown
     rw [← hXS] at HE2 hown
     clear hS hXS hr
     obtain ⟨ro, rm, rc, rvs⟩ := r
     simp only at hcell HE HE2 hs1
     have HOW := hide hown
     have HBW : Hid (Below K w wr ∧ K ≤ wr.heap.size) := ⟨hbel, hKw⟩
     clear hown hbel hKw
     rcases Nat.eq_zero_or_pos rm with hz | hrm
     ·subst hz
      have hvs : rvs = [] := List.eq_nil_of_length_eq_zero (by have := HL.out.1; simpa using this)
      have HO3 : Hid (wr.ownsRow K 27 1 u6 (manyV (l.take (j + 1))) (allV (l.take (j + 1)))) := by
       unfold Hid; rw [HE.out, HE2.out, hvs, List.append_nil, Nat.add_zero]; exact HOW.out
      have hrun : ∀ ty, (Builtin.append_ #[94, 94] ty #[u6, .slice ro 0 rc]).run Tryz.prog wr = .ok u6 wr := fun ty => run_append_nothing Tryz.underlying94 hi HOW.out ro rc
      clear hvs
      go_wp2_with (first | (at_builtin; refine Lib.wpList_append_run _ rfl _ _ _ _ rfl _ _ rfl rfl _ _ (hrun _) ?_))
      go_roundw
      case rel => exact ⟨j + 1, by omega, by go_num, HO3.out, HBW.out.1, HBW.out.2⟩
      case measure => simp [intOf]; omega
     ·obtain ⟨rb, roff, rfl, hB, hcs⟩ : ∃ b off, ro = some ⟨b, off, none⟩ ∧ b < wr.heap.size ∧ ∀ j u, rvs[j]? = some u → wr.cell? ⟨b, off + j, none⟩ = some u := HL.out.2.2.resolve_left (by show ¬ rm = 0; omega)
      have HCs := hide hcs
      clear hcs
      go_wp2_with (first | (at_builtin; refine wpList_append_own _ rfl (.tmp 31) (.tmp 32) 94 rfl K 27 i0 (.slice none 0 0) 1 24 Tryz.underlying94 hi hz0 hz1 hz2 rfl (by decide) u6 S XS rfl HOW.out ⟨rb, roff, none⟩ rm rc rvs rfl HL.out.1 ?a1 HL.out.2.1 ?a3 ?a4 ?a5 ?_))
      case a1 =>
       intro i u hu
       rw [Go.WideShapes.add_plain]
       exact HCs.out i u hu
      case a3 => unfold maxLen; omega
      case a4 => omega
      case a5 => exact HBW.out.2
      intro v' w3 hown' hgrow _
      have HB3 : Hid (Below K w w3 ∧ K ≤ w3.heap.size) := by
       refine ⟨HBW.out.1.grown hgrow HBW.out.2 (fun k hk => (HOW.out.lt k hk).1), ?_⟩
       have := hgrow.size
       have := HBW.out.2
       omega
      have HO3 : Hid (w3.ownsRow K 27 1 v' (manyV (l.take (j + 1))) (allV (l.take (j + 1)))) := by
       unfold Hid; rw [HE.out, HE2.out]; exact hown'
      clear hown' hgrow
      go_wp2
      go_roundw
      case rel => exact ⟨j + 1, by omega, by go_num, HO3.out, HB3.out.1, HB3.out.2⟩
      case measure => simp [intOf]; omega
    ·rw [List.take_of_length_le (by have := HN.out; omega)] at hown
     have HO3 : Hid (wr.ownsRow K 27 1 u6 M (allV l)) := by unfold Hid; rw [HM.out]; exact hown
     have HB3 := hide hbel
     clear hown hbel
     go_wp2
     go_ret
     refine ⟨_, rfl, ?_, ?_⟩
     ·rw [HKe.out]; exact HO3.out
     ·rw [HKe.out]; exact HB3.out
end Go.Proofs.YtjmeakkmfeoigaaGreatDoor
namespace Go.Proofs.YtjmeakkmfeoigaaGreatDoor
open Go.ChangeShapes Go.WideShapes Go.ChangeAt Go.RowKit
open Go.Shelf
set_option maxRecDepth 100000
theorem far_any (x y : Int) (hx : x.natAbs ≤ 6) (hy : y.natAbs ≤ 6) (w : World) :
    Calls Tryz.prog 179 #[.int .i64 x, .int .i64 y] w fun e w' => e = .returned (.int .i64 (farC x y)) ∧ w' = w := by
 have h := AnyG.cmp_Compare_int Tryz.laysCompare x.natAbs y.natAbs w
 change Calls Tryz.prog 180 _ _ _ at h
 have H : Hid (Calls Tryz.prog 180 #[.int .i64 x.natAbs, .int .i64 y.natAbs] w fun e w' => e = .returned (.int .i64 (farC x y)) ∧ w' = w) := h
 clear h
 obtain ⟨R, hR⟩ := nm (farC x y)
 rw [← hR] at H ⊢
 clear hR
 have x1 : -9223372036854775808 ≤ -x := by omega
 have x2 : -x ≤ 9223372036854775807 := by omega
 have y1 : -9223372036854775808 ≤ -y := by omega
 have y2 : -y ≤ 9223372036854775807 := by omega
 have ex : max x (-x) = (x.natAbs : Int) := by omega
 have ey : max y (-y) = (y.natAbs : Int) := by omega
 go_enter Tryz.func179, Tryz.ntmps179
 go_wp2_with (go_at_call 180; refine H.out.mono ?_; rintro e w' ⟨rfl, rfl⟩)
 go_ret
 exact ⟨rfl, rfl⟩
abbrev Mem := { x : Int // x.natAbs ≤ 6 }
instance : Inhabited Mem := ⟨⟨0, by decide⟩⟩
def encM (x : Mem) : Value := .int .i64 x.1
def farM (x y : Mem) : Int := farC x.1 y.1
theorem farM_lt (x y : Mem) : ltOf farM x y = decide (x.1.natAbs < y.1.natAbs) := by
 unfold ltOf farM farC Lib.compareInt
 by_cases h1 : x.1.natAbs < y.1.natAbs
 ·have : (x.1.natAbs : Int) < (y.1.natAbs : Int) := by omega
  simp [h1, this]
 ·have : ¬ (x.1.natAbs : Int) < (y.1.natAbs : Int) := by omega
  by_cases h2 : (y.1.natAbs : Int) < (x.1.natAbs : Int) <;> simp [h1, this, h2]
theorem farM_swo : Sort.SWO (ltOf farM) where
 irrefl x := by rw [farM_lt]; simp
 trans x y z h1 h2 := by rw [farM_lt] at *; simp at *; omega
 ntrans x y z h1 h2 := by rw [farM_lt] at *; simp at *; omega
theorem below_put {α : Type} [Inhabited α] {enc : α → Value} {w : World} {K blk off m : Nat} {d : Array α} (hK : K ≤ blk) : Below K w (Sort.putRow enc (Sort.ahead w m) blk off d) := by
 refine ⟨rfl, rfl, rfl, by simp [Sort.ahead], fun k hk => ?_⟩
 have : blk ≠ k := by omega
 simp [Sort.putRow, Sort.mapBlock, Array.getElem?_modify, this, Sort.ahead]
theorem below_grow {w : World} {K : Nat} {os : Array Obj} (hK : K ≤ w.heap.size) : Below K w (Sort.grow w os) :=
 ⟨rfl, rfl, rfl, by simp, fun k hk => Sort.heap_grow_old w os (by omega)⟩
theorem below_sort {α : Type} [Inhabited α] {enc : α → Value} {w : World} {K blk off m : Nat} {d : Array α} {os : Array Obj} (hK : K ≤ blk) (hs : K ≤ w.heap.size) : Below K w (sortWorld enc w blk off m d os) := by
 unfold sortWorld
 exact (below_put hK).trans (below_grow (by simp [Sort.ahead]; exact hs))
end Go.Proofs.YtjmeakkmfeoigaaGreatDoor