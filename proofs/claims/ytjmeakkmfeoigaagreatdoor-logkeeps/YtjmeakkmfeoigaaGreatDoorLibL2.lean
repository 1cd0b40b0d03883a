/-
  Facts and contracts that the statement leans on.
-/
import Derived.Test.YtjmeakkmfeoigaaGreatDoorLibA5
import Derived.Test.YtjmeakkmfeoigaaGreatDoorLibL1
namespace Go.Proofs.YtjmeakkmfeoigaaGreatDoor
open Go.ChangeShapes Go.WideShapes Go.ChangeAt Go.RowKit
set_option maxRecDepth 100000
def LogRep (p : Addr) (l : Lg) (S : Nat → Prop) (W : World) : Prop :=
 ∃ b ps tail z, p = ⟨b, 0, none⟩ ∧ (∀ x, S x ↔ x = b) ∧ KeptL l ps tail ∧ LeftIs z l.left ∧ Blk W b 63 (lgC l.u (strOf (linesT (ps.map recB) ++ tail)) l.safe z l.stop)
theorem lkeep_own {S : Nat → Prop} {b : Nat} {W W' : World} (hS : ∀ x, S x ↔ x = b) (h : LKeep (fun x => x = b) W W') : LKeep S W W' :=
 ⟨h.os, h.tape, h.output, h.size, fun k hk hs => h.block k hk fun e => hs ((hS k).2 e)⟩
theorem err_is {n : Int} (h : ¬ n = 0) : Ending.returned (.iface 64 (.int .i64 n)) = .returned (errV n) := by unfold errV; rw [if_neg h]
theorem said_fs {l : Lg} {ps : List (At × Bool)} {tail : List UInt8} (k : KeptL l ps tail) (a : At) (h : Bool) : l.fs ++ [aloneF a h] = (ps ++ [(a, h)]).map aloneP := by rw [k.fs, List.map_append]; rfl
theorem logSay_is (w : World) (hK : KindsLaid w) (hL : LibLaid w) (p : Addr) (l : Lg) (S : Nat → Prop) (W : World) (a : At) (h : Bool) (vs vt : Value) (hW : Below w.heap.size w W) (hr : LogRep p l S W) (hs : Reads W vs a.s) (ht : Reads W vt a.t) :
    Calls Tryz.prog 9 #[.pointer (some p), .agg #[.int .i64 a.k, vs, vt, .int .i64 a.n], .bool h] W fun e w' => ∃ n S', (2 ≤ n ∧ n ≤ 1000000) ∧ e = .returned (errV (l.sayE a h)) ∧ LogRep p (l.say a h n) S' w' ∧ LKeep S W w' ∧ Grows S S' W := by
 obtain ⟨b, ps, tail, z, rfl, hS, k, hz, hB⟩ := hr
 have hKW := hK.below hW
 have hLW := hL.below hW
 cases hst : l.stop with
 | true =>
  rw [hst] at hB
  have hs2 := hs
  have ht2 := ht
  obtain ⟨so, sc, rfl, _⟩ := hs2.slice
  obtain ⟨tto, tc, rfl, _⟩ := ht2.slice
  obtain ⟨e1, e2⟩ := say_stopped hst a h
  refine (logSay_off b l.u l.safe z _ a.k a.n so _ sc tto _ tc h W hB).mono ?_
  rintro e w' ⟨rfl, hb⟩
  refine ⟨2, S, by decide, by rw [e1]; exact err_is (by decide), ?_, LKeep.of_below hb, Grows.refl _ _⟩
  rw [e2]
  exact ⟨b, ps, tail, z, rfl, hS, k, hz, by rw [hst]; exact hB.below hb⟩
 | false =>
  obtain rfl := k.go hst
  rw [hst] at hB
  have hlen : l.fs.length = ps.length := by rw [k.fs, List.length_map]
  by_cases ha : a.fault = 0
  ·refine (logSay_go ps k.right k.six a h vs vt ha b l.u l.safe z k.u W hB hs ht hKW hLW).mono ?_
   rintro e w' ⟨hsaid, hkeep⟩
   have hw := wrong_of hst a h
   rw [if_pos ha, said_fs k, hlen] at hw
   rcases hsaid with ⟨h6, rfl, hB'⟩ | ⟨h6, ho, rfl, hB'⟩ | ⟨h6, ho, h0, rfl, hB'⟩ | ⟨h6, ho, h0, rfl, hB'⟩
   ·rw [if_pos h6] at hw
    obtain ⟨e1, e2⟩ := say_no (l := l) (a := a) (h := h) (by rw [hw]; decide)
    refine ⟨2, S, by decide, by rw [e1, hw]; exact err_is (by decide), ?_, lkeep_own hS hkeep, Grows.refl _ _⟩
    rw [e2]
    exact ⟨b, ps, [], z, rfl, hS, k, hz, by rw [hst]; exact hB'⟩
   ·rw [if_neg h6, if_neg (by rw [ho]; decide)] at hw
    obtain ⟨e1, e2⟩ := say_no (l := l) (a := a) (h := h) (by rw [hw]; decide)
    refine ⟨2, S, by decide, by rw [e1, hw]; exact err_is (by decide), ?_, lkeep_own hS hkeep, Grows.refl _ _⟩
    rw [e2]
    exact ⟨b, ps, [], z, rfl, hS, k, hz, by rw [hst]; exact hB'⟩
   ·obtain ⟨e1, e2⟩ := say_stop hst (h := h) ha (by omega) (by rw [said_fs k]; exact ho) (hz.zero.1 h0)
    have hrs := rec_small (q := (a, h)) ha
    have hl1 : (recB (a, h) ++ [10]).length = (recB (a, h)).length + 1 := by simp
    have hl0 : 1 ≤ (recB (a, h)).length := by unfold recB; simp
    refine ⟨((recB (a, h) ++ [10]).length : Int), S, by omega, by rw [e1]; exact err_is (by decide), ?_, lkeep_own hS hkeep, Grows.refl _ _⟩
    rw [e2]
    have kh := k.half (a, h) ha ((recB (a, h) ++ [10]).length / 2) (by omega)
    have ed : (((recB (a, h) ++ [10]).length / 2 : Nat) : Int) = ((recB (a, h) ++ [10]).length : Int) / 2 := by omega
    rw [ed] at kh
    rw [List.take_append_of_le_length (by omega)] at hB'
    exact ⟨b, ps, _, z, rfl, hS, kh, hz, hB'⟩
   ·obtain ⟨e1, e2⟩ := say_ok hst (h := h) ha (by omega) (by rw [said_fs k]; exact ho) (fun e => h0 (hz.zero.2 e))
    have hrs := rec_small (q := (a, h)) ha
    have hl1 : (recB (a, h) ++ [10]).length = (recB (a, h)).length + 1 := by simp
    have hl0 : 1 ≤ (recB (a, h)).length := by unfold recB; simp
    refine ⟨((recB (a, h) ++ [10]).length : Int), S, by omega, by rw [e1]; rfl, ?_, lkeep_own hS hkeep, Grows.refl _ _⟩
    rw [e2]
    have ks := k.said (a, h) ha (by omega) (lessN1 l.left) l.stop
    refine ⟨b, ps ++ [(a, h)], [], stepZ z, rfl, hS, ks, ?_, by rw [hst]; exact hB'⟩
    unfold stepZ
    by_cases hp : 0 < z
    ·rw [if_pos hp]; exact hz.less hp
    ·rw [if_neg hp]; exact hz.never (by omega)
  ·have hw := wrong_of hst a h
   rw [if_neg ha] at hw
   obtain ⟨e1, e2⟩ := say_no (l := l) (a := a) (h := h) (by rw [hw]; exact ha)
   refine (logSay_no b l.u l.safe z _ a h vs vt ha W hB hs ht hKW hLW).mono ?_
   rintro e w' ⟨rfl, hb⟩
   refine ⟨2, S, by decide, by rw [e1, hw]; exact err_is ha, ?_, LKeep.of_below hb, Grows.refl _ _⟩
   rw [e2]
   exact ⟨b, ps, [], z, rfl, hS, k, hz, by rw [hst]; exact hB.below hb⟩
theorem logSync_is (p : Addr) (l : Lg) (S : Nat → Prop) (W : World) (hr : LogRep p l S W) :
    Calls Tryz.prog 11 #[.pointer (some p)] W fun e w' => ∃ S', e = .returned (errV l.syncE) ∧ LogRep p l.sync S' w' ∧ LKeep S W w' ∧ Grows S S' W := by
 obtain ⟨b, ps, tail, z, rfl, hS, k, hz, hB⟩ := hr
 cases hst : l.stop with
 | true =>
  rw [hst] at hB
  refine (logSync_off b l.u l.safe z _ W hB).mono ?_
  rintro e w' ⟨rfl, rfl⟩
  have e1 : l.syncE = 6 := if_pos hst
  have e2 : l.sync = l := if_pos hst
  refine ⟨S, by rw [e1]; exact err_is (by decide), ?_, LKeep.refl _ _, Grows.refl _ _⟩
  rw [e2]
  exact ⟨b, ps, tail, z, rfl, hS, k, hz, by rw [hst]; exact hB⟩
 | false =>
  obtain rfl := k.go hst
  rw [hst] at hB
  have hn : ¬ l.stop = true := by rw [hst]; decide
  refine (logSync_on b l.u l.safe z _ W hB).mono ?_
  rintro e w' (⟨h0, rfl, hB', hkeep⟩ | ⟨h0, rfl, hB', hkeep⟩)
  ·have hl := hz.zero.1 h0
   have e1 : l.syncE = 6 := by unfold Lg.syncE; rw [if_neg hn, if_pos hl]
   have e2 : l.sync = { l with stop := true } := by unfold Lg.sync; rw [if_neg hn, if_pos hl]
   refine ⟨S, by rw [e1]; exact err_is (by decide), ?_, lkeep_own hS hkeep, Grows.refl _ _⟩
   rw [e2]
   exact ⟨b, ps, [], z, rfl, hS, ⟨k.u, k.six, k.right, k.plain, k.small, fun h => (by cases h), k.fs, k.ends, k.bytes, k.safe⟩, hz, hB'⟩
  ·have hl : ¬ l.left = 0 := fun h => h0 (hz.zero.2 h)
   have e1 : l.syncE = 0 := by unfold Lg.syncE; rw [if_neg hn, if_neg hl]
   have e2 : l.sync = { l with safe := l.bytes, left := lessN1 l.left } := by unfold Lg.sync; rw [if_neg hn, if_neg hl]
   have hsz : ((strOf (linesT (ps.map recB) ++ [])).size : Int) = l.bytes := by rw [strOf_size, k.bytes]
   refine ⟨S, by rw [e1]; rfl, ?_, lkeep_own hS hkeep, Grows.refl _ _⟩
   rw [e2]
   rw [hsz] at hB'
   refine ⟨b, ps, [], stepZ z, rfl, hS, ⟨k.u, k.six, k.right, k.plain, k.small, fun _ => rfl, k.fs, k.ends, k.bytes, ⟨Int.le_trans k.safe.1 k.safe.2, Int.le_refl _⟩⟩, ?_, by rw [hst]; exact hB'⟩
   unfold stepZ
   by_cases hp : 0 < z
   ·rw [if_pos hp]; exact hz.less hp
   ·rw [if_neg hp]; exact hz.never (by omega)
theorem logCrash_is (p : Addr) (l : Lg) (S : Nat → Prop) (W : World) (n : Int) (hr : LogRep p l S W) :
    Calls Tryz.prog 12 #[.pointer (some p), .int .i64 n] W fun e w' => ∃ S', (∃ v, e = .returned v) ∧ LogRep p (l.crash n) S' w' ∧ LKeep S W w' ∧ Grows S S' W := by
 obtain ⟨b, ps, tail, z, rfl, hS, k, hz, hB⟩ := hr
 have hlen := k.len
 have hsz : ((strOf (linesT (ps.map recB) ++ tail)).size : Int) = l.bytes := by rw [strOf_size, k.bytes]
 have hs := k.safe
 obtain ⟨s, hs'⟩ := Int.eq_ofNat_of_zero_le hs.1
 obtain ⟨kn, hkn⟩ : ∃ kn : Nat, (kn : Int) = if n < 0 then 0 else if n < ((strOf (linesT (ps.map recB) ++ tail)).size : Int) - (s : Int) then n else ((strOf (linesT (ps.map recB) ++ tail)).size : Int) - (s : Int) := by
  refine ⟨(if n < 0 then 0 else if n < ((strOf (linesT (ps.map recB) ++ tail)).size : Int) - (s : Int) then n else ((strOf (linesT (ps.map recB) ++ tail)).size : Int) - (s : Int)).toNat, Int.toNat_of_nonneg ?_⟩
  split
  ·omega
  ·split <;> omega
 have hhigh : l.high n = ((s + kn : Nat) : Int) := by
  unfold Lg.high
  rw [hsz] at hkn
  by_cases h0 : n < 0
  ·rw [if_pos h0] at hkn
   rw [if_neg (by omega)]; omega
  ·rw [if_neg h0] at hkn
   by_cases h1 : n < l.bytes - (s : Int)
   ·rw [if_pos h1] at hkn
    by_cases h2 : 0 < n
    ·rw [if_pos h2, if_pos (by omega)]; omega
    ·rw [if_neg h2]; omega
   ·rw [if_neg h1] at hkn
    by_cases h2 : 0 < n
    ·rw [if_pos h2, if_neg (by omega)]; omega
    ·rw [if_neg h2]; omega
 obtain ⟨r, hcut, hpl⟩ := cut_whole (ps.map recB) tail (s + kn) k.lines k.plain
 obtain ⟨kc, hsafe⟩ := k.crash n (wholeL (ps.map recB) (s + kn)) (by rw [hhigh]; rfl)
 obtain ⟨m, hm⟩ := nm (wholeL (ps.map recB) (s + kn))
 rw [← hm] at hcut kc hsafe
 have hT : strOf (linesT ((ps.map recB).take m)) = strOf (linesT ((ps.take m).map recB) ++ []) := by rw [List.map_take, List.append_nil]
 have hcl : (linesT ((ps.map recB).take m) ++ r).length ≤ 1000 := by
  rw [← hcut, List.length_take]; omega
 have hTz : (strOf (linesT ((ps.map recB).take m))).size ≤ 1000000 := by
  rw [strOf_size]; rw [List.length_append] at hcl; omega
 rw [hs'] at hB
 refine (logCrash_any b l.u z n s kn _ (strOf (linesT ((ps.map recB).take m))) l.stop W hB (by omega) (by rw [strOf_size]; omega) hkn hTz (fun X => ?_)).mono ?_
 ·have e : (strOf (linesT (ps.map recB) ++ tail)).extract 0 (s + kn) = strOf (linesT ((ps.map recB).take m) ++ r) := by rw [strOf_take, hcut]
  rw [e]
  exact logWhole_any _ r hpl (by omega) X
 ·rintro e w' ⟨hv, hB', hkeep⟩
  refine ⟨S, hv, ⟨b, ps.take m, [], -1, rfl, hS, kc, Or.inl ⟨by decide, by show (-1 : Int) < 0; decide⟩, ?_⟩, lkeep_own hS hkeep, Grows.refl _ _⟩
  have e1 : ((strOf (linesT ((ps.map recB).take m))).size : Int) = (l.crash n).safe := by rw [hsafe, strOf_size, List.map_take]
  rw [e1, hT] at hB'
  exact hB'
theorem logOk_is (w : World) (hK : KindsLaid w) (hL : LibLaid w) : LogOk w LogRep where
 same := by
  rintro p l S W W' ⟨b, ps, tail, z, rfl, hS, k, hz, hB⟩ hsz hs
  exact ⟨b, ps, tail, z, rfl, hS, k, hz, by unfold Blk; rw [hs b ((hS b).2 rfl)]; exact hB⟩
 lt := by
  rintro p l S W ⟨b, ps, tail, z, rfl, hS, k, hz, hB⟩ x hx
  obtain rfl := (hS x).1 hx
  exact hB.lt
 new := fun u W hW hu => (logNew_ok u hu W).mono fun e w' ⟨h1, h2⟩ => by
  subst h2
  refine ⟨⟨W.heap.size, 0, none⟩, fun x => x = W.heap.size, h1, ⟨W.heap.size, [], [], -1, rfl, fun x => Iff.rfl, keptL_0 hu, Or.inl ⟨by decide, by show (-1 : Int) < 0; decide⟩, ?_⟩, fun b hb => by rw [hb]; exact Nat.le_refl _, below_alloc1 _ _⟩
  exact Blk.new W 63 (lgC u ⟨#[]⟩ 0 (-1) false)
 newE := fun u W hW hu => (logNew_no u hu W).mono fun e w' ⟨h1, h2⟩ => ⟨none, h1, by rw [h2]; exact Below.refl _ _⟩
 say := fun p l S W a h vs vt hW hr hs ht => logSay_is w hK hL p l S W a h vs vt hW hr hs ht
 sync := fun p l S W _ hr => logSync_is p l S W hr
 fail := by
  rintro p l S W n hW ⟨b, ps, tail, z, rfl, hS, k, hz, hB⟩
  refine (logFail_any b l.u l.safe z _ l.stop n W hB).mono ?_
  rintro e w' ⟨hv, hB', hkeep⟩
  exact ⟨S, hv, ⟨b, ps, tail, n, rfl, hS, ⟨k.u, k.six, k.right, k.plain, k.small, k.go, k.fs, k.ends, k.bytes, k.safe⟩, LeftIs.fail n, hB'⟩, lkeep_own hS hkeep, Grows.refl _ _⟩
 crash := fun p l S W n _ hr => logCrash_is p l S W n hr
 all := by
  rintro p l S W hW ⟨b, ps, tail, z, rfl, hS, k, hz, hB⟩
  refine (logAll_any ps k.right k.six tail k.plain k.small b l.u l.safe z l.stop W hB (hK.below hW) (hL.below hW)).mono ?_
  rintro e w' ⟨v, rfl, hm, hb⟩
  exact ⟨v, rfl, by rw [k.fs]; exact hm.reads, ⟨b, ps, tail, z, rfl, hS, k, hz, hB.below hb⟩, hb⟩
 openS := by
  rintro p l S W hW ⟨b, ps, tail, z, rfl, hS, k, hz, hB⟩
  refine (logOpenM_any ps k.right k.six tail k.plain k.small b l.u l.safe z k.u l.stop W hB (hK.below hW) (hL.below hW)).mono ?_
  rintro e w' ⟨rfl, hb⟩
  exact ⟨by unfold Lg.openB; rw [k.fs], ⟨b, ps, tail, z, rfl, hS, k, hz, hB.below hb⟩, hb⟩
 bytes := by
  rintro p l S W hW ⟨b, ps, tail, z, rfl, hS, k, hz, hB⟩
  refine (logBytes_any b l.u l.safe z _ l.stop W hB).mono ?_
  rintro e w' ⟨rfl, rfl⟩
  exact ⟨by rw [strOf_size, k.bytes], ⟨b, ps, tail, z, rfl, hS, k, hz, hB⟩, Below.refl _ _⟩
 safe := by
  rintro p l S W hW ⟨b, ps, tail, z, rfl, hS, k, hz, hB⟩
  refine (logSafe_any b l.u l.safe z _ l.stop W hB).mono ?_
  rintro e w' ⟨rfl, rfl⟩
  exact ⟨rfl, ⟨b, ps, tail, z, rfl, hS, k, hz, hB⟩, Below.refl _ _⟩
end Go.Proofs.YtjmeakkmfeoigaaGreatDoor