/-
  Facts and contracts that the statement leans on.
-/
import Derived.Test.YtjmeakkmfeoigaaGreatDoorLibT28
import Derived.Test.YtjmeakkmfeoigaaGreatDoorLibT29
import Derived.Deep.CutRange
import Derived.Test.YtjmeakkmfeoigaaGreatDoorLibT8
import Derived.Test.YtjmeakkmfeoigaaGreatDoorLibT31
import Derived.Test.YtjmeakkmfeoigaaGreatDoorRows
import Derived.Test.YtjmeakkmfeoigaaGreatDoorLibT9
import Derived.ProofKit
import Derived.OpenShut
import Derived.LaidLaws
import Derived.Stop.LaidErr
import Derived.Deep.Strs
import Derived.Test.YtjmeakkmfeoigaaGreatDoorLibT23
import Derived.Lib.LaidTab
import Derived.LaidMore
import Derived.Lay
import Derived.LaidHandle
import Derived.Stop.Joined
import Derived.Test.YtjmeakkmfeoigaaGreatDoorLibT10
import Derived.Test.YtjmeakkmfeoigaaGreatDoorLibT7
import Derived.Carry
import Derived.Lib.SmallJoins
import Derived.Deep.Slices
namespace Go.Proofs.YtjmeakkmfeoigaaGreatDoor
open Go.ChangeShapes Go.WideShapes Go.ChangeAt Go.RowKit
set_option maxRecDepth 100000
set_option maxHeartbeats 4000000 in
theorem logCrash_any (b : Nat) (u z keep : Int) (s k : Nat) (r T : ByteArray) (st : Bool) (w : World) (h : Blk w b 63 (lgC u r (s : Int) z st)) (hsr : s ≤ r.size) (hr : r.size ≤ 1000000)
    (hk : (k : Int) = if keep < 0 then 0 else if keep < (r.size : Int) - (s : Int) then keep else (r.size : Int) - (s : Int)) (hT : T.size ≤ 1000000)
    (hW : ∀ W, Calls Tryz.prog 33 #[.string (r.extract 0 (s + k))] W (Sk W (.string T))) :
    Calls Tryz.prog 12 #[.pointer (some ⟨b, 0, none⟩), .int .i64 keep] w fun e w' => (∃ v, e = .returned v) ∧ Blk w' b 63 (lgC u T (T.size : Int) (-1) false) ∧ LKeep (fun x => x = b) w w' := by
 have HB : Hid (Blk w b 63 (lgC u r (s : Int) z st)) := h
 have HW : Hid (∀ (m : Nat) W, m = s + k → Calls Tryz.prog 33 #[.string (r.extract 0 m)] W (Sk W (.string T))) := fun m W h => by rw [h]; exact hW W
 have c1 : w.drew.cell? ⟨b, 1, none⟩ = some (.string r) := h.cell 1
 have c2 : w.drew.cell? ⟨b, 2, none⟩ = some (.int .i64 (s : Int)) := h.cell 2
 have d1 : w.cell? ⟨b, 1, none⟩ = some (.string r) := h.cell 1
 have d2 : w.cell? ⟨b, 2, none⟩ = some (.int .i64 (s : Int)) := h.cell 2
 clear h hW
 go_enter Tryz.func12, Tryz.ntmps12
 have hkn : (s : Int) + (k : Int) ≤ (r.size : Int) := by
  have : (s : Int) ≤ (r.size : Int) := by omega
  rw [hk]; split
  ·omega
  ·split <;> omega
 have HMin : Hid (min (max keep 0) ((r.size : Int) - (s : Int)) = (k : Int)) := by
  unfold Hid
  have : (s : Int) ≤ (r.size : Int) := by omega
  rw [hk]; split
  ·omega
  ·split <;> omega
 clear hk
 go_upto_region 0 with fail
 go_cut [4] from 5 to 18 (fun x wx => x = .int .i64 (k : Int) ∧ wx = w.drew)
 case first =>
  go_region
  all_goals (try go_wp2)
  all_goals go_meet
  all_goals exact ⟨by rw [HMin.out], rfl⟩
 case rest =>
 obtain ⟨rfl, h1⟩ := hcut
 subst h1
 have e1 : w.drew.drew.cell? ⟨b, 1, none⟩ = some (.string r) := c1
 have e2 : w.drew.drew.cell? ⟨b, 2, none⟩ = some (.int .i64 (s : Int)) := c2
 have f1 : w.drew.drew.frozen? ⟨b, 1, none⟩ = false := HB.out.frozen 1
 have h0 : (0 : Int) ≤ (s : Int) + (k : Int) := by omega
 have hr' : (r.size : Int) ≤ 1000000 := by omega
 have hw : IntKind.i64.wrap ((s : Int) + (k : Int)) = (s : Int) + (k : Int) := by rw [IntKind.wrap_i64]; omega
 have HT : Hid ((T.size : Int) ≤ 1000000) := by unfold Hid; omega
 clear d1 d2 c1 c2 hT HMin
 go_upto_region 1 with fail
 go_cut [4] from 5 to 33 (fun x wx => x = .int .i64 (k : Int) ∧ wx = w.drew.drew.setCell ⟨b, 1, none⟩ (.string T))
 case first =>
  go_region_with (go_at_call 33; refine (HW.out _ _ (by omega)).mono ?_; rintro e w5 ⟨rfl, rfl⟩)
  all_goals (try go_wp2)
  all_goals go_meet
  all_goals exact ⟨rfl, rfl⟩
 case rest =>
 obtain ⟨rfl, h1⟩ := hcut
 obtain ⟨w3, hw3⟩ := nm (w.drew.drew.setCell ⟨b, 1, none⟩ (.string T))
 rw [← hw3] at h1
 have H3 : Hid (Blk w3 b 63 (lgC u T (s : Int) z st)) := by unfold Hid; rw [hw3]; exact HB.out.drew.drew.set 1 _
 have HL3 : Hid (LKeep (fun x => x = b) w w3) := by unfold Hid; rw [hw3]; exact lkeep_set (lkeep_drew (lkeep_drew (LKeep.refl _ _))) 1 _
 subst wc
 clear hw3 e1 e2 f1
 have g1 : w3.cell? ⟨b, 1, none⟩ = some (.string T) := H3.out.cell 1
 have g2 : w3.cell? ⟨b, 2, none⟩ = some (.int .i64 (s : Int)) := H3.out.cell 2
 have g3 : w3.cell? ⟨b, 3, none⟩ = some (.int .i64 z) := H3.out.cell 3
 have g4 : w3.cell? ⟨b, 4, none⟩ = some (.bool st) := H3.out.cell 4
 have z2 : w3.frozen? ⟨b, 2, none⟩ = false := H3.out.frozen 2
 have z3 : w3.frozen? ⟨b, 3, none⟩ = false := H3.out.frozen 3
 have z4 : w3.frozen? ⟨b, 4, none⟩ = false := H3.out.frozen 4
 go_wp2
 go_end0
 exact ⟨⟨_, rfl⟩, ((H3.out.set 2 _).set 3 _).set 4 _, lkeep_set (lkeep_set (lkeep_set HL3.out 2 _) 3 _) 4 _⟩
end Go.Proofs.YtjmeakkmfeoigaaGreatDoor
namespace Go.Proofs.YtjmeakkmfeoigaaGreatDoor
open Go.ChangeShapes Go.WideShapes Go.ChangeAt Go.RowKit
set_option maxRecDepth 100000
def LogRep (p : Addr) (l : Lg) (S : Nat → Prop) (W : World) : Prop :=
 ∃ b ps tail z, p = ⟨b, 0, none⟩ ∧ (∀ x, S x ↔ x = b) ∧ KeptL l ps tail ∧ LeftIs z l.left ∧ Blk W b 63 (lgC l.u (strOf (linesT (ps.map recB) ++ tail)) l.safe z l.stop)
theorem lkeep_own {S : Nat → Prop} {b : Nat} {W W' : World} (hS : ∀ x, S x ↔ x = b) (h : LKeep (fun x => x = b) W W') : LKeep S W W' :=
 ⟨h.os, h.tape, h.output, h.size, fun k hk hs => h.block k hk fun e => hs ((hS k).2 e)⟩
theorem err_is {n : Int} (h : ¬ n = 0) : Ending.returned (.iface 64 (.int .i64 n)) = .returned (errV n) := by unfold errV; rw [if_neg h]
theorem said_fs {l : Lg} {ps : List (At × Bool)} {tail : List UInt8} (k : KeptL l ps tail) (a : At) (h : Bool) : l.fs ++ [aloneF a h] = (ps ++ [(a, h)]).map aloneP := by rw [k.fs, List.map_append]; rfl
theorem logSay_is (w : World) (hK : KindsLaid w) (hL : LibLaid w) (p : Addr) (l : Lg) (S : Nat → Prop) (W : World) (a : At) (h : Bool) (vs vt : Value) (hW : Below w.heap.size w W) (hr : LogRep p l S W) (hs : Reads W vs a.s) (ht : Reads W vt a.t) :
    Calls Tryz.prog 9 #[.pointer (some p), .agg #[.int .i64 a.k, vs, vt, .int .i64 a.n], .bool h] W fun e w' => ∃ n S', (2 ≤ n ∧ n ≤ 1000000) ∧ e = .returned (errV (l.sayE a h)) ∧ LogRep p (l.say a h n) S' w' ∧ LKeep S W w' ∧ Grows S S' W := by
 obtain ⟨b, ps, tail, z, rfl, hS, k, hz, hB⟩ := hr
 have hKW := hK.below hW
 have hLW := hL.below hW
 cases hst : l.stop with
 | true =>
  rw [hst] at hB
  have hs2 := hs
  have ht2 := ht
  obtain ⟨so, sc, rfl, _⟩ := hs2.slice
  obtain ⟨tto, tc, rfl, _⟩ := ht2.slice
  obtain ⟨e1, e2⟩ := say_stopped hst a h
  refine (logSay_off b l.u l.safe z _ a.k a.n so _ sc tto _ tc h W hB).mono ?_
  rintro e w' ⟨rfl, hb⟩
  refine ⟨2, S, by decide, by rw [e1]; exact err_is (by decide), ?_, LKeep.of_below hb, Grows.refl _ _⟩
  rw [e2]
  exact ⟨b, ps, tail, z, rfl, hS, k, hz, by rw [hst]; exact hB.below hb⟩
 | false =>
  obtain rfl := k.go hst
  rw [hst] at hB
  have hlen : l.fs.length = ps.length := by rw [k.fs, List.length_map]
  by_cases ha : a.fault = 0
  ·refine (logSay_go ps k.right k.six a h vs vt ha b l.u l.safe z k.u W hB hs ht hKW hLW).mono ?_
   rintro e w' ⟨hsaid, hkeep⟩
   have hw := wrong_of hst a h
   rw [if_pos ha, said_fs k, hlen] at hw
   rcases hsaid with ⟨h6, rfl, hB'⟩ | ⟨h6, ho, rfl, hB'⟩ | ⟨h6, ho, h0, rfl, hB'⟩ | ⟨h6, ho, h0, rfl, hB'⟩
   ·rw [if_pos h6] at hw
    obtain ⟨e1, e2⟩ := say_no (l := l) (a := a) (h := h) (by rw [hw]; decide)
    refine ⟨2, S, by decide, by rw [e1, hw]; exact err_is (by decide), ?_, lkeep_own hS hkeep, Grows.refl _ _⟩
    rw [e2]
    exact ⟨b, ps, [], z, rfl, hS, k, hz, by rw [hst]; exact hB'⟩
   ·rw [if_neg h6, if_neg (by rw [ho]; decide)] at hw
    obtain ⟨e1, e2⟩ := say_no (l := l) (a := a) (h := h) (by rw [hw]; decide)
    refine ⟨2, S, by decide, by rw [e1, hw]; exact err_is (by decide), ?_, lkeep_own hS hkeep, Grows.refl _ _⟩
    rw [e2]
    exact ⟨b, ps, [], z, rfl, hS, k, hz, by rw [hst]; exact hB'⟩
   ·obtain ⟨e1, e2⟩ := say_stop hst (h := h) ha (by omega) (by rw [said_fs k]; exact ho) (hz.zero.1 h0)
    have hrs := rec_small (q := (a, h)) ha
    have hl1 : (recB (a, h) ++ [10]).length = (recB (a, h)).length + 1 := by simp
    have hl0 : 1 ≤ (recB (a, h)).length := by unfold recB; simp
    refine ⟨((recB (a, h) ++ [10]).length : Int), S, by omega, by rw [e1]; exact err_is (by decide), ?_, lkeep_own hS hkeep, Grows.refl _ _⟩
    rw [e2]
    have kh := k.half (a, h) ha ((recB (a, h) ++ [10]).length / 2) (by omega)
    have ed : (((recB (a, h) ++ [10]).length / 2 : Nat) : Int) = ((recB (a, h) ++ [10]).length : Int) / 2 := by omega
    rw [ed] at kh
    rw [List.take_append_of_le_length (by omega)] at hB'
    exact ⟨b, ps, _, z, rfl, hS, kh, hz, hB'⟩
   ·obtain ⟨e1, e2⟩ := say_ok hst (h := h) ha (by omega) (by rw [said_fs k]; exact ho) (fun e => h0 (hz.zero.2 e))
    have hrs := rec_small (q := (a, h)) ha
    have hl1 : (recB (a, h) ++ [10]).length = (recB (a, h)).length + 1 := by simp
    have hl0 : 1 ≤ (recB (a, h)).length := by unfold recB; simp
    refine ⟨((recB (a, h) ++ [10]).length : Int), S, by omega, by rw [e1]; rfl, ?_, lkeep_own hS hkeep, Grows.refl _ _⟩
    rw [e2]
    have ks := k.said (a, h) ha (by omega) (lessN1 l.left) l.stop
    refine ⟨b, ps ++ [(a, h)], [], stepZ z, rfl, hS, ks, ?_, by rw [hst]; exact hB'⟩
    unfold stepZ
    by_cases hp : 0 < z
    ·rw [if_pos hp]; exact hz.less hp
    ·rw [if_neg hp]; exact hz.never (by omega)
  ·have hw := wrong_of hst a h
   rw [if_neg ha] at hw
   obtain ⟨e1, e2⟩ := say_no (l := l) (a := a) (h := h) (by rw [hw]; exact ha)
   refine (logSay_no b l.u l.safe z _ a h vs vt ha W hB hs ht hKW hLW).mono ?_
   rintro e w' ⟨rfl, hb⟩
   refine ⟨2, S, by decide, by rw [e1, hw]; exact err_is ha, ?_, LKeep.of_below hb, Grows.refl _ _⟩
   rw [e2]
   exact ⟨b, ps, [], z, rfl, hS, k, hz, by rw [hst]; exact hB.below hb⟩
theorem logSync_is (p : Addr) (l : Lg) (S : Nat → Prop) (W : World) (hr : LogRep p l S W) :
    Calls Tryz.prog 11 #[.pointer (some p)] W fun e w' => ∃ S', e = .returned (errV l.syncE) ∧ LogRep p l.sync S' w' ∧ LKeep S W w' ∧ Grows S S' W := by
 obtain ⟨b, ps, tail, z, rfl, hS, k, hz, hB⟩ := hr
 cases hst : l.stop with
 | true =>
  rw [hst] at hB
  refine (logSync_off b l.u l.safe z _ W hB).mono ?_
  rintro e w' ⟨rfl, rfl⟩
  have e1 : l.syncE = 6 := if_pos hst
  have e2 : l.sync = l := if_pos hst
  refine ⟨S, by rw [e1]; exact err_is (by decide), ?_, LKeep.refl _ _, Grows.refl _ _⟩
  rw [e2]
  exact ⟨b, ps, tail, z, rfl, hS, k, hz, by rw [hst]; exact hB⟩
 | false =>
  obtain rfl := k.go hst
  rw [hst] at hB
  have hn : ¬ l.stop = true := by rw [hst]; decide
  refine (logSync_on b l.u l.safe z _ W hB).mono ?_
  rintro e w' (⟨h0, rfl, hB', hkeep⟩ | ⟨h0, rfl, hB', hkeep⟩)
  ·have hl := hz.zero.1 h0
   have e1 : l.syncE = 6 := by unfold Lg.syncE; rw [if_neg hn, if_pos hl]
   have e2 : l.sync = { l with stop := true } := by unfold Lg.sync; rw [if_neg hn, if_pos hl]
   refine ⟨S, by rw [e1]; exact err_is (by decide), ?_, lkeep_own hS hkeep, Grows.refl _ _⟩
   rw [e2]
   exact ⟨b, ps, [], z, rfl, hS, ⟨k.u, k.six, k.right, k.plain, k.small, fun h => (by cases h), k.fs, k.ends, k.bytes, k.safe⟩, hz, hB'⟩
  ·have hl : ¬ l.left = 0 := fun h => h0 (hz.zero.2 h)
   have e1 : l.syncE = 0 := by unfold Lg.syncE; rw [if_neg hn, if_neg hl]
   have e2 : l.sync = { l with safe := l.bytes, left := lessN1 l.left } := by unfold Lg.sync; rw [if_neg hn, if_neg hl]
   have hsz : ((strOf (linesT (ps.map recB) ++ [])).size : Int) = l.bytes := by rw [strOf_size, k.bytes]
   refine ⟨S, by rw [e1]; rfl, ?_, lkeep_own hS hkeep, Grows.refl _ _⟩
   rw [e2]
   rw [hsz] at hB'
   refine ⟨b, ps, [], stepZ z, rfl, hS, ⟨k.u, k.six, k.right, k.plain, k.small, fun _ => rfl, k.fs, k.ends, k.bytes, ⟨Int.le_trans k.safe.1 k.safe.2, Int.le_refl _⟩⟩, ?_, by rw [hst]; exact hB'⟩
   unfold stepZ
   by_cases hp : 0 < z
   ·rw [if_pos hp]; exact hz.less hp
   ·rw [if_neg hp]; exact hz.never (by omega)
theorem logCrash_is (p : Addr) (l : Lg) (S : Nat → Prop) (W : World) (n : Int) (hr : LogRep p l S W) :
    Calls Tryz.prog 12 #[.pointer (some p), .int .i64 n] W fun e w' => ∃ S', (∃ v, e = .returned v) ∧ LogRep p (l.crash n) S' w' ∧ LKeep S W w' ∧ Grows S S' W := by
 obtain ⟨b, ps, tail, z, rfl, hS, k, hz, hB⟩ := hr
 have hlen := k.len
 have hsz : ((strOf (linesT (ps.map recB) ++ tail)).size : Int) = l.bytes := by rw [strOf_size, k.bytes]
 have hs := k.safe
 obtain ⟨s, hs'⟩ := Int.eq_ofNat_of_zero_le hs.1
 obtain ⟨kn, hkn⟩ : ∃ kn : Nat, (kn : Int) = if n < 0 then 0 else if n < ((strOf (linesT (ps.map recB) ++ tail)).size : Int) - (s : Int) then n else ((strOf (linesT (ps.map recB) ++ tail)).size : Int) - (s : Int) := by
  refine ⟨(if n < 0 then 0 else if n < ((strOf (linesT (ps.map recB) ++ tail)).size : Int) - (s : Int) then n else ((strOf (linesT (ps.map recB) ++ tail)).size : Int) - (s : Int)).toNat, Int.toNat_of_nonneg ?_⟩
  split
  ·omega
  ·split <;> omega
 have hhigh : l.high n = ((s + kn : Nat) : Int) := by
  unfold Lg.high
  rw [hsz] at hkn
  by_cases h0 : n < 0
  ·rw [if_pos h0] at hkn
   rw [if_neg (by omega)]; omega
  ·rw [if_neg h0] at hkn
   by_cases h1 : n < l.bytes - (s : Int)
   ·rw [if_pos h1] at hkn
    by_cases h2 : 0 < n
    ·rw [if_pos h2, if_pos (by omega)]; omega
    ·rw [if_neg h2]; omega
   ·rw [if_neg h1] at hkn
    by_cases h2 : 0 < n
    ·rw [if_pos h2, if_neg (by omega)]; omega
    ·rw [if_neg h2]; omega
 obtain ⟨r, hcut, hpl⟩ := cut_whole (ps.map recB) tail (s + kn) k.lines k.plain
 obtain ⟨kc, hsafe⟩ := k.crash n (wholeL (ps.map recB) (s + kn)) (by rw [hhigh]; rfl)
 obtain ⟨m, hm⟩ := nm (wholeL (ps.map recB) (s + kn))
 rw [← hm] at hcut kc hsafe
 have hT : strOf (linesT ((ps.map recB).take m)) = strOf (linesT ((ps.take m).map recB) ++ []) := by rw [List.map_take, List.append_nil]
 have hcl : (linesT ((ps.map recB).take m) ++ r).length ≤ 1000 := by
  rw [← hcut, List.length_take]; omega
 have hTz : (strOf (linesT ((ps.map recB).take m))).size ≤ 1000000 := by
  rw [strOf_size]; rw [List.length_append] at hcl; omega
 rw [hs'] at hB
 refine (logCrash_any b l.u z n s kn _ (strOf (linesT ((ps.map recB).take m))) l.stop W hB (by omega) (by rw [strOf_size]; omega) hkn hTz (fun X => ?_)).mono ?_
 ·have e : (strOf (linesT (ps.map recB) ++ tail)).extract 0 (s + kn) = strOf (linesT ((ps.map recB).take m) ++ r) := by rw [strOf_take, hcut]
  rw [e]
  exact logWhole_any _ r hpl (by omega) X
 ·rintro e w' ⟨hv, hB', hkeep⟩
  refine ⟨S, hv, ⟨b, ps.take m, [], -1, rfl, hS, kc, Or.inl ⟨by decide, by show (-1 : Int) < 0; decide⟩, ?_⟩, lkeep_own hS hkeep, Grows.refl _ _⟩
  have e1 : ((strOf (linesT ((ps.map recB).take m))).size : Int) = (l.crash n).safe := by rw [hsafe, strOf_size, List.map_take]
  rw [e1, hT] at hB'
  exact hB'
theorem logOk_is (w : World) (hK : KindsLaid w) (hL : LibLaid w) : LogOk w LogRep where
 same := by
  rintro p l S W W' ⟨b, ps, tail, z, rfl, hS, k, hz, hB⟩ hsz hs
  exact ⟨b, ps, tail, z, rfl, hS, k, hz, by unfold Blk; rw [hs b ((hS b).2 rfl)]; exact hB⟩
 lt := by
  rintro p l S W ⟨b, ps, tail, z, rfl, hS, k, hz, hB⟩ x hx
  obtain rfl := (hS x).1 hx
  exact hB.lt
 new := fun u W hW hu => (logNew_ok u hu W).mono fun e w' ⟨h1, h2⟩ => by
  subst h2
  refine ⟨⟨W.heap.size, 0, none⟩, fun x => x = W.heap.size, h1, ⟨W.heap.size, [], [], -1, rfl, fun x => Iff.rfl, keptL_0 hu, Or.inl ⟨by decide, by show (-1 : Int) < 0; decide⟩, ?_⟩, fun b hb => by rw [hb]; exact Nat.le_refl _, below_alloc1 _ _⟩
  exact Blk.new W 63 (lgC u ⟨#[]⟩ 0 (-1) false)
 newE := fun u W hW hu => (logNew_no u hu W).mono fun e w' ⟨h1, h2⟩ => ⟨none, h1, by rw [h2]; exact Below.refl _ _⟩
 say := fun p l S W a h vs vt hW hr hs ht => logSay_is w hK hL p l S W a h vs vt hW hr hs ht
 sync := fun p l S W _ hr => logSync_is p l S W hr
 fail := by
  rintro p l S W n hW ⟨b, ps, tail, z, rfl, hS, k, hz, hB⟩
  refine (logFail_any b l.u l.safe z _ l.stop n W hB).mono ?_
  rintro e w' ⟨hv, hB', hkeep⟩
  exact ⟨S, hv, ⟨b, ps, tail, n, rfl, hS, ⟨k.u, k.six, k.right, k.plain, k.small, k.go, k.fs, k.ends, k.bytes, k.safe⟩, LeftIs.fail n, hB'⟩, lkeep_own hS hkeep, Grows.refl _ _⟩
 crash := fun p l S W n _ hr => logCrash_is p l S W n hr
 all := by
  rintro p l S W hW ⟨b, ps, tail, z, rfl, hS, k, hz, hB⟩
  refine (logAll_any ps k.right k.six tail k.plain k.small b l.u l.safe z l.stop W hB (hK.below hW) (hL.below hW)).mono ?_
  rintro e w' ⟨v, rfl, hm, hb⟩
  exact ⟨v, rfl, by rw [k.fs]; exact hm.reads, ⟨b, ps, tail, z, rfl, hS, k, hz, hB.below hb⟩, hb⟩
 openS := by
  rintro p l S W hW ⟨b, ps, tail, z, rfl, hS, k, hz, hB⟩
  refine (logOpenM_any ps k.right k.six tail k.plain k.small b l.u l.safe z k.u l.stop W hB (hK.below hW) (hL.below hW)).mono ?_
  rintro e w' ⟨rfl, hb⟩
  exact ⟨by unfold Lg.openB; rw [k.fs], ⟨b, ps, tail, z, rfl, hS, k, hz, hB.below hb⟩, hb⟩
 bytes := by
  rintro p l S W hW ⟨b, ps, tail, z, rfl, hS, k, hz, hB⟩
  refine (logBytes_any b l.u l.safe z _ l.stop W hB).mono ?_
  rintro e w' ⟨rfl, rfl⟩
  exact ⟨by rw [strOf_size, k.bytes], ⟨b, ps, tail, z, rfl, hS, k, hz, hB⟩, Below.refl _ _⟩
 safe := by
  rintro p l S W hW ⟨b, ps, tail, z, rfl, hS, k, hz, hB⟩
  refine (logSafe_any b l.u l.safe z _ l.stop W hB).mono ?_
  rintro e w' ⟨rfl, rfl⟩
  exact ⟨rfl, ⟨b, ps, tail, z, rfl, hS, k, hz, hB⟩, Below.refl _ _⟩
end Go.Proofs.YtjmeakkmfeoigaaGreatDoor
namespace Go.Proofs.YtjmeakkmfeoigaaGreatDoor
open Go.ChangeShapes Go.WideShapes Go.ChangeAt Go.RowKit Go.Deep
set_option maxRecDepth 100000
theorem kdG : Tryz.prog.globalNamed "vennhouse/atom.kinds" = some 0 := by kernel_rfl
theorem kdT : (Tryz.prog.globals[0]?).map (·.type) = some 117 := by kernel_rfl
theorem kdC : Tryz.prog.cellsOf 116 = 3 := by kernel_rfl
theorem kdA : Tryz.prog.cellsOf 117 = 18 := by kernel_rfl
theorem kdS : Tryz.prog.cellsOf 9 = 1 := by kernel_rfl
theorem kdB : Tryz.prog.cellsOf 4 = 1 := by kernel_rfl
theorem kind_of_trod {w : World} {cs : List Value} {fuel : Nat} {text : List UInt8} {b1 b2 : Bool} {y : DataW Unit × List MemPlace} (hy : y.1 = .agg [.lit (.string text), .lit (.bool b1), .lit (.bool b2)])
    (h : DataW.trod (fun _ => ()) Tryz.prog w 0 (fun _ => true) false fuel 116 cs = some y) : cs = [.string ⟨text.toArray⟩, .bool b1, .bool b2] := by
 obtain ⟨y0, y1, y2, n, e, hl, t0, t1, t2⟩ := trod_struct3 Tryz.underlying116 h
 rw [kdC] at hl
 obtain ⟨c0, c1, c2, rfl⟩ : ∃ c0 c1 c2, cs = [c0, c1, c2] := by
  match cs, hl with
  | [a, b, c], _ => exact ⟨a, b, c, rfl⟩
 ·simp only [kdS, kdB] at t0 t1 t2
  obtain ⟨s, e0, f0, _⟩ := DataW.trod_string Tryz.underlying9 t0
  obtain ⟨x1, e1, f1⟩ := DataW.trod_bool Tryz.underlying4 t1
  obtain ⟨x2, e2, f2⟩ := DataW.trod_bool Tryz.underlying4 t2
  simp at e0 e1 e2
  subst e0 e1 e2
  subst f0 f1 f2
  subst e
  simp at hy
  obtain ⟨rfl, rfl, rfl⟩ := hy
  rfl
theorem kinds_of_head {r : List (String × DataW Unit)} {W : World} (h : laidMet Tryz.prog (("vennhouse/atom.kinds", Rows.laid_vennhouse_atom_kinds) :: r) W) : KindsLaid W := by
 obtain ⟨ps, ⟨g0, t0, cs0, f0, p0, q0, hg0, ht0, hv0, hd0, _, e0⟩, _, hrows⟩ := h
 obtain rfl := Option.some.inj (kdG.symm.trans hg0)
 obtain rfl := Option.some.inj (kdT.symm.trans ht0)
 obtain ⟨xs, m, _, hx, hlen, hxl, hi⟩ := DataW.trod_array Tryz.underlying117 hd0
 simp only [kdC] at hi
 rw [kdA] at hlen
 have hx1 : Rows.laid_vennhouse_atom_kinds = .agg (xs.map (·.1)) := congrArg Prod.fst hx
 obtain ⟨a0, a1, a2, a3, a4, a5, rfl⟩ : ∃ a0 a1 a2 a3 a4 a5, xs = [a0, a1, a2, a3, a4, a5] := by
  match xs, hxl with
  | [a, b, c, d, e, f], _ => exact ⟨a, b, c, d, e, f, rfl⟩
 ·unfold Rows.laid_vennhouse_atom_kinds at hx1
  simp only [List.map, DataW.agg.injEq, List.cons.injEq, and_true] at hx1
  obtain ⟨g0, g1, g2, g3, g4, g5⟩ := hx1
  have k0 := kind_of_trod g0.symm (hi 0 (by decide))
  have k1 := kind_of_trod g1.symm (hi 1 (by decide))
  have k2 := kind_of_trod g2.symm (hi 2 (by decide))
  have k3 := kind_of_trod g3.symm (hi 3 (by decide))
  have k4 := kind_of_trod g4.symm (hi 4 (by decide))
  have k5 := kind_of_trod g5.symm (hi 5 (by decide))
  have hl : cs0.toList = kindCells := by
   have e : cs0.toList = (cs0.toList.drop (0 * 3)).take 3 ++ ((cs0.toList.drop (1 * 3)).take 3 ++ ((cs0.toList.drop (2 * 3)).take 3 ++ ((cs0.toList.drop (3 * 3)).take 3 ++ ((cs0.toList.drop (4 * 3)).take 3 ++ ((cs0.toList.drop (5 * 3)).take 3))))) := by
    match cs0.toList, hlen with
    | [_, _, _, _, _, _, _, _, _, _, _, _, _, _, _, _, _, _], _ => rfl
   rw [e, k0, k1, k2, k3, k4, k5]
   rfl
  intro j hj
  have hc := World.var?_cell kdG hv0 j
  rw [hc]
  have : cs0[j]? = cs0.toList[j]? := by simp
  rw [this, hl]
  have hj' : j < kindCells.length := hj
  simp [List.getElem?_eq_getElem hj']
end Go.Proofs.YtjmeakkmfeoigaaGreatDoor
namespace Go.Proofs.YtjmeakkmfeoigaaGreatDoor
open Go.ChangeShapes Go.WideShapes Go.ChangeAt Go.RowKit
set_option maxRecDepth 100000
theorem ownB : ownKnob Tryz.prog.godebug = none := by kernel_rfl
theorem p10G : Tryz.prog.globalNamed "internal/strconv.uint64pow10" = some 4 := by kernel_rfl
theorem p10T : (Tryz.prog.globals[4]?).map (·.type) = some 266 := by kernel_rfl
theorem p10C : Tryz.prog.cellsOf 230 = 1 := by kernel_rfl
theorem p10A : Tryz.prog.cellsOf 266 = 20 := by kernel_rfl
theorem p10D : (Rows.laid_internal_strconv_uint64pow10 : DataW Unit) = Lib.tabData .u64 Lib.pow10Tab := by kernel_rfl
theorem esG : Tryz.prog.globalNamed "strconv.ErrSyntax" = some 5 := by kernel_rfl
theorem esT : (Tryz.prog.globals[5]?).map (·.type) = some 24 := by kernel_rfl
theorem esC : Tryz.prog.cellsOf 290 = 1 := by kernel_rfl
theorem esS : Tryz.prog.cellsOf 9 = 1 := by kernel_rfl
theorem starE : "*" ++ "errors.errorString" = "*errors.errorString" := by decide
theorem rowE (u : TypeId) (h : Tryz.prog.typeName? 3 u = some "*errors.errorString") : u = 288 :=
 typeName_ptr_named (nm := "errors.errorString") (by rw [starE]; kernel_rfl) (by kernel_rfl) (by decide) u (by rw [starE]; exact h)
def laidB : List (String × DataW Unit) := [("math/bits.deBruijn32tab", Rows.laid_math_bits_deBruijn32tab), ("math/bits.deBruijn64tab", Rows.laid_math_bits_deBruijn64tab), ("internal/strconv.uint64pow10", Rows.laid_internal_strconv_uint64pow10), ("unicode/utf8.acceptRanges", Rows.laid_unicode_utf8_acceptRanges), ("strconv.ErrRange", Rows.laid_strconv_ErrRange), ("strconv.ErrSyntax", Rows.laid_strconv_ErrSyntax), ("vennhouse/atom.kinds", Rows.laid_vennhouse_atom_kinds), ("unicode/utf8.first", Rows.laid_unicode_utf8_first)]
end Go.Proofs.YtjmeakkmfeoigaaGreatDoor
namespace Go.Proofs.YtjmeakkmfeoigaaGreatDoor
open Go.ChangeShapes Go.WideShapes Go.ChangeAt Go.RowKit
theorem etG : Tryz.prog.globalNamed "errors.errorType" = some 1 := by kernel_rfl
theorem rtT : (Tryz.prog.cutTypes.find? (·.1 == "internal/reflectlite.rtype")).map (·.2) = some 199 := by kernel_rfl
theorem oneRow : ((List.range 329).filter fun t => Tryz.prog.rowNamed t [101, 114, 114, 111, 114]) = [24] := by kernel_rfl
theorem sizeT : Tryz.prog.types.size = 329 := by kernel_rfl
theorem handleE : typeHandle Tryz.prog 24 = .pointer (some ⟨11, 24, none⟩) := by kernel_rfl
def laidE : List (String × DataW Unit) := [("errors.errorType", Rows.laid_errors_errorType)]
theorem laid_of_met {W : World} (h : laidMetH Tryz.prog laidE W) : Laid W := by
 have h' : laidMet Tryz.prog [] W ∧ handlesMet Tryz.prog laidE W := h
 obtain ⟨name, u, ty, e1, e2, e3, e4, e5⟩ := h'.2 _ (List.mem_singleton.2 rfl)
 have en : name = [101, 114, 114, 111, 114] := (Option.some.inj e1).symm
 subst en
 obtain rfl := Option.some.inj (rtT.symm.trans e2)
 have hm : ty ∈ (List.range 329).filter fun t => Tryz.prog.rowNamed t [101, 114, 114, 111, 114] := List.mem_filter.2 ⟨List.mem_range.2 (by rw [← sizeT]; exact e3), e4⟩
 rw [oneRow] at hm
 obtain rfl := List.mem_singleton.1 hm
 rw [handleE] at e5
 simpa [Laid] using World.var?_cell etG e5 0
end Go.Proofs.YtjmeakkmfeoigaaGreatDoor
namespace Go.Proofs.YtjmeakkmfeoigaaGreatDoor
open Go.ChangeShapes Go.WideShapes Go.ChangeAt Go.RowKit
set_option maxRecDepth 100000
def laidN : List (String × DataW Unit) := [("math/bits.deBruijn32tab", Rows.laid_math_bits_deBruijn32tab), ("math/bits.deBruijn64tab", Rows.laid_math_bits_deBruijn64tab), ("internal/strconv.uint64pow10", Rows.laid_internal_strconv_uint64pow10), ("unicode/utf8.acceptRanges", Rows.laid_unicode_utf8_acceptRanges), ("errors.errorType", Rows.laid_errors_errorType), ("strconv.ErrRange", Rows.laid_strconv_ErrRange), ("strconv.ErrSyntax", Rows.laid_strconv_ErrSyntax), ("vennhouse/atom.kinds", Rows.laid_vennhouse_atom_kinds), ("unicode/utf8.first", Rows.laid_unicode_utf8_first)]
theorem laidMet_over {P : Program} {w0 : World} {laid : List (String × DataW Unit)} (args : Array Value) (hf : w0.layFits P laid [] = true) (hi : w0.layIfaces P laid (w0.layVars P laid) = true) :
    laidMet P laid ((w0.layVars P laid).forCall (fun _ _ => 0) ⟨#[], args, []⟩).memory := by
 have all : ∀ x, x ∈ laid → (laid.map (·.1)).contains x.1 = true := fun x hx => List.contains_iff_mem.2 (List.mem_map.2 ⟨x, hx, rfl⟩)
 have yes : (laid.filter fun x => (laid.map (·.1)).contains x.1) = laid := List.filter_eq_self.2 all
 have no : (laid.filter fun x => !(laid.map (·.1)).contains x.1) = [] := List.filter_eq_nil_iff.2 fun x hx => by rw [all x hx]; simp
 have h := laidMet_layVars (P := P) (w0 := w0) (w' := w0.layVars P laid) (laid := laid) (laid.map (·.1)) [] (by rw [yes]) (by rw [yes]; exact hf) (by rw [yes]; exact hi) (by rw [no]; exact LaidIn.none)
 exact h.of_heap (by simp [World.memory, World.forCall, Input.heap])
noncomputable def startN (os : Os) : World := (World.doorLaid Tryz.prog 400 os).layVars Tryz.prog laidB
end Go.Proofs.YtjmeakkmfeoigaaGreatDoor
namespace Go.Proofs.YtjmeakkmfeoigaaGreatDoor
open Go.ChangeShapes Go.WideShapes Go.ChangeAt Go.RowKit Go.Deep
set_option maxRecDepth 100000
theorem tmG : Tryz.prog.globalNamed "vennhouse/rows.kinds" = some 3 := by kernel_rfl
theorem tmT : (Tryz.prog.globals[3]?).map (·.type) = some 222 := by kernel_rfl
theorem tmC1 : Tryz.prog.cellsOf 3 = 1 := by kernel_rfl
theorem tmC2 : Tryz.prog.cellsOf 220 = 2 := by kernel_rfl
theorem tmC4 : Tryz.prog.cellsOf 221 = 4 := by kernel_rfl
theorem tmA : Tryz.prog.cellsOf 222 = 24 := by kernel_rfl
theorem pair_of_trod {w : World} {cs : List Value} {fuel : Nat} {a b : Int} {y : DataW Unit × List MemPlace} (hy : y.1 = .agg [.lit (.int .i64 a), .lit (.int .i64 b)])
    (h : DataW.trod (fun _ => ()) Tryz.prog w 0 (fun _ => true) false fuel 220 cs = some y) : cs = [.int .i64 a, .int .i64 b] := by
 obtain ⟨xs, m, _, hx, hlen, hxl, hi⟩ := DataW.trod_array Tryz.underlying220 h
 rw [tmC2] at hlen
 simp only [tmC1] at hi
 have hx1 : y.1 = .agg (xs.map (·.1)) := congrArg Prod.fst hx
 obtain ⟨a0, a1, rfl⟩ : ∃ a0 a1, xs = [a0, a1] := by
  match xs, hxl with
  | [a, b], _ => exact ⟨a, b, rfl⟩
 obtain ⟨c0, c1, rfl⟩ : ∃ c0 c1, cs = [c0, c1] := by
  match cs, hlen with
  | [a, b], _ => exact ⟨a, b, rfl⟩
 obtain ⟨n0, e0, f0, _⟩ := DataW.trod_int Tryz.underlying3 (hi 0 (by decide))
 obtain ⟨n1, e1, f1, _⟩ := DataW.trod_int Tryz.underlying3 (hi 1 (by decide))
 simp at e0 e1
 subst e0 e1 f0 f1
 rw [hx1] at hy
 simp at hy
 obtain ⟨rfl, rfl⟩ := hy
 rfl
theorem quad_of_trod {w : World} {cs : List Value} {fuel : Nat} {a b c d : Int} {y : DataW Unit × List MemPlace} (hy : y.1 = .agg [.agg [.lit (.int .i64 a), .lit (.int .i64 b)], .agg [.lit (.int .i64 c), .lit (.int .i64 d)]])
    (h : DataW.trod (fun _ => ()) Tryz.prog w 0 (fun _ => true) false fuel 221 cs = some y) : cs = [.int .i64 a, .int .i64 b, .int .i64 c, .int .i64 d] := by
 obtain ⟨xs, m, _, hx, hlen, hxl, hi⟩ := DataW.trod_array Tryz.underlying221 h
 rw [tmC4] at hlen
 simp only [tmC2] at hi
 have hx1 : y.1 = .agg (xs.map (·.1)) := congrArg Prod.fst hx
 obtain ⟨a0, a1, rfl⟩ : ∃ a0 a1, xs = [a0, a1] := by
  match xs, hxl with
  | [a, b], _ => exact ⟨a, b, rfl⟩
 rw [hx1] at hy
 simp only [List.map, DataW.agg.injEq, List.cons.injEq, and_true] at hy
 have k0 := pair_of_trod hy.1 (hi 0 (by decide))
 have k1 := pair_of_trod hy.2 (hi 1 (by decide))
 have e : cs = (cs.drop (0 * 2)).take 2 ++ (cs.drop (1 * 2)).take 2 := by
  match cs, hlen with
  | [_, _, _, _], _ => rfl
 rw [e, k0, k1]
 rfl
theorem times_of_head {r : List (String × DataW Unit)} {W : World} (h : laidMet Tryz.prog (("vennhouse/rows.kinds", Rows.laid_vennhouse_rows_kinds) :: r) W) : TimesLaid W := by
 obtain ⟨ps, ⟨g0, t0, cs0, f0, p0, q0, hg0, ht0, hv0, hd0, _, e0⟩, _, hrows⟩ := h
 obtain rfl := Option.some.inj (tmG.symm.trans hg0)
 obtain rfl := Option.some.inj (tmT.symm.trans ht0)
 obtain ⟨xs, m, _, hx, hlen, hxl, hi⟩ := DataW.trod_array Tryz.underlying222 hd0
 simp only [tmC4] at hi
 rw [tmA] at hlen
 have hx1 : Rows.laid_vennhouse_rows_kinds = .agg (xs.map (·.1)) := congrArg Prod.fst hx
 obtain ⟨a0, a1, a2, a3, a4, a5, rfl⟩ : ∃ a0 a1 a2 a3 a4 a5, xs = [a0, a1, a2, a3, a4, a5] := by
  match xs, hxl with
  | [a, b, c, d, e, f], _ => exact ⟨a, b, c, d, e, f, rfl⟩
 unfold Rows.laid_vennhouse_rows_kinds at hx1
 simp only [List.map, DataW.agg.injEq, List.cons.injEq, and_true] at hx1
 obtain ⟨g0, g1, g2, g3, g4, g5⟩ := hx1
 have k0 := quad_of_trod g0.symm (hi 0 (by decide))
 have k1 := quad_of_trod g1.symm (hi 1 (by decide))
 have k2 := quad_of_trod g2.symm (hi 2 (by decide))
 have k3 := quad_of_trod g3.symm (hi 3 (by decide))
 have k4 := quad_of_trod g4.symm (hi 4 (by decide))
 have k5 := quad_of_trod g5.symm (hi 5 (by decide))
 have hl : cs0.toList = timeCells.map (fun n => Value.int .i64 n) := by
  have e : cs0.toList = (cs0.toList.drop (0 * 4)).take 4 ++ ((cs0.toList.drop (1 * 4)).take 4 ++ ((cs0.toList.drop (2 * 4)).take 4 ++ ((cs0.toList.drop (3 * 4)).take 4 ++ ((cs0.toList.drop (4 * 4)).take 4 ++ ((cs0.toList.drop (5 * 4)).take 4))))) := by
   match cs0.toList, hlen with
   | [_, _, _, _, _, _, _, _, _, _, _, _, _, _, _, _, _, _, _, _, _, _, _, _], _ => rfl
  rw [e, k0, k1, k2, k3, k4, k5]
  rfl
 intro j hj
 have hc := World.var?_cell tmG hv0 j
 rw [hc]
 have : cs0[j]? = cs0.toList[j]? := by simp
 rw [this, hl]
 have hj' : j < timeCells.length := hj
 simp [List.getElem?_eq_getElem hj']
def laidR : List (String × DataW Unit) := [("vennhouse/atom.kinds", Rows.laid_vennhouse_atom_kinds), ("vennhouse/rows.kinds", Rows.laid_vennhouse_rows_kinds)]
def laidQ : List (String × DataW Unit) := [("errors.errorType", Rows.laid_errors_errorType), ("vennhouse/atom.kinds", Rows.laid_vennhouse_atom_kinds), ("vennhouse/rows.kinds", Rows.laid_vennhouse_rows_kinds)]
end Go.Proofs.YtjmeakkmfeoigaaGreatDoor
namespace Go.Proofs.YtjmeakkmfeoigaaGreatDoor
open Go.ChangeShapes Go.WideShapes Go.ChangeAt Go.RowKit
set_option maxRecDepth 100000
def laidS0 : List (String × DataW Unit) := [("math/bits.deBruijn32tab", Rows.laid_math_bits_deBruijn32tab), ("math/bits.deBruijn64tab", Rows.laid_math_bits_deBruijn64tab), ("internal/strconv.uint64pow10", Rows.laid_internal_strconv_uint64pow10), ("unicode/utf8.acceptRanges", Rows.laid_unicode_utf8_acceptRanges), ("strconv.ErrRange", Rows.laid_strconv_ErrRange), ("strconv.ErrSyntax", Rows.laid_strconv_ErrSyntax), ("vennhouse/atom.kinds", Rows.laid_vennhouse_atom_kinds), ("vennhouse/rows.kinds", Rows.laid_vennhouse_rows_kinds), ("unicode/utf8.first", Rows.laid_unicode_utf8_first)]
def laidS : List (String × DataW Unit) := [("math/bits.deBruijn32tab", Rows.laid_math_bits_deBruijn32tab), ("math/bits.deBruijn64tab", Rows.laid_math_bits_deBruijn64tab), ("internal/strconv.uint64pow10", Rows.laid_internal_strconv_uint64pow10), ("unicode/utf8.acceptRanges", Rows.laid_unicode_utf8_acceptRanges), ("errors.errorType", Rows.laid_errors_errorType), ("strconv.ErrRange", Rows.laid_strconv_ErrRange), ("strconv.ErrSyntax", Rows.laid_strconv_ErrSyntax), ("vennhouse/atom.kinds", Rows.laid_vennhouse_atom_kinds), ("vennhouse/rows.kinds", Rows.laid_vennhouse_rows_kinds), ("unicode/utf8.first", Rows.laid_unicode_utf8_first)]
theorem topS0_of_met {W : World} (h : laidMetH Tryz.prog laidS0 W) : KindsLaid W ∧ TimesLaid W ∧ LibLaid W := by
 have h' : laidMet Tryz.prog laidS0 W := h
 unfold laidS0 at h'
 refine ⟨kinds_of_head h'.tail.tail.tail.tail.tail.tail, times_of_head h'.tail.tail.tail.tail.tail.tail.tail, ⟨?_, ?_⟩⟩
 ·have h2 := h'.tail.tail
  rw [p10D] at h2
  exact Lib.tabIs_of_head p10G p10T Tryz.underlying266 Tryz.underlying230 p10C p10A h2
 ·obtain ⟨a, s, hv, _⟩ := laid_sentinel h'.tail.tail.tail.tail.tail esG esT Tryz.underlying24 rowE Tryz.underlying288 Tryz.underlying290 rfl rfl Tryz.underlying9 esC esS
  exact ⟨_, _, hv⟩
theorem topS_of_met {W : World} (h : laidMetH Tryz.prog laidS W) : (Laid W ∧ KindsLaid W ∧ TimesLaid W) ∧ LibLaid W := by
 have h' : laidMet Tryz.prog laidS0 W ∧ handlesMet Tryz.prog laidE W := h
 have h1 : laidMetH Tryz.prog laidE W := (show laidMet Tryz.prog [] W ∧ handlesMet Tryz.prog laidE W from ⟨laidMet_nil _ _, h'.2⟩)
 have h2 : laidMetH Tryz.prog laidS0 W := (show laidMet Tryz.prog laidS0 W from h'.1)
 obtain ⟨a, b, c⟩ := topS0_of_met h2
 exact ⟨⟨laid_of_met h1, a, b⟩, c⟩
noncomputable def startS (os : Os) : World := (World.doorLaid Tryz.prog 400 os).layVars Tryz.prog laidS0
theorem startS_os (os : Os) : (startS os).os = os := World.layVars_os _ _ _
theorem doorS_met (os : Os) (args : Array Value) : laidMetH Tryz.prog laidS ((startS os).forCall (fun _ _ => 0) ⟨#[], args, []⟩).memory :=
 laidMetH_of_parts3 (fuel := 8) (laidMet_over (laid := laidS0) args (by kernel_rfl) (by kernel_rfl)) (by kernel_rfl) (by kernel_rfl)
end Go.Proofs.YtjmeakkmfeoigaaGreatDoor
namespace Go.Proofs.YtjmeakkmfeoigaaGreatDoor
open Go.ChangeShapes Go.WideShapes Go.ChangeAt Go.RowKit Go.WideMaps Go.WideElems
open Go.ChangeMaps (open_string)
theorem laidOutA : laidOutB Tryz.prog = true := by kernel_rfl
theorem cellsInt : Tryz.prog.cellsOf 3 = 1 := by kernel_rfl
set_option maxRecDepth 100000 in
theorem int_arg {H : Type} {enc : TypeId × Value → H} {W : World} {v : Value} {d : DataW H} {p : List MemPlace} {r : Reach} {b0 : Nat} (hv : Value.okWide Tryz.prog W r b0 3 v) (h : DataW.Trod enc Tryz.prog W 0 (fun _ => true) true 3 v d p) :
    ∃ n : Int, v = .int .i64 n := by
 obtain ⟨n, rfl, _⟩ := open_int Tryz.underlying3 hv h
 exact ⟨n, rfl⟩
end Go.Proofs.YtjmeakkmfeoigaaGreatDoor
namespace Go.Proofs.YtjmeakkmfeoigaaGreatDoor
open Go.ChangeShapes Go.WideShapes Go.ChangeAt Go.RowKit Go.WideMaps Go.WideElems
set_option maxRecDepth 100000
theorem cellsAtom : Tryz.prog.cellsOf 29 = 4 := by kernel_rfl
theorem cellsInts : Tryz.prog.cellsOf 27 = 1 := by kernel_rfl
theorem reads_trod {H : Type} {enc : TypeId × Value → H} {W : World} {fuel : Nat} {cs : List Value} {x : DataW H × List MemPlace} (h : DataW.trod enc Tryz.prog W 0 (fun _ => true) true fuel 27 cs = some x) :
    ∃ v t, cs = [v] ∧ Reads W v t := by
 rcases open_ints Tryz.underlying27 Tryz.underlying3 cellsInt h with ⟨hcs, hx⟩ | ⟨a, len, cap, zs, hcs, _, hl, hm, hz, hx, hcell, hwz⟩
 ·exact ⟨_, [], hcs, Or.inl ⟨none, 0, rfl, rfl⟩⟩
 ·refine ⟨_, zs.take len, hcs, ?_⟩
  rw [if_pos rfl] at hz
  rcases Nat.eq_zero_or_pos len with h0 | h0
  ·subst h0; exact Or.inl ⟨_, _, rfl, rfl⟩
  ·obtain ⟨b, off, rfl, hc⟩ := _root_.Go.ints_at hcell (by omega)
   have hlen : (zs.take len).length = len := by rw [List.length_take]; omega
   unfold maxLen at hm
   refine Or.inr ⟨b, off, cap, by rw [hlen], ?_, by omega, ⟨by omega, by omega⟩, fun k hk => ?_⟩
   ·exact World.block_lt_of_cell? W ⟨b, off, none⟩ (hc 0 (by omega))
   ·rw [hc k (by omega)]
    rw [hlen] at hk
    simp [hk]
theorem atom_trod {H : Type} {enc : TypeId × Value → H} {W : World} {fuel : Nat} {cs : List Value} {x : DataW H × List MemPlace} (h : DataW.trod enc Tryz.prog W 0 (fun _ => true) true fuel 29 cs = some x) :
    ∃ k vs vt n s t, cs = [.int .i64 k, vs, vt, .int .i64 n] ∧ Reads W vs s ∧ Reads W vt t := by
 obtain ⟨y0, y1, y2, y3, n, _, hl, h0, h1, h2, h3⟩ := Go.Joins.trod_struct4 Tryz.underlying29 h
 rw [cellsAtom] at hl
 obtain ⟨c0, c1, c2, c3, rfl⟩ : ∃ c0 c1 c2 c3, cs = [c0, c1, c2, c3] := by
  match cs, hl with
  | [a, b, c, d], _ => exact ⟨a, b, c, d, rfl⟩
 simp only [cellsInt, cellsInts] at h0 h1 h2 h3
 obtain ⟨k, e0, _, _⟩ := DataW.trod_int Tryz.underlying3 h0
 obtain ⟨vs, s, e1, r1⟩ := reads_trod h1
 obtain ⟨vt, t, e2, r2⟩ := reads_trod h2
 obtain ⟨m, e3, _, _⟩ := DataW.trod_int Tryz.underlying3 h3
 simp at e0 e1 e2 e3
 subst e0 e1 e2 e3
 exact ⟨k, _, _, m, s, t, rfl, r1, r2⟩
end Go.Proofs.YtjmeakkmfeoigaaGreatDoor
namespace Go.Proofs.YtjmeakkmfeoigaaGreatDoor
open Go.ChangeShapes Go.WideShapes Go.ChangeAt Go.RowKit Go.WideMaps Go.WideElems
set_option maxRecDepth 100000
theorem atoms_of {w : World} (b off : Nat) (n : Nat) (h : ∀ i, i < n → ∃ a : At, AtomAt w b (off + i * 4) a) : ∃ ats : List At, ats.length = n ∧ ∀ i a, ats[i]? = some a → AtomAt w b (off + i * 4) a := by
 induction n with
 | zero => exact ⟨[], rfl, fun i a h => by simp at h⟩
 | succ n ih =>
  obtain ⟨ats, hl, ha⟩ := ih (fun i hi => h i (by omega))
  obtain ⟨a, haa⟩ := h n (by omega)
  refine ⟨ats ++ [a], by simp [hl], fun i x hx => ?_⟩
  rcases Nat.lt_or_ge i n with hi | hi
  ·rw [List.getElem?_append_left (by omega)] at hx; exact ha i x hx
  ·rw [List.getElem?_append_right (by omega), hl] at hx
   obtain rfl : i = n := by
    have := (List.getElem?_eq_some_iff.1 hx).1
    simp at this; omega
   simp at hx
   subst hx
   exact haa
theorem atoms_trod {H : Type} {enc : TypeId × Value → H} {W : World} {fuel : Nat} {cs : List Value} {x : DataW H × List MemPlace} (h : DataW.trod enc Tryz.prog W 0 (fun _ => true) true fuel 37 cs = some x) :
    ∃ v ats, cs = [v] ∧ ReadsA W v ats := by
 rcases Go.Deep.open_slice Tryz.underlying37 h with ⟨hcs, _⟩ | ⟨a, len, cap, m, n, D, Pl, hcs, _, hl, hm, hmm, _, hx⟩
 ·exact ⟨_, [], hcs, Or.inl ⟨none, 0, rfl, rfl⟩⟩
 ·rw [if_pos rfl] at hmm
  rcases Nat.eq_zero_or_pos len with h0 | h0
  ·subst h0; exact ⟨_, [], hcs, Or.inl ⟨_, _, rfl, rfl⟩⟩
  ·obtain ⟨b, off, spot⟩ := a
   have cell : ∀ i, i < m → ∀ j, j < 4 → ∃ cs', DataW.trod enc Tryz.prog W 0 (fun _ => true) true n 29 cs' = some (D i, Pl i) ∧ ∀ j, j < 4 → W.cell? ((Addr.add ⟨b, off, spot⟩ (i * 4)).add j) = cs'[j]? := by
    intro i hi j hj
    obtain ⟨cs', h1, h2⟩ := hx i hi
    rw [cellsAtom] at h1
    exact ⟨cs', h2, (World.cells?_some h1).2.2⟩
   have hspot : spot = none := by
    obtain ⟨cs', h2, hc⟩ := cell 0 (by omega) 0 (by omega)
    obtain ⟨k, vs, vt, n', s, t, rfl, _, _⟩ := atom_trod h2
    have := hc 0 (by omega)
    simpa [Addr.add] using World.cell?_spot this
   subst hspot
   obtain ⟨ats, hlen, has⟩ := atoms_of (w := W) b off len (fun i hi => by
    obtain ⟨cs', h2, hc⟩ := cell i (by omega) 0 (by omega)
    obtain ⟨k, vs, vt, n', s, t, rfl, r1, r2⟩ := atom_trod h2
    refine ⟨⟨k, s, t, n'⟩, vs, vt, ?_, ?_, ?_, ?_, r1, r2⟩
    ·have := hc 0 (by omega)
     rw [Go.WideShapes.add_plain, Go.WideShapes.add_plain] at this
     simpa using this
    ·have := hc 1 (by omega)
     rw [Go.WideShapes.add_plain, Go.WideShapes.add_plain] at this
     simpa using this
    ·have := hc 2 (by omega)
     rw [Go.WideShapes.add_plain, Go.WideShapes.add_plain] at this
     simpa using this
    ·have := hc 3 (by omega)
     rw [Go.WideShapes.add_plain, Go.WideShapes.add_plain] at this
     simpa using this)
   unfold maxLen at hm
   refine ⟨_, ats, hcs, Or.inr ⟨b, off, cap, by rw [hlen], ?_, by omega, ⟨by omega, by omega⟩, has⟩⟩
   obtain ⟨vs, vt, h1, _⟩ := has 0 (ats[0]'(by omega)) (List.getElem?_eq_getElem _)
   exact World.block_lt_of_cell? W ⟨b, off + 0 * 4, none⟩ h1
end Go.Proofs.YtjmeakkmfeoigaaGreatDoor
namespace Go.Proofs.YtjmeakkmfeoigaaGreatDoor
open Go.ChangeShapes Go.WideShapes Go.ChangeAt Go.RowKit Go.WideMaps Go.WideElems
set_option maxRecDepth 100000
theorem atoms_arg {H : Type} {enc : TypeId × Value → H} {W : World} {v : Value} {d : DataW H} {p : List MemPlace} {r : Reach} {b0 : Nat} (hv : Value.okWide Tryz.prog W r b0 37 v) (h : DataW.Trod enc Tryz.prog W 0 (fun _ => true) true 37 v d p) :
    ∃ ats, ReadsA W v ats := by
 obtain ⟨a0, len, cap, rfl⟩ := okWide_slice Tryz.underlying37 hv
 obtain ⟨fuel, hf⟩ := h
 obtain ⟨u, ats, e, hr⟩ := atoms_trod hf
 simp [Value.cells] at e
 subst e
 exact ⟨ats, hr⟩
end Go.Proofs.YtjmeakkmfeoigaaGreatDoor