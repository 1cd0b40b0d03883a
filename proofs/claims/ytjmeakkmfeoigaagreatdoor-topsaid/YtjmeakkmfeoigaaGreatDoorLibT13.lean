/-
  Facts and contracts that the statement leans on.
-/
import Derived.Test.YtjmeakkmfeoigaaGreatDoorLibT7
import Derived.OwnWalk
import Derived.Laws.OwnMore
import Derived.Laws.AppendOwn
import Derived.Test.YtjmeakkmfeoigaaGreatDoorLibT9
import Derived.Test.YtjmeakkmfeoigaaGreatDoorLibT10
import Derived.Test.YtjmeakkmfeoigaaGreatDoorLibT12
import Derived.Deep.CutRange
import Derived.Test.YtjmeakkmfeoigaaGreatDoorLibT6
import Derived.Lib.SlicesCompact
import Derived.Lib.Small
namespace Go.Proofs.YtjmeakkmfeoigaaGreatDoor
open Go.ChangeShapes Go.WideShapes Go.ChangeAt Go.RowKit
set_option maxRecDepth 100000
def Kept (S : Nat → Prop) (w w' : World) : Prop := w.heap.size ≤ w'.heap.size ∧ ∀ b, S b → b < w.heap.size → w'.heap[b]? = w.heap[b]?
theorem Kept.of_below {S : Nat → Prop} {w w' : World} (h : Below w.heap.size w w') : Kept S w w' := ⟨h.size, fun b _ hb => h.block b hb⟩
theorem Kept.of_belowK {S : Nat → Prop} {w w' : World} {K : Nat} (h : Below K w w') (hS : ∀ b, S b → b < w.heap.size → b < K) : Kept S w w' := ⟨h.size, fun b h1 h2 => h.block b (hS b h1 h2)⟩
theorem Kept.of_grown {S : Nat → Prop} {w w' : World} {r : Option Nat} (h : w.grownBy w' r) (hS : ∀ b, S b → some b ≠ r) : Kept S w w' := ⟨h.size, fun b h1 h2 => h.block b h2 (hS b h1)⟩
def RS (S : Nat → Prop) (w : World) (v : Value) (t : List Int) : Prop :=
 (∃ ao cap, v = .slice ao 0 cap ∧ t = []) ∨ (∃ b off cap, v = .slice (some ⟨b, off, none⟩) t.length cap ∧ (S b ∧ b < w.heap.size) ∧ 0 < t.length ∧ (t.length ≤ 9223372036854775807 ∧ t.length ≤ cap) ∧ ∀ k, k < t.length → w.cell? ⟨b, off + k, none⟩ = some (.int .i64 (t.getD k 0)))
theorem RS.reads {S : Nat → Prop} {w : World} {v : Value} {t : List Int} (h : RS S w v t) : Reads w v t := by
 rcases h with h | ⟨b, off, cap, h1, h2, h3, h4, h5⟩
 ·exact Or.inl h
 ·exact Or.inr ⟨b, off, cap, h1, h2.2, h3, h4, h5⟩
theorem Reads.rs {S : Nat → Prop} {w : World} {v : Value} {t : List Int} (h : Reads w v t) (hS : ∀ b, b < w.heap.size → S b) : RS S w v t := by
 rcases h with h | ⟨b, off, cap, h1, h2, h3, h4, h5⟩
 ·exact Or.inl h
 ·exact Or.inr ⟨b, off, cap, h1, ⟨hS b h2, h2⟩, h3, h4, h5⟩
theorem RS.mono {S T : Nat → Prop} {w : World} {v : Value} {t : List Int} (h : RS S w v t) (hS : ∀ b, b < w.heap.size → S b → T b) : RS T w v t := by
 rcases h with h | ⟨b, off, cap, h1, h2, h3, h4, h5⟩
 ·exact Or.inl h
 ·exact Or.inr ⟨b, off, cap, h1, ⟨hS b h2.2 h2.1, h2.2⟩, h3, h4, h5⟩
theorem RS.kept {S : Nat → Prop} {w w' : World} {v : Value} {t : List Int} (h : RS S w v t) (hk : Kept S w w') : RS S w' v t := by
 rcases h with h | ⟨b, off, cap, h1, h2, h3, h4, h5⟩
 ·exact Or.inl h
 ·exact Or.inr ⟨b, off, cap, h1, ⟨h2.1, Nat.lt_of_lt_of_le h2.2 hk.1⟩, h3, h4, fun k hk' => by rw [World.cell?_of_block (w := w) (hk.2 b h2.1 h2.2)]; exact h5 k hk'⟩
theorem RS.slice {S : Nat → Prop} {w : World} {v : Value} {t : List Int} (h : RS S w v t) : ∃ ao cap, v = .slice ao t.length cap ∧ t.length ≤ 9223372036854775807 := by
 rcases h with ⟨ao, cap, rfl, rfl⟩ | ⟨b, off, cap, rfl, _, _, h, _⟩
 ·exact ⟨ao, cap, rfl, by decide⟩
 ·exact ⟨_, cap, rfl, h.1⟩
theorem RS.one {S : Nat → Prop} {w : World} {v : Value} {t : List Int} (h : RS S w v t) : v.oneCell' = true := by
 obtain ⟨_, _, rfl, _⟩ := h.slice; rfl
def RS2 (S : Nat → Prop) (w : World) (v : Value) (L : List (List Int)) : Prop :=
 (∃ ao cap, v = .slice ao 0 cap ∧ L = []) ∨ (∃ b off cap, v = .slice (some ⟨b, off, none⟩) L.length cap ∧ (S b ∧ b < w.heap.size) ∧ 0 < L.length ∧ (L.length ≤ 9223372036854775807 ∧ L.length ≤ cap) ∧ ∀ k t, L[k]? = some t → ∃ u, w.cell? ⟨b, off + k, none⟩ = some u ∧ RS S w u t)
theorem RS2.mono {S T : Nat → Prop} {w : World} {v : Value} {L : List (List Int)} (h : RS2 S w v L) (hS : ∀ b, b < w.heap.size → S b → T b) : RS2 T w v L := by
 rcases h with h | ⟨b, off, cap, h1, h2, h3, h4, h5⟩
 ·exact Or.inl h
 ·refine Or.inr ⟨b, off, cap, h1, ⟨hS b h2.2 h2.1, h2.2⟩, h3, h4, fun k t hk => ?_⟩
  obtain ⟨u, hu, hr⟩ := h5 k t hk
  exact ⟨u, hu, hr.mono hS⟩
theorem RS2.kept {S : Nat → Prop} {w w' : World} {v : Value} {L : List (List Int)} (h : RS2 S w v L) (hk : Kept S w w') : RS2 S w' v L := by
 rcases h with h | ⟨b, off, cap, h1, h2, h3, h4, h5⟩
 ·exact Or.inl h
 ·refine Or.inr ⟨b, off, cap, h1, ⟨h2.1, Nat.lt_of_lt_of_le h2.2 hk.1⟩, h3, h4, fun k t hkt => ?_⟩
  obtain ⟨u, hu, hr⟩ := h5 k t hkt
  exact ⟨u, by rw [World.cell?_of_block (w := w) (hk.2 b h2.1 h2.2)]; exact hu, hr.kept hk⟩
theorem RS2.slice {S : Nat → Prop} {w : World} {v : Value} {L : List (List Int)} (h : RS2 S w v L) : ∃ ao cap, v = .slice ao L.length cap ∧ L.length ≤ 9223372036854775807 := by
 rcases h with ⟨ao, cap, rfl, rfl⟩ | ⟨b, off, cap, rfl, _, _, h, _⟩
 ·exact ⟨ao, cap, rfl, by decide⟩
 ·exact ⟨_, cap, rfl, h.1⟩
theorem RS2.one {S : Nat → Prop} {w : World} {v : Value} {L : List (List Int)} (h : RS2 S w v L) : v.oneCell' = true := by
 obtain ⟨_, _, rfl, _⟩ := h.slice; rfl
def Own2 (S : Nat → Prop) (K : Nat) (w : World) (v : Value) (L : List (List Int)) : Prop :=
 ∃ xs : List Value, w.ownsRow K 27 1 v L.length xs ∧ ∀ (k : Nat) t, L[k]? = some t → ∃ u, xs[k]? = some u ∧ RS (fun b => (S b ∨ K ≤ b) ∧ some b ≠ v.ownBlock) w u t
theorem Own2.nil (S : Nat → Prop) (K : Nat) (w : World) : Own2 S K w (.slice none 0 0) [] := ⟨[], World.ownsRow_nil _ _ _ _, fun k t h => (by simp at h)⟩
theorem ownsRow_same {w w' : World} {base : Nat} {e : TypeId} {size : Nat} {v : Value} {n : Nat} {xs : List Value} (h : w.ownsRow base e size v n xs) (hb : ∀ b, b < w.heap.size → w'.heap[b]? = w.heap[b]?) : w'.ownsRow base e size v n xs := by
 refine ⟨h.1, ?_⟩
 rcases h.2 with hn | ⟨g, cap, cur, rfl, hg, hh, rest⟩
 ·exact .inl hn
 ·exact .inr ⟨g, cap, cur, rfl, hg, by rw [hb g (Array.getElem?_eq_some_iff.1 hh).1]; exact hh, rest⟩
theorem Own2.below {S : Nat → Prop} {K : Nat} {w w' : World} {v : Value} {L : List (List Int)} (h : Own2 S K w v L) (hb : Below w.heap.size w w') : Own2 S K w' v L := by
 obtain ⟨xs, h1, h2⟩ := h
 refine ⟨xs, ownsRow_same h1 hb.block, fun k t hk => ?_⟩
 obtain ⟨u, hu, hr⟩ := h2 k t hk
 exact ⟨u, hu, hr.kept (Kept.of_below hb)⟩
theorem Own2.push {S : Nat → Prop} {K : Nat} {w w' : World} {v u : Value} {L : List (List Int)} {t : List Int} {xs : List Value} {g cap : Nat} (hw : w.ownsRow K 27 1 v L.length xs)
    (hx : ∀ (k : Nat) t, L[k]? = some t → ∃ u, xs[k]? = some u ∧ RS (fun b => (S b ∨ K ≤ b) ∧ some b ≠ v.ownBlock) w u t) (hu : RS (fun b => (S b ∨ K ≤ b) ∧ some b ≠ v.ownBlock) w u t)
    (hown : w'.ownsRow K 27 1 (.slice (some ⟨g, 0, none⟩) (L.length + 1) cap) (L.length + 1) (xs ++ [u])) (hg : w.grownBy w' v.ownBlock) (hat : v.ownBlock = some g ∨ g = w.heap.size) :
    Own2 S K w' (.slice (some ⟨g, 0, none⟩) (L.length + 1) cap) (L ++ [t]) := by
 have hl : xs.length = L.length := by have := hw.1; simpa using this
 have key : ∀ x s, RS (fun b => (S b ∨ K ≤ b) ∧ some b ≠ v.ownBlock) w x s → RS (fun b => (S b ∨ K ≤ b) ∧ some b ≠ (Value.slice (some ⟨g, 0, none⟩) (L.length + 1) cap).ownBlock) w' x s := by
  intro x s hxs
  have h1 : RS (fun b => ((S b ∨ K ≤ b) ∧ some b ≠ v.ownBlock) ∧ some b ≠ (Value.slice (some ⟨g, 0, none⟩) (L.length + 1) cap).ownBlock) w x s := hxs.mono fun b hb h => ⟨h, by
   show some b ≠ some g
   rcases hat with e | e
   ·rw [← e]; exact h.2
   ·intro e2; rw [Option.some.inj e2, e] at hb; omega⟩
  have h2 := h1.kept (Kept.of_grown hg fun b hb => hb.1.2)
  exact h2.mono fun b _ hb => ⟨hb.1.1, hb.2⟩
 refine ⟨xs ++ [u], by rw [List.length_append]; exact hown, fun k s hk => ?_⟩
 by_cases hlt : k < L.length
 ·rw [List.getElem?_append_left hlt] at hk
  obtain ⟨x, hx1, hx2⟩ := hx k s hk
  exact ⟨x, by rw [List.getElem?_append_left (by omega)]; exact hx1, key _ _ hx2⟩
 ·rw [List.getElem?_append_right (by omega)] at hk
  have e : k - L.length = 0 := by
   have := (List.getElem?_eq_some_iff.1 hk).1; simp at this; omega
  rw [e] at hk
  simp at hk; subst hk
  exact ⟨u, by rw [List.getElem?_append_right (by omega), hl, e]; rfl, key _ _ hu⟩
theorem Own2.reads {S : Nat → Prop} {K : Nat} {w : World} {v : Value} {L : List (List Int)} (h : Own2 S K w v L) (hm : L.length ≤ 9223372036854775807) : RS2 (fun b => S b ∨ K ≤ b) w v L := by
 obtain ⟨xs, h1, h2⟩ := h
 rcases h1.2 with ⟨rfl, h0⟩ | ⟨g, cap, cur, rfl, hg, hh, hc, _⟩
 ·exact Or.inl ⟨_, _, rfl, List.eq_nil_of_length_eq_zero (by omega)⟩
 ·rcases Nat.eq_zero_or_pos L.length with h0 | h0
  ·exact Or.inl ⟨_, cap, by rw [h0], List.eq_nil_of_length_eq_zero (by omega)⟩
  ·refine Or.inr ⟨g, 0, cap, rfl, ⟨Or.inr hg, (Array.getElem?_eq_some_iff.1 hh).1⟩, h0, ⟨hm, hc⟩, fun k t hk => ?_⟩
   have hi := (List.getElem?_eq_some_iff.1 hk).1
   obtain ⟨u, hu, hr⟩ := h2 k t hk
   exact ⟨u, by rw [Nat.zero_add, h1.cellAt _ (by omega)]; exact hu, hr.mono fun b _ hb => hb.1⟩
theorem Own2.lt {S : Nat → Prop} {K : Nat} {w : World} {v : Value} {L : List (List Int)} (h : Own2 S K w v L) : ∀ k, v.ownBlock = some k → K ≤ k ∧ k < w.heap.size := by
 obtain ⟨xs, h1, _⟩ := h; exact h1.lt
end Go.Proofs.YtjmeakkmfeoigaaGreatDoor
namespace Go.Proofs.YtjmeakkmfeoigaaGreatDoor
open Go.ChangeShapes Go.WideShapes Go.ChangeAt Go.RowKit Go.Extern.Stop Go.Stop Go.Extern
set_option maxRecDepth 100000
theorem as_nil (t : Addr) (w : World) : Calls Tryz.prog 64 #[.nilIface, .iface 110 (.pointer (some t))] w (Sk w (.bool false)) := by
 go_enter Tryz.func64, Tryz.ntmps64
 go_wp2
 go_ret
 exact ⟨rfl, rfl⟩
theorem isNone_nil (w : World) : Calls Tryz.prog 54 #[.nilIface] w (Bk w (.bool false)) := by
 go_enter Tryz.func54, Tryz.ntmps54
 go_wp2_with (go_at_call 64; refine (as_nil _ _).mono ?_; rintro e w' ⟨rfl, rfl⟩)
 go_ret
 exact ⟨rfl, below_alloc1 _ _⟩
set_option maxHeartbeats 1000000 in
theorem isNone_err (n : Int) (w : World) (hg : Laid w) : Calls Tryz.prog 54 #[.iface 64 (.int .i64 n)] w (Bk w (.bool (n == 5))) := by
 have hgA : (w.alloc (.cells #[.int .i64 0] 64)).cell? ⟨1, 0, none⟩ = some (.iface 199 (.agg #[.pointer (some ⟨11, 24, none⟩)])) := by
  rw [World.cell?_alloc_lt _ _ ⟨1, 0, none⟩ hg.lt]; exact hg
 have htA : (w.alloc (.cells #[.int .i64 0] 64)).cell? ⟨w.heap.size, 0, none⟩ = some (.int .i64 0) := by simp
 have hfA : (w.alloc (.cells #[.int .i64 0] 64)).frozen? ⟨w.heap.size, 0, none⟩ = false := by simp
 clear hg
 go_enter Tryz.func54, Tryz.ntmps54
 go_wp2_with (go_at_call 64; refine (as_hit _ _ _ _ hgA htA hfA).mono ?_; rintro e w' ⟨rfl, rfl⟩)
 go_ret
 refine ⟨rfl, ?_⟩
 exact ((((((Below.refl _ _).alloc (Nat.le_refl _) _).alloc (by simp) _).alloc (by simp; omega) _).alloc (by simp; omega) _).alloc (by simp; omega) _)
set_option maxHeartbeats 8000000 in
theorem members_any (ats : List At) (d : List Int) (ao : Option Addr) (acap : Nat) (dao : Option Addr) (dcap : Nat) (w : World) (hA : ReadsA w (.slice ao ats.length acap) ats) (hD : Reads w (.slice dao d.length dcap) d) (hK : KindsLaid w) (hL : TimesLaid w)
    (hflt : ∀ a ∈ ats, a.fault = 0) (h6 : ats.length ≤ 6) (hok : cubeOk ats.length d) :
    Calls Tryz.prog 84 #[.slice ao ats.length acap, .slice dao d.length dcap] w fun e w' => ∃ ro rcap, e = .returned (.tuple #[.slice ro (cubeR ats d).length rcap, .nilIface]) ∧ ReadsR w' (.slice ro (cubeR ats d).length rcap) (cubeR ats d) ∧ Below w.heap.size w w' := by
 have HA := hide hA
 have HD := hide hD
 have HK := hide hK
 have HL := hide hL
 have Hflt := hide hflt
 have HDok := hide hok
 have hd6 : d.length ≤ 6 := by have := cube_len hok; omega
 obtain ⟨M, hMe⟩ := nm ats.length
 obtain ⟨nd, hnd⟩ := nm d.length
 rw [← hMe] at HA h6
 rw [← hnd] at HD hd6
 rw [← hMe, ← hnd]
 have HMe := hide hMe
 have HND := hide hnd
 clear hA hD hK hL hflt hok hMe hnd
 go_enter Tryz.func84, Tryz.ntmps84
 go_wp2
 go_loopw [6, 13] (fun r i wx => ∃ kk : Nat, kk ≤ nd ∧ i = .int .i64 kk ∧ wx.ownsRow w.heap.size 183 9 r kk (cellsR ((d.take kk).map (rowOf ats))) ∧ Below w.heap.size w wx) (fun _ i _ => nd - (intOf i).toNat)
 case atStart => exact ⟨0, Nat.zero_le _, rfl, World.ownsRow_nil _ _ _ _, Below.refl _ _⟩
 case round =>
  obtain ⟨kk, hkk, rfl, hown, hbx⟩ := hrel
  have HBx := hide hbx
  have HOw := hide hown
  clear hbx hown
  by_cases hl2 : kk < nd
  ·obtain ⟨bd, od, hdo, z⟩ : ∃ bd od, dao = some ⟨bd, od, none⟩ ∧ wr.cell? ⟨bd, od + kk, none⟩ = some (.int .i64 (d.getD kk 0)) := by
    rcases HD.out with ⟨ao, cap, hv, h0⟩ | ⟨b, off, cap, hv, hb, _, _, hcell⟩
    ·have := HND.out; rw [h0] at this; simp at this; omega
    ·obtain ⟨h1, _, _⟩ := Value.slice.inj hv
     exact ⟨b, off, h1, (HBx.out.cell hb).trans (hcell kk (by rw [← HND.out]; exact hl2))⟩
   subst hdo
   have HM : Hid (d[kk]? = some (d.getD kk 0)) := by
    unfold Hid
    have : kk < d.length := by rw [← HND.out]; exact hl2
    rw [List.getD_eq_getElem?_getD, List.getElem?_eq_getElem this]; rfl
   obtain ⟨m, hm⟩ := nm (d.getD kk 0)
   rw [← hm] at HM z
   clear hm
   obtain ⟨m1, m2⟩ := HDok.out.1 m (List.mem_of_getElem? HM.out)
   obtain ⟨j, hj⟩ : ∃ j, m.natAbs = j + 1 := ⟨m.natAbs - 1, by omega⟩
   have hjM : j < M := by rw [HMe.out]; omega
   have hj6 : j < 6 := by omega
   obtain ⟨a, ha⟩ := nm (ats.getD (m.natAbs - 1) atZ)
   have haj : ats[j]? = some a := by
    have : j < ats.length := by rw [← HMe.out]; exact hjM
    rw [ha, hj, Nat.add_sub_cancel, List.getD_eq_getElem?_getD, List.getElem?_eq_getElem this]; rfl
   have hfa : atomFault a.k a.s a.t a.n = 0 := Hflt.out a (List.mem_of_getElem? haj)
   have HRow : Hid (rowOf ats m = Rw.mk (rowT a.k a.s a.t (decide (0 < m))) (rowM a.k a.n (decide (0 < m)))) := by unfold Hid rowOf; rw [← ha]
   obtain ⟨bA, oA, hao, hat⟩ : ∃ bA oA, ao = some ⟨bA, oA, none⟩ ∧ AtomAt wr bA (oA + j * 4) a := by
    rcases HA.out.below HBx.out with ⟨ao', cap, hv, h0⟩ | ⟨b, off, cap, hv, hb, _, _, hcell⟩
    ·rw [h0] at haj; simp at haj
    ·obtain ⟨h1, _, _⟩ := Value.slice.inj hv
     exact ⟨b, off, h1, hcell j a haj⟩
   subst hao
   obtain ⟨vs, vt, c0, c1, c2, c3, hs, ht⟩ := hat
   obtain ⟨so, sc, rfl, _⟩ := hs.slice
   obtain ⟨tto, tc, rfl, _⟩ := ht.slice
   obtain ⟨sl, hsl⟩ := nm a.s.length
   obtain ⟨tl, htl⟩ := nm a.t.length
   obtain ⟨ak, hak⟩ := nm a.k
   obtain ⟨an, han⟩ := nm a.n
   obtain ⟨T, hT⟩ := nm (rowT a.k a.s a.t (decide (0 < m)))
   obtain ⟨mm, hmm⟩ := nm (rowM a.k a.n (decide (0 < m)))
   have HR0 : Hid (Calls Tryz.prog 123 #[.agg #[.int .i64 ak, .slice so sl sc, .slice tto tl tc, .int .i64 an], .bool (decide (0 < m))] wr (Bk wr (.tuple #[.agg #[.int .i64 (T 0), .int .i64 (T 1), .int .i64 (T 2), .int .i64 (T 3), .int .i64 (T 4), .int .i64 (T 5), .int .i64 (T 6), .int .i64 (T 7), .int .i64 mm], .nilIface]))) := by
    have h := rowsOf_any a.k a.n (decide (0 < m)) _ _ a.s a.t wr hs ht (HK.out.below HBx.out) (HL.out.below HBx.out)
    unfold ofT ofM at h
    rw [if_pos hfa, if_pos hfa, hfa] at h
    unfold Hid
    rw [hak, han, hsl, htl, hT, hmm]
    exact h
   rw [← hsl] at c1
   rw [← htl] at c2
   rw [← hak] at c0
   rw [← han] at c3
   rw [← hT, ← hmm] at HRow
   clear hs ht hfa haj ha hsl htl hak han hT hmm m1 m2
   go_upto_region 5 with fail
   clear z
   go_cut [9, 10] from 14 to 38 (fun g e wx => ∃ G, g = .pointer (some ⟨G, 0, none⟩) ∧ e = .nilIface ∧ Blk wx G 183 (arrR T mm) ∧ wr.heap.size ≤ G ∧ Below wr.heap.size wr wx)
   case first =>
    rcases (by omega : m = (j : Int) + 1 ∨ m = -((j : Int) + 1)) with rfl | rfl
    ·rw [decide_eq_true (by omega : (0 : Int) < (j : Int) + 1)] at HR0
     have mx1 : max ((j : Int) + 1) (-((j : Int) + 1)) = (j : Int) + 1 := by omega
     have mx2 : max (-((j : Int) + 1)) ((j : Int) + 1) = (j : Int) + 1 := by omega
     clear hj
     go_wp2_with fail
     go_at_call 123
     refine HR0.out.mono ?_
     rintro e w5 ⟨rfl, hb5⟩
     go_wp2_with fail
     go_meet
     exact ⟨w5.heap.size, rfl, rfl, Blk.new w5 _ _, hb5.size, hb5.alloc hb5.size _⟩
    ·rw [decide_eq_false (by omega : ¬ (0 : Int) < -((j : Int) + 1))] at HR0
     have mx1 : max ((j : Int) + 1) (-((j : Int) + 1)) = (j : Int) + 1 := by omega
     have mx2 : max (-((j : Int) + 1)) ((j : Int) + 1) = (j : Int) + 1 := by omega
     clear hj
     go_wp2_with fail
     go_at_call 123
     refine HR0.out.mono ?_
     rintro e w5 ⟨rfl, hb5⟩
     go_wp2_with fail
     go_meet
     exact ⟨w5.heap.size, rfl, rfl, Blk.new w5 _ _, hb5.size, hb5.alloc hb5.size _⟩
   case rest =>
    obtain ⟨G, rfl, rfl, hG, hG2, hbc⟩ := hcut
    obtain ⟨w6, hw6⟩ := nm wc
    subst hw6
    have HB6 := hide (HBx.out.trans (hbc.mono HBx.out.size))
    have hlen : ((d.take kk).map (rowOf ats)).length = kk := by rw [List.length_map, List.length_take, ← HND.out]; omega
    obtain ⟨l, hl⟩ := nm ((d.take kk).map (rowOf ats))
    have HO6 : Hid (w6.ownsRow w.heap.size 183 9 u6 l.length (cellsR l)) := by
     have h := ownsRow_same HOw.out hbc.block
     unfold Hid
     rw [hl, hlen]
     exact h
    have HLl : Hid (l.length = kk) := by unfold Hid; rw [hl]; exact hlen
    have HLs : Hid ((d.take (kk + 1)).map (rowOf ats) = l ++ [Rw.mk T mm]) := by
     unfold Hid
     rw [List.take_add_one, HM.out, List.map_append, ← hl, ← HRow.out]; rfl
    have HS6 := hide (HB6.out.size)
    obtain ⟨r0, r1, r2, r3, r4, r5, r6, r7, r8⟩ := hG.cells9
    clear hG hG2 hbc hl hlen c0 c1 c2 c3 hj
    have hl12 : l.length ≤ 12 := by have := HLl.out; omega
    go_wp2_with (at_builtin; refine append_one rfl _ _ rfl w.heap.size u6 rfl l (Rw.mk T mm) w6.heap.size 1 rfl (HO6.out.alloc _) (heap_alloc_new w6 _) (by have := HS6.out; simp; omega) hl12 ?_)
    intro v9 w9 hown hgrow
    have HBa : Hid (Below w.heap.size w (w6.alloc (.cells #[.int .i64 (T 0), .int .i64 (T 1), .int .i64 (T 2), .int .i64 (T 3), .int .i64 (T 4), .int .i64 (T 5), .int .i64 (T 6), .int .i64 (T 7), .int .i64 mm] 183))) := HB6.out.alloc HB6.out.size _
    have HB9 : Hid (Below w.heap.size w w9) := HBa.out.grown hgrow HBa.out.size (fun x hx => (HO6.out.lt x hx).1)
    have HO9 : Hid (w9.ownsRow w.heap.size 183 9 v9 (kk + 1) (cellsR ((d.take (kk + 1)).map (rowOf ats)))) := by
     unfold Hid
     rw [HLs.out]
     have h : w9.ownsRow w.heap.size 183 9 v9 (l.length + 1) (cellsR (l ++ [Rw.mk T mm])) := hown
     rw [HLl.out] at h
     exact h
    clear hown hgrow r0 r1 r2 r3 r4 r5 r6 r7 r8
    go_wp2
    go_roundw
    case rel => exact ⟨kk + 1, by omega, by go_num, HO9.out, HB9.out⟩
    case measure => simp [intOf]; omega
  ·obtain rfl : kk = nd := by omega
   have hlen : ((d.take kk).map (rowOf ats)).length = kk := by rw [List.length_map, List.length_take, ← HND.out]; omega
   have hcb : (d.take kk).map (rowOf ats) = cubeR ats d := by rw [HND.out, List.take_length]; rfl
   have hRr : ReadsR wr u6 (cubeR ats d) := by
    have h := HOw.out
    rw [hcb] at h hlen
    rw [← hlen] at h
    exact own_readsR h (by omega)
   obtain ⟨ro, rcap, hru, _⟩ := hRr.slice
   subst hru
   have HRr := hide hRr
   clear hRr hlen hcb
   go_wp2
   go_ret2
   exact ⟨ro, rcap, rfl, HRr.out, HBx.out⟩
theorem many_find {A : List (Nat → Int)} {p : (Nat → Int) → Bool} : (A.find? p = none → manyD A p 0 = 0) ∧ ∀ N, A.find? p = some N → ¬ manyD A p 0 = 0 ∧ leastD A p 0 = N := by
 unfold manyD leastD
 rw [List.drop_zero]
 refine ⟨fun h => ?_, fun N h => ⟨fun h0 => ?_, by rw [h]; rfl⟩⟩
 ·rw [List.length_eq_zero_iff, List.filter_eq_nil_iff]
  intro x hx
  simpa using List.find?_eq_none.1 h x hx
 ·rw [List.length_eq_zero_iff, List.filter_eq_nil_iff] at h0
  exact absurd (List.find?_some h) (by simpa using h0 N (List.mem_of_find?_eq_some h))
set_option maxHeartbeats 4000000 in
theorem mfirst_any (n : Nat) (hn : n ≤ 6) (ats : List At) (d : List Int) (ao : Option Addr) (acap : Nat) (dao : Option Addr) (dcap : Nat) (w : World) (hA : ReadsA w (.slice ao ats.length acap) ats) (hD : Reads w (.slice dao d.length dcap) d) (hK : KindsLaid w) (hL : TimesLaid w)
    (hflt : ∀ a ∈ ats, a.fault = 0) (h6 : ats.length ≤ 6) (hok : cubeOk ats.length d) :
    Calls Tryz.prog 53 #[.slice ao ats.length acap, .slice dao d.length dcap, .int .i64 n] w fun e w' =>
     ((∃ N, (everyC n).find? (fitB (cubeR ats d)) = some N ∧ e = .returned (.tuple #[.agg (arrW (madeN N 8)), .nilIface])) ∨ ((everyC n).find? (fitB (cubeR ats d)) = none ∧ e = .returned (.tuple #[.agg (arrW ⟨0, 0, 0, 0⟩), .iface 64 (.int .i64 5)]))) ∧ Below w.heap.size w w' := by
 have hff : fitFault (n : Int) (cubeR ats d) = 0 := by unfold fitFault; rw [if_pos ⟨by omega, by omega⟩]; exact cube_rows hflt h6 hok
 have HM : Hid (∀ W, Below w.heap.size w W → Calls Tryz.prog 84 #[.slice ao ats.length acap, .slice dao d.length dcap] W fun e w' => ∃ ro rl rcap, e = .returned (.tuple #[.slice ro rl rcap, .nilIface]) ∧ (∀ W', Below w'.heap.size w' W' → Calls Tryz.prog 85 #[.int .i64 n, .slice ro rl rcap] W' fun e w'' => e = .returned (.tuple #[.agg (arr8 (leastN n (cubeR ats d))), errV (leastFault n (cubeR ats d))]) ∧ Below W'.heap.size W' w'') ∧ Below W.heap.size W w') := fun W hW => by
  refine (members_any ats d ao acap dao dcap W (hA.below hW) (hD.below hW) (hK.below hW) (hL.below hW) hflt h6 hok).mono ?_
  rintro e w' ⟨ro, rcap, rfl, hR, hb⟩
  exact ⟨ro, _, rcap, rfl, fun W' hW' => least_any n (cubeR ats d) _ W' (hR.below hW'), hb⟩
 obtain ⟨f1, f2⟩ := @many_find (everyC n) (fitB (cubeR ats d))
 have efault : leastFault (n : Int) (cubeR ats d) = if manyD (everyC n) (fitB (cubeR ats d)) 0 = 0 then 5 else 0 := by
  have hm : fitManyN (n : Int) (cubeR ats d) = (manyD (everyC n) (fitB (cubeR ats d)) 0 : Int) := by unfold fitManyN; rw [if_pos hff, Int.toNat_natCast]
  unfold leastFault
  rw [if_pos hff, hm]
  by_cases h : manyD (everyC n) (fitB (cubeR ats d)) 0 = 0
  ·rw [if_pos h, if_pos (by omega)]
  ·rw [if_neg h, if_neg (by omega)]
 have eleast : leastN (n : Int) (cubeR ats d) = leastD (everyC n) (fitB (cubeR ats d)) 0 := by unfold leastN; rw [if_pos hff, Int.toNat_natCast]
 obtain ⟨w1, hw1⟩ : ∃ w1, w1 = w.alloc (.cells #[.int .i64 0, .int .i64 0, .int .i64 0, .int .i64 0] 55) := ⟨_, rfl⟩
 have HB1 : Hid (Below w.heap.size w w1) := by unfold Hid; rw [hw1]; exact below_alloc1 _ _
 have HP1 : Hid (Blk w1 w.heap.size 55 (arrW ⟨0, 0, 0, 0⟩)) := by unfold Hid; rw [hw1]; exact Blk.new _ _ _
 obtain ⟨M, hMe⟩ : ∃ M, M = ats.length := ⟨_, rfl⟩
 obtain ⟨nd, hnd⟩ : ∃ x, x = d.length := ⟨_, rfl⟩
 rw [← hMe, ← hnd] at HM ⊢
 cases hfd : (everyC n).find? (fitB (cubeR ats d)) with
 | none =>
  rw [efault, if_pos (f1 hfd)] at HM
  obtain ⟨N, hN⟩ : ∃ N, N = leastN (n : Int) (cubeR ats d) := ⟨_, rfl⟩
  rw [← hN] at HM
  clear hff hA hD hK hL hflt h6 hok f1 f2 efault eleast hMe hnd hN hfd
  go_enter Tryz.func53, Tryz.ntmps53
  go_wp2_with fail
  rw [← hw1]
  clear hw1
  go_wp2_with fail
  go_at_call 84
  refine (HM.out _ HB1.out).mono ?_
  rintro e w2 ⟨ro, rl, rcap, rfl, hLe, hb⟩
  have HLe : Hid (∀ W', Below w2.heap.size w2 W' → Calls Tryz.prog 85 #[.int .i64 n, .slice ro rl rcap] W' fun e w'' => e = .returned (.tuple #[.agg (arr8 N), .iface 64 (.int .i64 5)]) ∧ Below W'.heap.size W' w'') := hLe
  have HB2 : Hid (Below w.heap.size w w2) := HB1.out.trans (hb.mono HB1.out.size)
  have HP2 : Hid (Blk w2 w.heap.size 55 (arrW ⟨0, 0, 0, 0⟩)) := HP1.out.below hb
  clear hLe hb
  go_wp2_with fail
  go_at_call 85
  refine (HLe.out _ (Below.refl _ _)).mono ?_
  rintro e w3 ⟨rfl, hb⟩
  have HB3 : Hid (Below w.heap.size w w3) := HB2.out.trans (hb.mono HB2.out.size)
  have HP3 : Hid (Blk w3 w.heap.size 55 (arrW ⟨0, 0, 0, 0⟩)) := HP2.out.below hb
  clear hb
  obtain ⟨w4, hw4⟩ : ∃ w4, w4 = w3.alloc (.cells (arr8 N) 122) := ⟨_, rfl⟩
  have HB4 : Hid (Below w.heap.size w w4) := by unfold Hid; rw [hw4]; exact HB3.out.alloc HB3.out.size _
  have HP4 : Hid (Blk w4 w.heap.size 55 (arrW ⟨0, 0, 0, 0⟩)) := by unfold Hid; rw [hw4]; exact HP3.out.old _
  unfold arr8 at hw4 ⊢
  go_upto_region 5 with fail
  rw [← hw4]
  clear hw4
  have p0 : w4.cell? ⟨w.heap.size, 0, none⟩ = some (.int .i64 0) := HP4.out.cell 0
  have p1 : w4.cell? ⟨w.heap.size, 1, none⟩ = some (.int .i64 0) := HP4.out.cell 1
  have p2 : w4.cell? ⟨w.heap.size, 2, none⟩ = some (.int .i64 0) := HP4.out.cell 2
  have p3 : w4.cell? ⟨w.heap.size, 3, none⟩ = some (.int .i64 0) := HP4.out.cell 3
  obtain ⟨q0, q1, q2, q3⟩ := HP4.out.frozen4
  go_wp2
  have hld := loadW (putW_blk HP4.out ⟨0, 0, 0, 0⟩)
  refine bodyPost_ret (v := .tuple #[.agg (arrW ⟨0, 0, 0, 0⟩), .iface 64 (.int .i64 5)]) ?_ rfl ⟨Or.inr ⟨by first | rfl | trivial, rfl⟩, ?_⟩
  ·rw [results_cell_tmp rfl]
   unfold putW arrW at hld
   simp only at hld
   simp [asAddr, Result.andThen, hld, arrW]
  ·exact putW_below HB4.out (Nat.le_refl _) ⟨0, 0, 0, 0⟩
 | some N =>
  obtain ⟨g1, g2⟩ := f2 N hfd
  rw [efault, if_neg g1, eleast, g2] at HM
  have hcN : countsFault N = 0 := everyC_right hn (List.mem_of_find?_eq_some hfd)
  have HW : Hid (∀ W, Calls Tryz.prog 78 #[.agg #[.int .i64 (N 0), .int .i64 (N 1), .int .i64 (N 2), .int .i64 (N 3), .int .i64 (N 4), .int .i64 (N 5), .int .i64 (N 6), .int .i64 (N 7)]] W (Bk W (.tuple #[.agg #[.int .i64 (madeN N 8).u, .int .i64 (madeN N 8).a, .int .i64 (madeN N 8).b, .int .i64 (madeN N 8).c], .nilIface]))) := fun W => by
   have h := fworld_any N W
   unfold madeW at h
   rw [if_pos hcN, hcN] at h
   exact h
  obtain ⟨D, hDe⟩ : ∃ D, D = madeN N 8 := ⟨_, rfl⟩
  rw [← hDe] at HW
  have HDe : Hid (D = madeN N 8) := hDe
  clear hff hA hD hK hL hflt h6 hok f1 f2 efault eleast hMe hnd hfd g1 g2 hcN hDe
  go_enter Tryz.func53, Tryz.ntmps53
  go_wp2_with fail
  rw [← hw1]
  clear hw1
  go_wp2_with fail
  go_at_call 84
  refine (HM.out _ HB1.out).mono ?_
  rintro e w2 ⟨ro, rl, rcap, rfl, hLe, hb⟩
  have HLe : Hid (∀ W', Below w2.heap.size w2 W' → Calls Tryz.prog 85 #[.int .i64 n, .slice ro rl rcap] W' fun e w'' => e = .returned (.tuple #[.agg (arr8 N), .nilIface]) ∧ Below W'.heap.size W' w'') := hLe
  have HB2 : Hid (Below w.heap.size w w2) := HB1.out.trans (hb.mono HB1.out.size)
  have HP2 : Hid (Blk w2 w.heap.size 55 (arrW ⟨0, 0, 0, 0⟩)) := HP1.out.below hb
  clear hLe hb
  go_wp2_with fail
  go_at_call 85
  refine (HLe.out _ (Below.refl _ _)).mono ?_
  rintro e w3 ⟨rfl, hb⟩
  have HB3 : Hid (Below w.heap.size w w3) := HB2.out.trans (hb.mono HB2.out.size)
  have HP3 : Hid (Blk w3 w.heap.size 55 (arrW ⟨0, 0, 0, 0⟩)) := HP2.out.below hb
  clear hb
  obtain ⟨w4, hw4⟩ : ∃ w4, w4 = w3.alloc (.cells (arr8 N) 122) := ⟨_, rfl⟩
  have HB4 : Hid (Below w.heap.size w w4) := by unfold Hid; rw [hw4]; exact HB3.out.alloc HB3.out.size _
  have HP4 : Hid (Blk w4 w.heap.size 55 (arrW ⟨0, 0, 0, 0⟩)) := by unfold Hid; rw [hw4]; exact HP3.out.old _
  have HN4 : Hid (Blk w4 w3.heap.size 122 (arr8 N)) := by unfold Hid; rw [hw4]; exact Blk.new _ _ _
  unfold arr8 at hw4 ⊢
  go_upto_region 5 with fail
  rw [← hw4]
  clear hw4
  obtain ⟨r0, r1, r2, r3, r4, r5, r6, r7⟩ := HN4.out.cells8
  go_wp2_with fail
  go_at_call 78
  refine (HW.out _).mono ?_
  rintro e w5 ⟨rfl, hb⟩
  have HB5 : Hid (Below w.heap.size w w5) := HB4.out.trans (hb.mono HB4.out.size)
  have HP5 : Hid (Blk w5 w.heap.size 55 (arrW ⟨0, 0, 0, 0⟩)) := HP4.out.below hb
  clear hb r0 r1 r2 r3 r4 r5 r6 r7
  have p0 : w5.cell? ⟨w.heap.size, 0, none⟩ = some (.int .i64 0) := HP5.out.cell 0
  have p1 : w5.cell? ⟨w.heap.size, 1, none⟩ = some (.int .i64 0) := HP5.out.cell 1
  have p2 : w5.cell? ⟨w.heap.size, 2, none⟩ = some (.int .i64 0) := HP5.out.cell 2
  have p3 : w5.cell? ⟨w.heap.size, 3, none⟩ = some (.int .i64 0) := HP5.out.cell 3
  obtain ⟨q0, q1, q2, q3⟩ := HP5.out.frozen4
  go_wp2
  have hld := loadW (putW_blk HP5.out D)
  refine bodyPost_ret (v := .tuple #[.agg (arrW D), .nilIface]) ?_ rfl ⟨Or.inl ⟨N, rfl, by rw [HDe.out]⟩, ?_⟩
  ·rw [results_cell_tmp rfl]
   unfold putW at hld
   simp [asAddr, Result.andThen, hld]
  ·exact putW_below HB5.out (Nat.le_refl _) D
end Go.Proofs.YtjmeakkmfeoigaaGreatDoor
namespace Go.Proofs.YtjmeakkmfeoigaaGreatDoor
open Go.ChangeShapes Go.WideShapes Go.ChangeAt Go.RowKit
set_option maxRecDepth 100000
theorem modelL_at {ats : List At} {u : Nat} {N : Nat → Int} {d : List Int} : ∀ {L : List (List Int)} {i : Nat}, L[i]? = some d → (∀ j, j < i → ∀ e, L[j]? = some e → (everyC u).find? (fitB (cubeR ats e)) = none) → (everyC u).find? (fitB (cubeR ats d)) = some N → modelL ats u L = some N := by
 intro L
 induction L with
 | nil => intro i h; simp at h
 | cons e L ih =>
  intro i h h1 h2
  unfold modelL
  cases i with
  | zero =>
   obtain rfl : e = d := by simpa using h
   rw [h2]
  | succ i =>
   rw [h1 0 (by omega) e rfl]
   exact ih (i := i) (by simpa using h) (fun j hj e' he' => h1 (j + 1) (by omega) e' (by simpa using he')) h2
theorem modelL_end {ats : List At} {u : Nat} : ∀ {L : List (List Int)}, (∀ j, j < L.length → ∀ e, L[j]? = some e → (everyC u).find? (fitB (cubeR ats e)) = none) → modelL ats u L = none := by
 intro L
 induction L with
 | nil => intro _; rfl
 | cons e L ih =>
  intro h
  unfold modelL
  rw [h 0 (by simp) e rfl]
  exact ih fun j hj e' he' => h (j + 1) (by simp; omega) e' (by simpa using he')
theorem okB_zero {u : Int} (h : 0 ≤ u ∧ u ≤ 6) : okB u 0 = true := by
 obtain ⟨n, rfl⟩ := Int.eq_ofNat_of_zero_le h.1
 have : ∀ n : Nat, n < 7 → okB (n : Int) 0 = true := by decide
 exact this n (by omega)
theorem okB_out {u : Int} (h : ¬ (0 ≤ u ∧ u ≤ 6)) : okB u 0 = false := by
 unfold okB
 exact decide_eq_false fun g => h ⟨g.1, g.2.1⟩
-- a formula whose cubes are told as an error
set_option maxHeartbeats 4000000 in
theorem modelOf_err (ao : Option Addr) (al acap : Nat) (co : Option Addr) (cl ccap : Nat) (u n : Int) (w : World)
    (hCu : ∀ W, Below w.heap.size w W → Calls Tryz.prog 52 #[.agg #[.slice ao al acap, .slice co cl ccap]] W (Bk W (.tuple #[.slice none 0 0, .iface 64 (.int .i64 n)]))) :
    Calls Tryz.prog 25 #[.agg #[.slice ao al acap, .slice co cl ccap], .int .i64 u] w (Bk w (.tuple #[.agg (arrW ⟨0, 0, 0, 0⟩), .iface 64 (.int .i64 n)])) := by
 have HCu := hide hCu
 clear hCu
 obtain ⟨w1, hw1⟩ := nm ((w.alloc (.cells #[.slice ao al acap, .slice co cl ccap] 39)).alloc (.cells #[.int .i64 0, .int .i64 0, .int .i64 0, .int .i64 0] 55))
 have HB1 : Hid (Below w.heap.size w w1) := by unfold Hid; rw [hw1]; exact (below_alloc1 _ _).alloc (by simp) _
 have HP0 : Hid (Blk w1 w.heap.size 39 #[.slice ao al acap, .slice co cl ccap]) := by unfold Hid; rw [hw1]; exact (Blk.new _ _ _).old _
 have HP1 : Hid (Blk w1 (w.heap.size + 1) 55 (arrW ⟨0, 0, 0, 0⟩)) := by
  unfold Hid; rw [hw1]
  have := Blk.new (w.alloc (.cells #[.slice ao al acap, .slice co cl ccap] 39)) 55 (arrW ⟨0, 0, 0, 0⟩)
  simp only [World.size_alloc] at this
  exact this
 have x0 : w1.cell? ⟨w.heap.size, 0, none⟩ = some (.slice ao al acap) := HP0.out.cell 0
 have x1 : w1.cell? ⟨w.heap.size, 1, none⟩ = some (.slice co cl ccap) := HP0.out.cell 1
 go_enter Tryz.func25, Tryz.ntmps25
 go_wp2_with fail
 rw [← hw1]
 clear hw1
 go_wp2_with fail
 go_at_call 52
 refine (HCu.out _ HB1.out).mono ?_
 rintro e w2 ⟨rfl, hb⟩
 have HB2 := hide (HB1.out.trans (hb.mono HB1.out.size))
 have HP2 := hide (HP1.out.below hb)
 clear hb x0 x1
 have p0 : w2.cell? ⟨w.heap.size + 1, 0, none⟩ = some (.int .i64 0) := HP2.out.cell 0
 have p1 : w2.cell? ⟨w.heap.size + 1, 1, none⟩ = some (.int .i64 0) := HP2.out.cell 1
 have p2 : w2.cell? ⟨w.heap.size + 1, 2, none⟩ = some (.int .i64 0) := HP2.out.cell 2
 have p3 : w2.cell? ⟨w.heap.size + 1, 3, none⟩ = some (.int .i64 0) := HP2.out.cell 3
 obtain ⟨q0, q1, q2, q3⟩ := HP2.out.frozen4
 go_wp2
 have hld := loadW (putW_blk HP2.out ⟨0, 0, 0, 0⟩)
 refine bodyPost_ret (v := .tuple #[.agg (arrW ⟨0, 0, 0, 0⟩), .iface 64 (.int .i64 n)]) ?_ rfl ⟨rfl, ?_⟩
 ·rw [results_cell_tmp rfl]
  unfold putW arrW at hld
  simp only at hld
  simp [asAddr, Result.andThen, hld, arrW]
 ·exact putW_below HB2.out (by omega) ⟨0, 0, 0, 0⟩
-- a formula with cubes, and no number of things
set_option maxHeartbeats 4000000 in
theorem modelOf_out (ao : Option Addr) (al acap : Nat) (co : Option Addr) (cl ccap : Nat) (u : Int) (hu : ¬ (0 ≤ u ∧ u ≤ 6)) (w : World)
    (hCu : ∀ W, Below w.heap.size w W → Calls Tryz.prog 52 #[.agg #[.slice ao al acap, .slice co cl ccap]] W fun e w' => ∃ lo ll lcap, e = .returned (.tuple #[.slice lo ll lcap, .nilIface]) ∧ Below W.heap.size W w') :
    Calls Tryz.prog 25 #[.agg #[.slice ao al acap, .slice co cl ccap], .int .i64 u] w (Bk w (.tuple #[.agg (arrW ⟨0, 0, 0, 0⟩), .iface 64 (.int .i64 1)])) := by
 have HCu := hide hCu
 have HCk : Hid (∀ W, Calls Tryz.prog 27 #[.int .i64 u, .int .i64 0] W (Sk W (.iface 64 (.int .i64 1)))) := fun W => check_no u 0 (okB_out hu) W
 clear hCu hu
 obtain ⟨w1, hw1⟩ := nm ((w.alloc (.cells #[.slice ao al acap, .slice co cl ccap] 39)).alloc (.cells #[.int .i64 0, .int .i64 0, .int .i64 0, .int .i64 0] 55))
 have HB1 : Hid (Below w.heap.size w w1) := by unfold Hid; rw [hw1]; exact (below_alloc1 _ _).alloc (by simp) _
 have HP0 : Hid (Blk w1 w.heap.size 39 #[.slice ao al acap, .slice co cl ccap]) := by unfold Hid; rw [hw1]; exact (Blk.new _ _ _).old _
 have HP1 : Hid (Blk w1 (w.heap.size + 1) 55 (arrW ⟨0, 0, 0, 0⟩)) := by
  unfold Hid; rw [hw1]
  have := Blk.new (w.alloc (.cells #[.slice ao al acap, .slice co cl ccap] 39)) 55 (arrW ⟨0, 0, 0, 0⟩)
  simp only [World.size_alloc] at this
  exact this
 have x0 : w1.cell? ⟨w.heap.size, 0, none⟩ = some (.slice ao al acap) := HP0.out.cell 0
 have x1 : w1.cell? ⟨w.heap.size, 1, none⟩ = some (.slice co cl ccap) := HP0.out.cell 1
 go_enter Tryz.func25, Tryz.ntmps25
 go_wp2_with fail
 rw [← hw1]
 clear hw1
 go_wp2_with fail
 go_at_call 52
 refine (HCu.out _ HB1.out).mono ?_
 rintro e w2 ⟨lo, ll, lcap, rfl, hb⟩
 have HB2 := hide (HB1.out.trans (hb.mono HB1.out.size))
 have HP2 := hide (HP1.out.below hb)
 clear hb x0 x1
 go_wp2_with fail
 go_at_call 27
 refine (HCk.out _).mono ?_
 rintro e w3 ⟨rfl, rfl⟩
 have p0 : w2.cell? ⟨w.heap.size + 1, 0, none⟩ = some (.int .i64 0) := HP2.out.cell 0
 have p1 : w2.cell? ⟨w.heap.size + 1, 1, none⟩ = some (.int .i64 0) := HP2.out.cell 1
 have p2 : w2.cell? ⟨w.heap.size + 1, 2, none⟩ = some (.int .i64 0) := HP2.out.cell 2
 have p3 : w2.cell? ⟨w.heap.size + 1, 3, none⟩ = some (.int .i64 0) := HP2.out.cell 3
 obtain ⟨q0, q1, q2, q3⟩ := HP2.out.frozen4
 go_wp2
 have hld := loadW (putW_blk HP2.out ⟨0, 0, 0, 0⟩)
 refine bodyPost_ret (v := .tuple #[.agg (arrW ⟨0, 0, 0, 0⟩), .iface 64 (.int .i64 1)]) ?_ rfl ⟨rfl, ?_⟩
 ·rw [results_cell_tmp rfl]
  unfold putW arrW at hld
  simp only at hld
  simp [asAddr, Result.andThen, hld, arrW]
 ·exact putW_below HB2.out (by omega) ⟨0, 0, 0, 0⟩
-- a formula with cubes, and a number of things
set_option maxHeartbeats 8000000 in
theorem modelOf_in (n : Nat) (hn : n ≤ 6) (ats : List At) (c : List Int) (L : List (List Int)) (ao : Option Addr) (acap : Nat) (co : Option Addr) (ccap : Nat) (w : World)
    (hA : ReadsA w (.slice ao ats.length acap) ats) (hK : KindsLaid w) (hT : TimesLaid w) (hg : Laid w) (hf : formFault ats c = 0) (hL : cubesC c = some L)
    (hCu : ∀ W, Below w.heap.size w W → Calls Tryz.prog 52 #[.agg #[.slice ao ats.length acap, .slice co c.length ccap]] W fun e w' => ∃ lo lcap, e = .returned (.tuple #[.slice lo L.length lcap, .nilIface]) ∧ RS2 (fun _ => True) w' (.slice lo L.length lcap) L ∧ Below W.heap.size W w') :
    Calls Tryz.prog 25 #[.agg #[.slice ao ats.length acap, .slice co c.length ccap], .int .i64 n] w fun e w' =>
     ((∃ N, modelL ats n L = some N ∧ e = .returned (.tuple #[.agg (arrW (madeN N 8)), .nilIface])) ∨ (modelL ats n L = none ∧ e = .returned (.tuple #[.agg (arrW ⟨0, 0, 0, 0⟩), .iface 64 (.int .i64 5)]))) ∧ Below w.heap.size w w' := by
 obtain ⟨⟨hM1, hM6⟩, _, hflt, _, _⟩ := formFault_zero.1 hf
 obtain ⟨hok, hL40, _⟩ := cubes_say [] hf hL
 obtain ⟨q, hq⟩ : ∃ q : List Int → Option (Nat → Int), q = fun d => (everyC n).find? (fitB (cubeR ats d)) := ⟨_, rfl⟩
 have HFound : Hid (∀ (i : Nat) (d : List Int) (N : Nat → Int), L[i]? = some d → (∀ j, j < i → ∀ e, L[j]? = some e → q e = none) → q d = some N → modelL ats n L = some N) := fun i d N h1 h2 h3 => by
  rw [hq] at h2 h3
  exact modelL_at h1 h2 h3
 have HNone : Hid ((∀ j, j < L.length → ∀ e, L[j]? = some e → q e = none) → modelL ats n L = none) := fun h => by
  rw [hq] at h
  exact modelL_end h
 have HCu := hide hCu
 have HCk : Hid (∀ W, Calls Tryz.prog 27 #[.int .i64 n, .int .i64 0] W (Sk W .nilIface)) := fun W => check_ok n 0 (okB_zero ⟨by omega, by omega⟩) W
 have HFi : Hid (∀ (k : Nat) d dao dcap W, L[k]? = some d → Below w.heap.size w W → Reads W (.slice dao d.length dcap) d → Calls Tryz.prog 53 #[.slice ao ats.length acap, .slice dao d.length dcap, .int .i64 n] W fun e w' => ((∃ N, q d = some N ∧ e = .returned (.tuple #[.agg (arrW (madeN N 8)), .nilIface])) ∨ (q d = none ∧ e = .returned (.tuple #[.agg (arrW ⟨0, 0, 0, 0⟩), .iface 64 (.int .i64 5)]))) ∧ Below W.heap.size W w') := fun k d dao dcap W hd hW hR => by
  rw [hq]
  exact mfirst_any n hn ats d ao acap dao dcap W (hA.below hW) hR (hK.below hW) (hT.below hW) hflt hM6 (hok.1 d (List.mem_of_getElem? hd))
 have HIs : Hid (∀ W, Below w.heap.size w W → Calls Tryz.prog 54 #[.iface 64 (.int .i64 5)] W (Bk W (.bool true))) := fun W hW => isNone_err 5 W (hg.below hW)
 obtain ⟨w1, hw1⟩ := nm ((w.alloc (.cells #[.slice ao ats.length acap, .slice co c.length ccap] 39)).alloc (.cells #[.int .i64 0, .int .i64 0, .int .i64 0, .int .i64 0] 55))
 have HB1 : Hid (Below w.heap.size w w1) := by unfold Hid; rw [hw1]; exact (below_alloc1 _ _).alloc (by simp) _
 have HP0 : Hid (Blk w1 w.heap.size 39 #[.slice ao ats.length acap, .slice co c.length ccap]) := by unfold Hid; rw [hw1]; exact (Blk.new _ _ _).old _
 have HP1 : Hid (Blk w1 (w.heap.size + 1) 55 (arrW ⟨0, 0, 0, 0⟩)) := by
  unfold Hid; rw [hw1]
  have := Blk.new (w.alloc (.cells #[.slice ao ats.length acap, .slice co c.length ccap] 39)) 55 (arrW ⟨0, 0, 0, 0⟩)
  simp only [World.size_alloc] at this
  exact this
 obtain ⟨M, hMe⟩ := nm ats.length
 obtain ⟨nc, hnc⟩ := nm c.length
 rw [← hMe, ← hnc] at HCu HP0 hw1 ⊢
 rw [← hMe] at HFi
 clear hCu hq hA hK hT hg hf hL hM1 hM6 hflt hok hMe hnc
 have x0 : w1.cell? ⟨w.heap.size, 0, none⟩ = some (.slice ao M acap) := HP0.out.cell 0
 have x1 : w1.cell? ⟨w.heap.size, 1, none⟩ = some (.slice co nc ccap) := HP0.out.cell 1
 go_enter Tryz.func25, Tryz.ntmps25
 go_wp2_with fail
 rw [← hw1]
 clear hw1
 go_wp2_with fail
 go_at_call 52
 refine (HCu.out _ HB1.out).mono ?_
 rintro e w3 ⟨lo, lcap, rfl, hR3, hb⟩
 have HB3 := hide (HB1.out.trans (hb.mono HB1.out.size))
 have HP03 := hide (HP0.out.below hb)
 have HP13 := hide (HP1.out.below hb)
 have HR3 := hide hR3
 clear hb x0 x1 hR3
 go_wp2_with fail
 go_at_call 27
 refine (HCk.out _).mono ?_
 rintro e w4 ⟨rfl, rfl⟩
 go_wp2
 go_loopw [30] (fun i wr => ∃ k : Nat, k ≤ L.length ∧ i = .int .i64 k ∧ Below w3.heap.size w3 wr ∧ ∀ j, j < k → ∀ e, L[j]? = some e → q e = none) (fun i _ => L.length - (intOf i).toNat)
 case atStart => exact ⟨0, Nat.zero_le _, rfl, Below.refl _ _, fun j hj => by omega⟩
 case round =>
  obtain ⟨k, hk, rfl, hbr, hno⟩ := hrel
  have HBr := hide hbr
  have HNo := hide hno
  clear hbr hno
  have HP1r := hide (HP13.out.below HBr.out)
  have HBw := hide (HB3.out.trans (HBr.out.mono HB3.out.size))
  by_cases hlt : k < L.length
  ·obtain ⟨d, hd⟩ : ∃ d, L[k]? = some d := ⟨_, List.getElem?_eq_getElem hlt⟩
   have HD := hide hd
   clear hd
   obtain ⟨bL, oL, hlo, hbL, vd, hvd, hrs⟩ : ∃ bL oL, lo = some ⟨bL, oL, none⟩ ∧ bL < w3.heap.size ∧ ∃ vd, w3.cell? ⟨bL, oL + k, none⟩ = some vd ∧ RS (fun _ => True) w3 vd d := by
    rcases HR3.out with ⟨ao', cap, hv, h0⟩ | ⟨b, off, cap, hv, ⟨_, hb⟩, _, _, hcell⟩
    ·rw [h0] at hlt; simp at hlt
    ·obtain ⟨h1, _, _⟩ := Value.slice.inj hv
     obtain ⟨vd, h2, h3⟩ := hcell k d HD.out
     exact ⟨b, off, h1, hb, vd, h2, h3⟩
   subst hlo
   obtain ⟨dao, dcap, rfl, _⟩ := hrs.slice
   have y : wr.cell? ⟨bL, oL + k, none⟩ = some (.slice dao d.length dcap) := (HBr.out.cell hbL).trans hvd
   have HF := hide (HFi.out k d dao dcap wr HD.out HBw.out (hrs.reads.below HBr.out))
   clear hvd hrs hbL
   obtain ⟨nd, hnd⟩ := nm d.length
   rw [← hnd] at y HF
   clear hnd
   have x0 : wr.cell? ⟨w.heap.size, 0, none⟩ = some (.slice ao M acap) := (HP03.out.below HBr.out).cell 0
   go_wp2_with fail
   go_at_call 53
   refine HF.out.mono ?_
   rintro e w5 ⟨hor, hb⟩
   have HB5 := hide (HBr.out.trans (hb.mono HBr.out.size))
   have HBw5 := hide (HBw.out.trans (hb.mono HBw.out.size))
   have HP15 := hide (HP1r.out.below hb)
   clear hb x0 y
   rcases hor with ⟨N, hN, rfl⟩ | ⟨hN, rfl⟩
   ·have HFo := hide (HFound.out k d N HD.out HNo.out hN)
    clear hN
    obtain ⟨D, hDe⟩ := nm (madeN N 8)
    rw [← hDe]
    have HDe := hide hDe
    clear hDe
    obtain ⟨w6, hw6⟩ := nm (w5.alloc (.cells (arrW D) 55))
    have HB6 : Hid (Below w.heap.size w w6) := by unfold Hid; rw [hw6]; exact HBw5.out.alloc HBw5.out.size _
    have HP6 : Hid (Blk w6 (w.heap.size + 1) 55 (arrW ⟨0, 0, 0, 0⟩)) := by unfold Hid; rw [hw6]; exact HP15.out.old _
    have HQ6 : Hid (Blk w6 w5.heap.size 55 (arrW D)) := by unfold Hid; rw [hw6]; exact Blk.new _ _ _
    unfold arrW at hw6
    simp only [arrW]
    go_upto_region 11 with fail
    rw [← hw6]
    clear hw6
    go_wp2_with fail
    go_at_call 54
    refine (isNone_nil _).mono ?_
    rintro e w7 ⟨rfl, hb⟩
    have HB7 := hide (HB6.out.trans (hb.mono HB6.out.size))
    have HP7 := hide (HP6.out.below hb)
    have HQ7 := hide (HQ6.out.below hb)
    clear hb
    have p0 : w7.cell? ⟨w.heap.size + 1, 0, none⟩ = some (.int .i64 0) := HP7.out.cell 0
    have p1 : w7.cell? ⟨w.heap.size + 1, 1, none⟩ = some (.int .i64 0) := HP7.out.cell 1
    have p2 : w7.cell? ⟨w.heap.size + 1, 2, none⟩ = some (.int .i64 0) := HP7.out.cell 2
    have p3 : w7.cell? ⟨w.heap.size + 1, 3, none⟩ = some (.int .i64 0) := HP7.out.cell 3
    obtain ⟨q0, q1, q2, q3⟩ := HP7.out.frozen4
    obtain ⟨d0, d1, d2, d3⟩ := HQ7.out.cells4
    go_wp2
    have hld := loadW (putW_blk HP7.out D)
    refine bodyPost_ret (v := .tuple #[.agg (arrW D), .nilIface]) ?_ rfl ⟨Or.inl ⟨N, HFo.out, by rw [← HDe.out]⟩, ?_⟩
    ·rw [results_cell_tmp rfl]
     unfold putW at hld
     simp [asAddr, Result.andThen, hld]
    ·exact putW_below HB7.out (by omega) D
   ·have HN1 : Hid (∀ j, j < k + 1 → ∀ e, L[j]? = some e → q e = none) := fun j hj e he => by
     rcases Nat.lt_or_ge j k with h | h
     ·exact HNo.out j h e he
     ·obtain rfl : j = k := by omega
      have e2 := HD.out.symm.trans he
      rw [← Option.some.inj e2]
      exact hN
    clear hN
    obtain ⟨w6, hw6⟩ := nm (w5.alloc (.cells (arrW ⟨0, 0, 0, 0⟩) 55))
    have HB6 : Hid (Below w3.heap.size w3 w6) := by unfold Hid; rw [hw6]; exact HB5.out.alloc HB5.out.size _
    have HBw6 := hide (HB3.out.trans (HB6.out.mono HB3.out.size))
    simp only [arrW] at hw6 ⊢
    go_upto_region 11 with fail
    rw [← hw6]
    clear hw6
    go_wp2_with fail
    go_at_call 54
    refine (HIs.out _ HBw6.out).mono ?_
    rintro e w7 ⟨rfl, hb⟩
    have HB7 := hide (HB6.out.trans (hb.mono HB6.out.size))
    clear hb
    go_wp2
    go_roundw
    case rel => exact ⟨k + 1, by omega, by go_num, HB7.out, HN1.out⟩
    case measure => simp [intOf]; omega
  ·obtain rfl : k = L.length := by omega
   have HE := hide (HNone.out HNo.out)
   have p0 : wr.cell? ⟨w.heap.size + 1, 0, none⟩ = some (.int .i64 0) := HP1r.out.cell 0
   have p1 : wr.cell? ⟨w.heap.size + 1, 1, none⟩ = some (.int .i64 0) := HP1r.out.cell 1
   have p2 : wr.cell? ⟨w.heap.size + 1, 2, none⟩ = some (.int .i64 0) := HP1r.out.cell 2
   have p3 : wr.cell? ⟨w.heap.size + 1, 3, none⟩ = some (.int .i64 0) := HP1r.out.cell 3
   obtain ⟨q0, q1, q2, q3⟩ := HP1r.out.frozen4
   go_wp2
   have hld := loadW (putW_blk HP1r.out ⟨0, 0, 0, 0⟩)
   refine bodyPost_ret (v := .tuple #[.agg (arrW ⟨0, 0, 0, 0⟩), .iface 64 (.int .i64 5)]) ?_ rfl ⟨Or.inr ⟨HE.out, rfl⟩, ?_⟩
   ·rw [results_cell_tmp rfl]
    unfold putW arrW at hld
    simp only at hld
    simp [asAddr, Result.andThen, hld, arrW]
   ·exact putW_below HBw.out (by omega) ⟨0, 0, 0, 0⟩
end Go.Proofs.YtjmeakkmfeoigaaGreatDoor
namespace Go.Proofs.YtjmeakkmfeoigaaGreatDoor
open Go.ChangeShapes Go.WideShapes Go.ChangeAt Go.RowKit
set_option maxRecDepth 100000
end Go.Proofs.YtjmeakkmfeoigaaGreatDoor
namespace Go.Proofs.YtjmeakkmfeoigaaGreatDoor
open Go.RowKit
theorem mem_compactUpTo (d : Array Int) : ∀ m, ∀ x, x ∈ Lib.compactUpTo d m ↔ ∃ j, j < m ∧ x = d[j]! := by
 intro m
 induction m with
 | zero => intro x; simp [Lib.compactUpTo]
 | succ m ih =>
  intro x
  rw [Lib.compactUpTo_succ, List.mem_append, ih]
  constructor
  ·rintro (⟨j, hj, e⟩ | h)
   ·exact ⟨j, by omega, e⟩
   ·split at h
    ·exact ⟨m, by omega, List.mem_singleton.1 h⟩
    ·cases h
  ·rintro ⟨j, hj, e⟩
   by_cases h : j < m
   ·exact Or.inl ⟨j, h, e⟩
   ·obtain rfl : j = m := by omega
    by_cases hk : Lib.keeps d j = true
    ·right; rw [if_pos hk]; simp [e]
    ·left
     have hk' : ¬ (j = 0 ∨ d[j]! ≠ d[j - 1]!) := by
      intro hh; apply hk; unfold Lib.keeps; exact decide_eq_true hh
     refine ⟨j - 1, by omega, ?_⟩
     rw [e]
     by_cases he : d[j]! = d[j - 1]!
     ·exact he
     ·exact absurd (Or.inr he) hk'
theorem rising_compactUpTo (d : Array Int) (n : Nat) (hs : ∀ i j, i < j → j < n → (d[i]!).natAbs ≤ (d[j]!).natAbs) (hw : ∀ i j, i < n → j < n → (d[i]!).natAbs = (d[j]!).natAbs → d[i]! = d[j]!) :
    ∀ m, m ≤ n → (Lib.compactUpTo d m).Pairwise (fun a b => a.natAbs < b.natAbs) := by
 intro m
 induction m with
 | zero => intro _; simp [Lib.compactUpTo]
 | succ m ih =>
  intro hm
  rw [Lib.compactUpTo_succ, List.pairwise_append]
  refine ⟨ih (by omega), by split <;> simp, ?_⟩
  intro x hx y hy
  split at hy
  ·rename_i hk
   rw [List.mem_singleton.1 hy]
   obtain ⟨j, hj, rfl⟩ := (mem_compactUpTo d m x).1 hx
   have hk' : m = 0 ∨ d[m]! ≠ d[m - 1]! := of_decide_eq_true hk
   have h1 : d[m]! ≠ d[m - 1]! := hk'.resolve_left (by omega)
   have h2 := hs (m - 1) m (by omega) (by omega)
   have h3 : (d[j]!).natAbs ≤ (d[m - 1]!).natAbs := by
    by_cases e : j = m - 1
    ·rw [e]; exact Nat.le_refl _
    ·exact hs j (m - 1) (by omega) (by omega)
   have h4 : (d[m - 1]!).natAbs ≠ (d[m]!).natAbs := fun e => h1 (hw (m - 1) m (by omega) (by omega) e).symm
   omega
  ·cases hy
def farC (m n : Int) : Int := Lib.compareInt m.natAbs n.natAbs
theorem joined_is {M : Nat} (hM : M ≤ 6) {c d : List Int} (hc : cubeOk M c) (hd : cubeOk M d) {e : Array Int} (hp : e.toList.Perm (c ++ d)) (hs : ∀ i j, i < j → j < e.size → (e[i]!).natAbs ≤ (e[j]!).natAbs) :
    (∀ m, m ∈ Lib.compact e.toList ↔ m ∈ c ++ d) ∧ (bothWays (c ++ d) = false → Lib.compact e.toList = joinC c d) := by
 have hr : ∀ m ∈ c ++ d, 1 ≤ m.natAbs ∧ m.natAbs ≤ 6 := by
  intro m hm
  rcases List.mem_append.1 hm with h | h
  ·have := hc.1 m h; omega
  ·have := hd.1 m h; omega
 have h0 : Lib.compact e.toList = Lib.compactUpTo e e.size := by unfold Lib.compact; simp
 have hmem : ∀ m, m ∈ Lib.compact e.toList ↔ m ∈ c ++ d := by
  intro m
  rw [h0, mem_compactUpTo, ← hp.mem_iff, Array.mem_toList_iff]
  constructor
  ·rintro ⟨j, hj, rfl⟩
   rw [getElem!_pos e j hj]; exact Array.getElem_mem hj
  ·intro h
   obtain ⟨j, hj, rfl⟩ := Array.mem_iff_getElem.1 h
   exact ⟨j, hj, (getElem!_pos e j hj).symm⟩
 refine ⟨hmem, fun hb => ?_⟩
 have hin : ∀ i, i < e.size → e[i]! ∈ c ++ d := fun i hi => by
  rw [← hp.mem_iff, Array.mem_toList_iff, getElem!_pos e i hi]; exact Array.getElem_mem hi
 refine rising_ext ?_ (join_ok hM hc hd hb).2 (fun m => (hmem m).trans (mem_joinC hr hb m).symm)
 rw [h0]
 refine rising_compactUpTo e e.size hs (fun i j hi hj he => ?_) e.size (Nat.le_refl _)
 rw [← Bool.not_eq_true, bothWays_iff] at hb
 rcases Int.natAbs_eq_natAbs_iff.1 he with h | h
 ·exact h
 ·exact absurd ⟨_, hin j hj, by rw [← h]; exact hin i hi⟩ hb
theorem with_is {L : List (List Int)} {c d r : List Int} (h1 : ∀ m, m ∈ r ↔ m ∈ c ++ d) (h2 : bothWays (c ++ d) = false → r = joinC c d) :
    (if (bothWays r || L.contains r) = true then L else L ++ [r]) = andS c L d := by
 unfold andS
 rw [bothWays_mem h1]
 cases hb : bothWays (c ++ d) with
 | true => simp
 | false =>
  rw [h2 hb]
  unfold putC
  simp
end Go.Proofs.YtjmeakkmfeoigaaGreatDoor