/-
  Proved: what cubes.with returns: one cube more, unless that has an atom both ways, or was there ahead; what else was in memory is as it was (a contract that the statements lean on).
  Proved: what cubes.both returns: each cube of the first with each of the second, or that they are too many; what was in memory is as it was (a contract that the statements lean on).
  Proved: what cubes.turned and cubes.none return: of each member a cube, turned round; the cubes of No of some, or that they are too many; what was in memory is as it was (contracts that the statements lean on).
  Proved: what cubes.either returns: the cubes of the first, then those of the second, none twice, or that they are too many; what was in memory is as it was (a contract that the statements lean on).
  Proved: what cubes.made returns: the cubes of what a sign makes of those that it takes, or that they are too many; what was in memory is as it was (contracts that the statements lean on). Written by program.
  Proved: what takes, tooMany and isOne of package form return, and slices.ContainsFunc at the function of its Check; what was in memory is as it was (contracts that the statements lean on).
  Proved: what atom.Check (and checkSecond) returns, of any atom, where the table of kinds lies as the program's text lays it; what was in memory is as it was (a contract that the statements lean on).
  Proved: what form.Check returns, of any atoms and any row of signs; what was in memory is as it was (a contract that the statements lean on).
  Proved: what term.work returns, of a right term and a right world: the set that the pile comes to; what was in memory is as it was (a contract that the statements lean on).
  Proved: what cubes.Of returns, of any formula: its cubes, or what is wrong with it, or that they are too many; what was in memory is as it was (a contract that the statements lean on). Written by program.
  Plain facts on the reference's value of a term, thing by thing, and on the nine letters. No program is read here.
-/
import Derived.Test.YtpdpnlpepfgknafGreatDoorLibPB1
import Derived.Deep.RegionWith
import Derived.OwnWalk
import Derived.Laws.OwnMore
namespace Go.Proofs.YtpdpnlpepfgknafGreatDoor
open Go.ChangeShapes Go.WideShapes Go.ChangeAt Go.RowKit
set_option maxRecDepth 100000

/-- a cube more. -/
def withC (L : List (List Int)) (c : List Int) : List (List Int) := if (bothWays c || L.contains c) = true then L else L ++ [c]
theorem any_beq (L : List (List Int)) (c : List Int) : L.any (fun t => t == c) = L.contains c := by
  rw [Bool.eq_iff_iff]; simp
theorem grown_of_below {w w' : World} {r : Option Nat} (h : Below w.heap.size w w') : w.grownBy w' r := ⟨h.os, h.tape, h.output, h.size, fun k hk _ => h.block k hk⟩
theorem grown_trans {w w' w'' : World} {r : Option Nat} (h : w.grownBy w' r) (k : w'.grownBy w'' r) : w.grownBy w'' r :=
  ⟨k.os.trans h.os, k.tape.trans h.tape, k.output.trans h.output, Nat.le_trans h.size k.size, fun b hb hr => (k.block b (Nat.lt_of_lt_of_le hb h.size) hr).trans (h.block b hb hr)⟩

set_option maxHeartbeats 4000000 in
theorem with_any (S : Nat → Prop) (K : Nat) (v u : Value) (L : List (List Int)) (c : List Int) (w : World) (hK : K ≤ w.heap.size) (hown : Own2 S K w v L) (hu : RS (fun b => (S b ∨ K ≤ b) ∧ some b ≠ v.ownBlock) w u c) (hL : L.length ≤ 200) (hm : ∀ m ∈ c, m.natAbs ≤ 6) :
    Calls Tryz.prog 94 #[v, u] w fun e w' => ∃ v', e = .returned v' ∧ Own2 S K w' v' (withC L c) ∧ w.grownBy w' v.ownBlock := by
  obtain ⟨i0, hi, hz0, hz1, hz2⟩ := info_parts infoS
  obtain ⟨ao, acap, rfl, _⟩ := hu.slice
  obtain ⟨w1, hw1⟩ : ∃ w1, w1 = w.alloc (.cells #[.slice ao c.length acap] 27) := ⟨_, rfl⟩
  have HB1 : Hid (Below w.heap.size w w1 ∧ w.heap.size < w1.heap.size) := by unfold Hid; rw [hw1]; exact ⟨below_alloc1 _ _, by simp⟩
  have HP : Hid (∀ W, Below w1.heap.size w1 W → W.cell? ⟨w.heap.size, 0, none⟩ = some (.slice ao c.length acap)) := fun W hW => by
    rw [hW.cell (show (⟨w.heap.size, 0, none⟩ : Addr).block < _ from HB1.out.2), hw1]; simp
  have HRu : Hid (∀ W, Below w1.heap.size w1 W → RS (fun b => (S b ∨ K ≤ b) ∧ some b ≠ v.ownBlock) W (.slice ao c.length acap) c) := fun W hW => (hu.kept (Kept.of_below HB1.out.1)).kept (Kept.of_below hW)
  have HO : Hid (∀ W, Below w1.heap.size w1 W → Own2 S K W v L) := fun W hW => (hown.below HB1.out.1).below hW
  have e1 : ∀ args w, (callFunc 106 args).run Tryz.prog w = .ok (.enter 106 args) w := enters_of Tryz.func106 (by kernel_rfl) rfl
  have e2 : ∀ args w, (callFunc 108 args).run Tryz.prog w = .ok (.enter 108 args) w := enters_of Tryz.func108 (by kernel_rfl) rfl
  have HA1 : Hid (∀ W, Below w1.heap.size w1 W → Calls Tryz.prog 56 #[.slice ao c.length acap, .func (.func 106) #[] #[.pointer (some ⟨w.heap.size, 0, none⟩)]] W fun e w' => e = .returned (.bool (bothWays c)) ∧ Below W.heap.size W w') := fun W hW =>
    anyI c _ w.heap.size _ (fun m => c.contains (-m)) W (HRu.out W hW).reads e1 (fun W' m hW' hmc => turns_any c _ w.heap.size m W' (hm m hmc) (HP.out W' (hW.trans (hW'.mono hW.size))) (HRu.out W' (hW.trans (hW'.mono hW.size))).reads)
  have HA2 : Hid (∀ W, Below w1.heap.size w1 W → Calls Tryz.prog 110 #[v, .func (.func 108) #[] #[.pointer (some ⟨w.heap.size, 0, none⟩)]] W fun e w' => e = .returned (.bool (L.contains c)) ∧ Below W.heap.size W w') := fun W hW => by
    rw [← any_beq]
    exact anyL _ L v w.heap.size _ (fun t => t == c) W ((HO.out W hW).reads (by omega)) e2 (fun W' x t hW' _ hx => sameC_any t c x _ w.heap.size W' (HP.out W' (hW.trans (hW'.mono hW.size))) hx (HRu.out W' (hW.trans (hW'.mono hW.size))).reads)
  clear e1 e2 hm hu
  obtain ⟨vo, vcap, hvf⟩ : ∃ vo vcap, v = .slice vo L.length vcap := by
    obtain ⟨xs, h1, _⟩ := hown
    rcases h1.2 with ⟨rfl, h0⟩ | ⟨g, cap, cur, rfl, _⟩
    · exact ⟨none, 0, by rw [h0]⟩
    · exact ⟨_, cap, rfl⟩
  clear hown
  obtain ⟨n, hn⟩ : ∃ n, n = c.length := ⟨_, rfl⟩
  rw [← hn] at hw1 HP HRu HA1 ⊢
  clear hn
  obtain ⟨B1, hB1⟩ : ∃ B1, B1 = bothWays c := ⟨_, rfl⟩
  obtain ⟨B2, hB2⟩ : ∃ B2, B2 = L.contains c := ⟨_, rfl⟩
  have HWC : Hid (withC L c = if (B1 || B2) = true then L else L ++ [c]) := by unfold Hid withC; rw [hB1, hB2]
  rw [← hB1] at HA1
  rw [← hB2] at HA2
  clear hB1 hB2
  obtain ⟨l, hl⟩ : ∃ l, l = L.length := ⟨_, rfl⟩
  have HLl : Hid (l = L.length ∧ l ≤ 200) := ⟨hl, by omega⟩
  rw [← hl] at hvf
  clear hl hL
  subst hvf
  have p0 := HP.out w1 (Below.refl _ _)
  rw [hw1] at p0
  go_enter Tryz.func94, Tryz.ntmps94
  go_wp2_with fail
  rw [← hw1]
  clear hw1 p0
  go_at_call 56
  refine (HA1.out w1 (Below.refl _ _)).mono ?_
  rintro e w2 ⟨rfl, hb⟩
  have HB2 : Hid (Below w1.heap.size w1 w2) := hb
  clear hb
  cases B1 with
  | true =>
    have HE : Hid (withC L c = L) := by unfold Hid; rw [HWC.out]; rfl
    go_wp2
    go_ret
    exact ⟨_, rfl, by rw [HE.out]; exact HO.out w2 HB2.out, grown_of_below (HB1.out.1.trans (HB2.out.mono HB1.out.1.size))⟩
  | false =>
    go_wp2_with fail
    go_at_call 110
    refine (HA2.out w2 HB2.out).mono ?_
    rintro e w3 ⟨rfl, hb⟩
    have HB3 : Hid (Below w1.heap.size w1 w3) := HB2.out.trans (hb.mono HB2.out.size)
    clear hb HA1 HA2
    cases B2 with
    | true =>
      have HE : Hid (withC L c = L) := by unfold Hid; rw [HWC.out]; rfl
      go_wp2
      go_ret
      exact ⟨_, rfl, by rw [HE.out]; exact HO.out w3 HB3.out, grown_of_below (HB1.out.1.trans (HB3.out.mono HB1.out.1.size))⟩
    | false =>
      have HE : Hid (withC L c = L ++ [c]) := by unfold Hid; rw [HWC.out]; rfl
      have p0 := HP.out w3 HB3.out
      obtain ⟨w4, hw4⟩ : ∃ w4, w4 = w3.alloc (.cells #[.slice ao n acap] 27) := ⟨_, rfl⟩
      have HB4 : Hid (Below w1.heap.size w1 w4 ∧ Below w.heap.size w w4) := by
        have : Below w1.heap.size w1 w4 := by rw [hw4]; exact HB3.out.trans ((below_alloc1 _ _).mono HB3.out.size)
        exact ⟨this, HB1.out.1.trans (this.mono HB1.out.1.size)⟩
      obtain ⟨xs, ho, hx⟩ := HO.out w4 HB4.out.1
      rw [← HLl.out.1] at ho
      have HOx : Hid (w4.ownsRow K 27 1 (.slice vo l vcap) l xs) := ho
      have HX : Hid (∀ (k : Nat) t, L[k]? = some t → ∃ u, xs[k]? = some u ∧ RS (fun b => (S b ∨ K ≤ b) ∧ some b ≠ (Value.slice vo l vcap).ownBlock) w4 u t) := hx
      have hca : w4.cell? ((⟨w3.heap.size, 0, none⟩ : Addr).add 0) = some (.slice ao n acap) := by rw [hw4]; simp [Addr.add]
      have HCa : Hid (∀ j u, ([Value.slice ao n acap] : List Value)[j]? = some u → w4.cell? ((⟨w3.heap.size, 0, none⟩ : Addr).add j) = some u) := fun j u hu => by
        match j, hu with
        | 0, hu => simp at hu; subst hu; exact hca
      have HS4 : Hid (w4.heap.size = w3.heap.size + 1 ∧ K ≤ w4.heap.size) := ⟨by rw [hw4]; simp, by have := HB4.out.2.size; omega⟩
      clear ho hx hca
      go_wp2_with (first | (at_builtin; rw [← hw4]; refine wpList_append_lies _ rfl (.tmp 18) (.tmp 20) 75 rfl K 27 i0 (.slice none 0 0) 1 24 Tryz.underlying75 hi hz0 hz1 hz2 rfl (by decide) (.slice vo l vcap) l xs rfl HOx.out ⟨w3.heap.size, 0, none⟩ 1 1 [.slice ao n acap] rfl rfl HCa.out (by intro y hy; simp at hy; subst hy; rfl) (by decide) ?d3 ?d4 HS4.out.2 w4.heap.size rfl ?_))
      case d3 => have := HLl.out.2; unfold maxLen; omega
      case d4 => have := HLl.out.2; omega
      intro g cap w5 hown hgrow hat hlt
      have HG : Hid (w4.grownBy w5 (Value.slice vo l vcap).ownBlock) := by first | exact hgrow | (rw [hw4]; exact hgrow)
      have HAt : Hid ((Value.slice vo l vcap).ownBlock = some g ∨ g = w4.heap.size) := by first | exact hat | (rw [HS4.out.1]; exact hat)
      have HRr : Hid (Own2 S K w5 (.slice (some ⟨g, 0, none⟩) (l + 1) cap) (L ++ [c])) := by
        have h1 := HOx.out
        have e := HLl.out.1
        unfold Hid
        subst e
        exact Own2.push h1 HX.out (HRu.out w4 HB4.out.1) (by simpa using hown) HG.out HAt.out
      clear hown hgrow hat hlt
      go_wp2
      go_ret
      exact ⟨_, rfl, by rw [HE.out]; exact HRr.out, grown_trans (grown_of_below HB4.out.2) HG.out⟩
end Go.Proofs.YtpdpnlpepfgknafGreatDoor

namespace Go.Proofs.YtpdpnlpepfgknafGreatDoor
open Go.ChangeShapes Go.WideShapes Go.ChangeAt Go.RowKit
set_option maxRecDepth 100000

/-- cubes in new memory, or that they are too many. -/
def OutC (S : Nat → Prop) (K : Nat) (w : World) (e : Ending) (o : Option (List (List Int))) : Prop :=
  match o with
  | none => e = .returned (.tuple #[.slice none 0 0, .iface 61 (.int .i64 4)])
  | some L => ∃ v, e = .returned (.tuple #[v, .nilIface]) ∧ RS2 (fun b => S b ∨ K ≤ b) w v L
theorem RS2.cellAt {S : Nat → Prop} {w : World} {v : Value} {L : List (List Int)} (h : RS2 S w v L) {b off n cap : Nat} (hv : v = .slice (some ⟨b, off, none⟩) n cap) {k : Nat} (hk : k < L.length) : ∃ o l cp, w.cell? ⟨b, off + k, none⟩ = some (.slice o l cp) ∧ RS S w (.slice o l cp) (L.getD k []) := by
  rcases h with ⟨_, _, _, rfl⟩ | ⟨b', off', cap', hv', _, _, _, hc⟩
  · simp at hk
  · rw [hv] at hv'
    cases hv'
    obtain ⟨u, hu, hr⟩ := hc k _ (List.getElem?_eq_getElem hk)
    obtain ⟨o, cp, rfl, _⟩ := hr.slice
    refine ⟨o, _, cp, hu, ?_⟩
    rw [List.getD_eq_getElem?_getD, List.getElem?_eq_getElem hk]; exact hr
theorem RS2.always {S : Nat → Prop} {w : World} {v : Value} {L : List (List Int)} {K : Nat} (h : RS2 S w v L) (hK : K = w.heap.size) {b off n cap : Nat} (hv : v = .slice (some ⟨b, off, none⟩) n cap) {k : Nat} (hk : k < L.length) : ∃ o l cp, ∀ W, Below K w W → W.cell? ⟨b, off + k, none⟩ = some (.slice o l cp) ∧ Reads W (.slice o l cp) (L.getD k []) := by
  obtain ⟨o, l, cp, hc, hr⟩ := h.cellAt hv hk
  subst hK
  refine ⟨o, l, cp, fun W hW => ⟨?_, hr.reads.below hW⟩⟩
  have hb : b < w.heap.size := by
    rcases h with ⟨_, _, _, rfl⟩ | ⟨b', off', cap', hv', hB, _⟩
    · simp at hk
    · rw [hv] at hv'; cases hv'; exact hB.2
  rw [hW.cell (show (⟨b, off + k, none⟩ : Addr).block < _ from hb)]; exact hc
theorem RS2.form {S : Nat → Prop} {w : World} {v : Value} {L : List (List Int)} (h : RS2 S w v L) (h0 : 0 < L.length) : ∃ b off cap, v = .slice (some ⟨b, off, none⟩) L.length cap := by
  rcases h with ⟨_, _, _, rfl⟩ | ⟨b', off', cap', hv', _⟩
  · simp at h0
  · exact ⟨_, _, _, hv'⟩
theorem Own2.form {S : Nat → Prop} {K : Nat} {w : World} {v : Value} {L : List (List Int)} (h : Own2 S K w v L) : ∃ o cap, v = .slice o L.length cap := by
  obtain ⟨xs, h1, _⟩ := h
  rcases h1.2 with ⟨rfl, h0⟩ | ⟨g, cap, cur, rfl, _⟩
  · exact ⟨none, 0, by rw [h0]⟩
  · exact ⟨_, cap, rfl⟩
theorem takeL_succ (t : List (List Int)) {k : Nat} (h : k < t.length) : t.take (k + 1) = t.take k ++ [t.getD k []] := by
  rw [List.take_add_one]; simp [List.getElem?_eq_getElem h]
theorem dropL (t : List (List Int)) {k : Nat} (h : k < t.length) : t.drop k = t.getD k [] :: t.drop (k + 1) := by
  rw [List.drop_eq_getElem_cons h]; simp [List.getElem?_eq_getElem h]
/-- what there is behind i cubes of the first. -/
def rowsC (A B : List (List Int)) (i : Nat) : List (List Int) := (A.take i).foldl (andR B) []
/-- .. and k of the second with the next. -/
def rowC (A B : List (List Int)) (i k : Nat) : List (List Int) := (B.take k).foldl (andS (A.getD i [])) (rowsC A B i)
theorem rowC_succ (A B : List (List Int)) (i : Nat) {k : Nat} (h : k < B.length) : rowC A B i (k + 1) = andS (A.getD i []) (rowC A B i k) (B.getD k []) := by
  unfold rowC; rw [takeL_succ B h, List.foldl_append]; rfl
theorem rowsC_succ (A B : List (List Int)) {i : Nat} (h : i < A.length) : rowsC A B (i + 1) = rowC A B i B.length := by
  unfold rowsC rowC; rw [takeL_succ A h, List.foldl_append, List.take_length]; rfl
theorem rowsC_all (A B : List (List Int)) : rowsC A B A.length = andC A B := by unfold rowsC andC; rw [List.take_length]
theorem rowC_len (A B : List (List Int)) {i k : Nat} (hi : i < A.length) : (rowC A B i k).length ≤ (andC A B).length := by
  have e1 : andR B (rowsC A B i) (A.getD i []) = (B.drop k).foldl (andS (A.getD i [])) (rowC A B i k) := by
    unfold andR rowC
    rw [← List.foldl_append, List.take_append_drop]
  have e2 : andC A B = (A.drop (i + 1)).foldl (andR B) (andR B (rowsC A B i) (A.getD i [])) := by
    unfold andC rowsC
    rw [← List.foldl_cons (f := andR B), ← dropL A hi, ← List.foldl_append, List.take_append_drop]
  rw [e2, e1]
  exact Nat.le_trans (andR_len (B.drop k) _ _) (andF_len _ _ _)
theorem capC_big {L : List (List Int)} (h : 40 < L.length) : capC L = none := by unfold capC; rw [if_pos h]
theorem capC_small {L : List (List Int)} (h : L.length ≤ 40) : capC L = some L := by unfold capC; rw [if_neg (by omega)]
theorem capC_more {L K : List (List Int)} (h : 40 < L.length) (hl : L.length ≤ K.length) : capC K = none := capC_big (by omega)
theorem mem_getD {A : List (List Int)} {k : Nat} (h : k < A.length) : A.getD k [] ∈ A := by
  rw [List.getD_eq_getElem?_getD, List.getElem?_eq_getElem h]; exact List.getElem_mem h

set_option maxHeartbeats 8000000 in
theorem both_cubes (S : Nat → Prop) (va vb : Value) (A B : List (List Int)) (M : Nat) (hM : M ≤ 6) (w : World) (hA : ∀ c ∈ A, cubeOk M c) (hB : ∀ c ∈ B, cubeOk M c) (hRA : RS2 S w va A) (hRB : RS2 S w vb B) :
    Calls Tryz.prog 85 #[va, vb] w fun e w' => OutC S w.heap.size w' e (capC (andC A B)) ∧ Below w.heap.size w w' := by
  obtain ⟨ao, acap, hav, ha63⟩ := hRA.slice
  obtain ⟨bo, bcap, hbv, hb63⟩ := hRB.slice
  obtain ⟨K, hK⟩ : ∃ K, K = w.heap.size := ⟨_, rfl⟩
  have HK : Hid (K = w.heap.size) := hK
  have HA : Hid (∀ k b off, k < A.length → ao = some ⟨b, off, none⟩ → ∃ o l cp, ∀ W, Below K w W → W.cell? ⟨b, off + k, none⟩ = some (.slice o l cp) ∧ Reads W (.slice o l cp) (A.getD k [])) := fun k b off hk e => hRA.always hK (by rw [hav, e]) hk
  have HB : Hid (∀ k b off, k < B.length → bo = some ⟨b, off, none⟩ → ∃ o l cp, ∀ W, Below K w W → W.cell? ⟨b, off + k, none⟩ = some (.slice o l cp) ∧ Reads W (.slice o l cp) (B.getD k [])) := fun k b off hk e => hRB.always hK (by rw [hbv, e]) hk
  have HAf : Hid (0 < A.length → ∃ b off, ao = some ⟨b, off, none⟩) := fun h0 => by
    obtain ⟨b, off, cap, e⟩ := hRA.form h0
    rw [hav] at e; cases e; exact ⟨b, off, rfl⟩
  have HBf : Hid (0 < B.length → ∃ b off, bo = some ⟨b, off, none⟩) := fun h0 => by
    obtain ⟨b, off, cap, e⟩ := hRB.form h0
    rw [hbv] at e; cases e; exact ⟨b, off, rfl⟩
  have HJ : Hid (∀ i k W vc vd, i < A.length → k < B.length → Reads W vc (A.getD i []) → Reads W vd (B.getD k []) → Calls Tryz.prog 95 #[vc, vd] W fun e w' => ∃ v r, e = .returned v ∧ RS (fun b => W.heap.size ≤ b) w' v r ∧ ((∀ m, m ∈ r ↔ m ∈ A.getD i [] ++ B.getD k []) ∧ (bothWays (A.getD i [] ++ B.getD k []) = false → r = joinC (A.getD i []) (B.getD k []))) ∧ Below W.heap.size W w') := fun i k W vc vd hi hk h1 h2 => joined_any vc vd (A.getD i []) (B.getD k []) M hM W (hA _ (mem_getD hi)) (hB _ (mem_getD hk)) h1 h2
  have HMm : Hid (∀ i k, i < A.length → k < B.length → ∀ m ∈ A.getD i [] ++ B.getD k [], m.natAbs ≤ 6) := fun i k hi hk m hm => by
    rcases List.mem_append.1 hm with h | h
    · have := (hA _ (mem_getD hi)).1 m h; omega
    · have := (hB _ (mem_getD hk)).1 m h; omega
  subst hav hbv
  rw [← hK]
  clear hRA hRB hA hB hK
  obtain ⟨na, hna⟩ : ∃ na, na = A.length := ⟨_, rfl⟩
  obtain ⟨nb, hnb⟩ : ∃ nb, nb = B.length := ⟨_, rfl⟩
  rw [← hna] at ha63 ⊢
  rw [← hnb] at hb63 ⊢
  have HN : Hid (na = A.length ∧ nb = B.length) := ⟨hna, hnb⟩
  clear hna hnb
  go_enter Tryz.func85, Tryz.ntmps85
  go_wp2_with fail
  go_loopw [6, 8, 10, 13] (fun v _ _ i wr => ∃ k : Nat, k ≤ na ∧ i = .int .i64 k ∧ Own2 S K wr v (rowsC A B k) ∧ (rowsC A B k).length ≤ 40 ∧ Below K w wr ∧ K ≤ wr.heap.size) (fun _ _ _ i _ => na - (intOf i).toNat)
  case atStart => exact ⟨0, Nat.zero_le _, rfl, Own2.nil _ _ _, by simp [rowsC], Below.refl _ _, by rw [HK.out]; exact Nat.le_refl _⟩
  case round =>
    obtain ⟨i, hi, rfl, hown, hlen, hbel, hKw⟩ := hrel
    have HO : Hid (Own2 S K wr u6 (rowsC A B i) ∧ (rowsC A B i).length ≤ 40 ∧ Below K w wr ∧ K ≤ wr.heap.size) := ⟨hown, hlen, hbel, hKw⟩
    clear hown hlen hbel hKw
    by_cases hlt : i < na
    · have hiA : i < A.length := by rw [← HN.out.1]; exact hlt
      obtain ⟨ab, aoff, rfl⟩ := HAf.out (by omega)
      obtain ⟨co, cl, ccp, hall⟩ := HA.out i ab aoff hiA rfl
      have hcell := (hall wr HO.out.2.2.1).1
      have hltz : (i : Int) < (na : Int) := by omega
      have HCr : Hid (∀ W, Below K w W → Reads W (.slice co cl ccp) (A.getD i [])) := fun W hW => (hall W hW).2
      have HIA : Hid (i < A.length) := hiA
      clear hall hiA
      go_wp2_with fail
      go_loopw [6, 10, 19] (fun v _ j wq => ∃ k : Nat, k ≤ nb ∧ j = .int .i64 k ∧ Own2 S K wq v (rowC A B i k) ∧ (rowC A B i k).length ≤ 40 ∧ Below K w wq ∧ K ≤ wq.heap.size) (fun _ _ j _ => nb - (intOf j).toNat)
      case atStart => exact ⟨0, Nat.zero_le _, rfl, HO.out.1, HO.out.2.1, HO.out.2.2.1, HO.out.2.2.2⟩
      case round =>
        obtain ⟨k, hk, rfl, hown, hlen, hbel, hKw⟩ := hrel
        have HI : Hid (Own2 S K wr u6 (rowC A B i k) ∧ (rowC A B i k).length ≤ 40 ∧ Below K w wr ∧ K ≤ wr.heap.size) := ⟨hown, hlen, hbel, hKw⟩
        clear hown hlen hbel hKw
        by_cases hltb : k < nb
        · have hkB : k < B.length := by rw [← HN.out.2]; exact hltb
          obtain ⟨bb, boff, rfl⟩ := HBf.out (by omega)
          obtain ⟨eo, el, ecp, hall⟩ := HB.out k bb boff hkB rfl
          obtain ⟨hcell2, hdr⟩ := hall wr HI.out.2.2.1
          have hltz2 : (k : Int) < (nb : Int) := by omega
          have HJ1 : Hid (Calls Tryz.prog 95 #[.slice co cl ccp, .slice eo el ecp] wr fun e w' => ∃ v r, e = .returned v ∧ RS (fun b => wr.heap.size ≤ b) w' v r ∧ ((∀ m, m ∈ r ↔ m ∈ A.getD i [] ++ B.getD k []) ∧ (bothWays (A.getD i [] ++ B.getD k []) = false → r = joinC (A.getD i []) (B.getD k []))) ∧ Below wr.heap.size wr w') := HJ.out i k wr (.slice co cl ccp) (.slice eo el ecp) HIA.out hkB (HCr.out wr HI.out.2.2.1) hdr
          have HKB : Hid (k < B.length) := hkB
          clear hdr hkB hall
          go_wp2_with fail
          go_at_call 95
          refine HJ1.out.mono ?_
          rintro e w2 ⟨v2, r, rfl, hr, hjr, hb2⟩
          obtain ⟨ro, rcp, rfl, _⟩ := hr.slice
          have HW : Hid (Calls Tryz.prog 94 #[u6, .slice ro r.length rcp] w2 fun e w' => ∃ v', e = .returned v' ∧ Own2 S K w' v' (rowC A B i (k + 1)) ∧ w2.grownBy w' u6.ownBlock) := by
            have h := with_any S K u6 (.slice ro r.length rcp) (rowC A B i k) r w2 (by have := hb2.size; have := HI.out.2.2.2; omega) (HI.out.1.below hb2) (hr.mono fun b _ hb => ⟨Or.inr (Nat.le_trans HI.out.2.2.2 hb), fun e => by have := (HI.out.1.lt b e.symm).2; omega⟩) (by have := HI.out.2.1; omega) (fun m hm => HMm.out i k HIA.out HKB.out m ((hjr.1 m).1 hm))
            have e1 : withC (rowC A B i k) r = rowC A B i (k + 1) := by
              rw [rowC_succ A B i HKB.out]
              exact with_is hjr.1 hjr.2
            rw [e1] at h
            exact h
          have HB2 : Hid (Below K w w2 ∧ Below wr.heap.size wr w2 ∧ K ≤ w2.heap.size) := ⟨HI.out.2.2.1.trans (hb2.mono HI.out.2.2.2), hb2, by have := hb2.size; have := HI.out.2.2.2; omega⟩
          obtain ⟨rl, hrl⟩ : ∃ rl, rl = r.length := ⟨_, rfl⟩
          rw [← hrl] at HW ⊢
          clear hr hjr hb2 HJ1 hrl
          go_wp2_with fail
          go_at_call 94
          refine HW.out.mono ?_
          rintro e w3 ⟨v3, rfl, hown3, hgr⟩
          have HB3 : Hid (Below K w w3 ∧ K ≤ w3.heap.size) := ⟨HB2.out.1.grown hgr HB2.out.2.2 (fun j hj => (HI.out.1.lt j hj).1), by have := hgr.size; have := HB2.out.2.2; omega⟩
          obtain ⟨o3, c3, rfl⟩ := hown3.form
          have HO3 : Hid (Own2 S K w3 (.slice o3 (rowC A B i (k + 1)).length c3) (rowC A B i (k + 1))) := hown3
          have HLe : Hid ((rowC A B i (k + 1)).length ≤ (andC A B).length) := rowC_len A B HIA.out
          obtain ⟨l3, hl3⟩ : ∃ l3, l3 = (rowC A B i (k + 1)).length := ⟨_, rfl⟩
          rw [← hl3] at HO3 HLe ⊢
          have HL3 : Hid (l3 = (rowC A B i (k + 1)).length) := hl3
          clear hown3 hgr HW hl3
          by_cases h40 : 40 < l3
          · have h40z : (40 : Int) < (l3 : Int) := by omega
            have HE : Hid (capC (andC A B) = none) := capC_big (by have := HLe.out; omega)
            go_wp2
            go_ret2
            refine ⟨?_, HB3.out.1⟩
            rw [HE.out]; rfl
          · have h40z : ¬ (40 : Int) < (l3 : Int) := by omega
            go_wp2
            go_roundw
            case rel => exact ⟨k + 1, by omega, by go_num, HO3.out, by have := HL3.out; omega, HB3.out.1, HB3.out.2⟩
            case measure => simp [intOf]; omega
        · have hltz2 : ¬ (k : Int) < (nb : Int) := by omega
          have HE : Hid (rowsC A B (i + 1) = rowC A B i k) := by
            unfold Hid
            rw [rowsC_succ A B HIA.out, show B.length = k by have := HN.out.2; omega]
          go_wp2
          go_roundw
          case rel => exact ⟨i + 1, by omega, by go_num, by rw [HE.out]; exact HI.out.1, by rw [HE.out]; exact HI.out.2.1, HI.out.2.2.1, HI.out.2.2.2⟩
          case measure => simp [intOf]; omega
    · have hltz : ¬ (i : Int) < (na : Int) := by omega
      have HE : Hid (rowsC A B i = andC A B) := by
        unfold Hid
        rw [← rowsC_all, show A.length = i by have := HN.out.1; omega]
      go_wp2
      go_ret2
      refine ⟨?_, HO.out.2.2.1⟩
      have h1 := HO.out.1
      have h2 := HO.out.2.1
      rw [HE.out] at h1 h2
      rw [capC_small h2]
      exact ⟨_, rfl, h1.reads (by omega)⟩
end Go.Proofs.YtpdpnlpepfgknafGreatDoor

namespace Go.Proofs.YtpdpnlpepfgknafGreatDoor
open Go.ChangeShapes Go.WideShapes Go.ChangeAt Go.RowKit
set_option maxRecDepth 100000

theorem turnC_succ (c : List Int) {k : Nat} (h : k < c.length) : turnC (c.take (k + 1)) = turnC (c.take k) ++ [[-(c.getD k 0)]] := by
  unfold turnC; rw [takeF_succ c h]; simp

set_option maxHeartbeats 4000000 in
theorem turned_any (v : Value) (c : List Int) (M : Nat) (hM : M ≤ 6) (w : World) (hc : cubeOk M c) (hv : Reads w v c) :
    Calls Tryz.prog 97 #[v] w fun e w' => ∃ v', e = .returned v' ∧ RS2 (fun b => w.heap.size ≤ b) w' v' (turnC c) ∧ Below w.heap.size w w' := by
  obtain ⟨i0, hi, hz0, hz1, hz2⟩ := info_parts infoS
  have hl := cube_len hc
  have HM : Hid (∀ k, k < c.length → (c.getD k 0).natAbs ≤ 6) := fun k hk => by
    have := (hc.1 (c.getD k 0) (by rw [List.getD_eq_getElem?_getD, List.getElem?_eq_getElem hk]; exact List.getElem_mem hk)).2
    omega
  obtain ⟨ao, acap, rfl, _⟩ := (hv.rs (S := fun _ => True) (fun _ _ => trivial)).slice
  obtain ⟨K, hK⟩ : ∃ K, K = w.heap.size := ⟨_, rfl⟩
  have HK : Hid (K = w.heap.size) := hK
  have HC : Hid (∀ W, Below K w W → ∀ k, k < c.length → ∃ b off, ao = some ⟨b, off, none⟩ ∧ W.cell? ⟨b, off + k, none⟩ = some (.int .i64 (c.getD k 0))) := fun W hW k hk => by
    rcases hv with ⟨_, _, hv, rfl⟩ | ⟨b, off, cap, hv, hB, _, _, hcs⟩
    · simp at hk
    · cases hv
      exact ⟨b, off, rfl, by rw [hW.cell (show (⟨b, off + k, none⟩ : Addr).block < _ by rw [hK]; exact hB)]; exact hcs k hk⟩
  rw [← hK]
  clear hv hK
  obtain ⟨n, hn⟩ : ∃ n, n = c.length := ⟨_, rfl⟩
  rw [← hn] at hl ⊢
  have HN : Hid (n = c.length) := hn
  clear hn hc
  go_enter Tryz.func97, Tryz.ntmps97
  go_wp2_with fail
  go_loopw [3, 5, 8] (fun v _ i wr => ∃ k : Nat, k ≤ n ∧ i = .int .i64 k ∧ Own2 (fun _ => False) K wr v (turnC (c.take k)) ∧ Below K w wr ∧ K ≤ wr.heap.size) (fun _ _ i _ => n - (intOf i).toNat)
  case atStart => exact ⟨0, Nat.zero_le _, rfl, Own2.nil _ _ _, Below.refl _ _, by rw [HK.out]; exact Nat.le_refl _⟩
  case round =>
    obtain ⟨k, hk, rfl, hown, hbel, hKw⟩ := hrel
    have HI : Hid (Own2 (fun _ => False) K wr u3 (turnC (c.take k)) ∧ Below K w wr ∧ K ≤ wr.heap.size) := ⟨hown, hbel, hKw⟩
    clear hown hbel hKw
    by_cases hlt : k < n
    · have hkc : k < c.length := by rw [← HN.out]; exact hlt
      obtain ⟨b, off, rfl, hcell⟩ := HC.out wr HI.out.2.1 k hkc
      have hm := HM.out k hkc
      have HE : Hid (turnC (c.take (k + 1)) = turnC (c.take k) ++ [[-(c.getD k 0)]]) := turnC_succ c hkc
      obtain ⟨m, hmd⟩ : ∃ m, m = c.getD k 0 := ⟨_, rfl⟩
      rw [← hmd] at hcell hm HE
      clear hmd hkc
      have m1 : -9223372036854775808 ≤ -m := by omega
      have m2 : -m ≤ 9223372036854775807 := by omega
      have hltz : (k : Int) < (n : Int) := by omega
      obtain ⟨w2, hw2⟩ : ∃ w2, w2 = wr.alloc (.cells #[.int .i64 (-m)] 3) := ⟨_, rfl⟩
      obtain ⟨w3, hw3⟩ : ∃ w3, w3 = w2.alloc (.cells #[.slice (some ⟨wr.heap.size, 0, none⟩) 1 1] 27) := ⟨_, rfl⟩
      have hs2 : w2.heap.size = wr.heap.size + 1 := by rw [hw2]; simp
      have HB3 : Hid (Below wr.heap.size wr w3 ∧ w3.heap.size = wr.heap.size + 2) := by
        refine ⟨?_, by rw [hw3]; simp [hs2]⟩
        rw [hw3]
        exact (by rw [hw2]; exact below_alloc1 _ _ : Below wr.heap.size wr w2).trans ((below_alloc1 _ _).mono (by omega))
      have HU : Hid (RS (fun b => ((fun _ => False) b ∨ K ≤ b) ∧ some b ≠ u3.ownBlock) w3 (.slice (some ⟨wr.heap.size, 0, none⟩) 1 1) [-m]) := by
        refine Or.inr ⟨wr.heap.size, 0, 1, rfl, ⟨⟨Or.inr HI.out.2.2, fun e => by have := (HI.out.1.lt _ e.symm).2; omega⟩, by have := HB3.out.2; omega⟩, by simp, ⟨by simp, by simp⟩, fun j hj => ?_⟩
        have hj0 : j = 0 := by simpa using hj
        subst hj0
        rw [hw3, World.cell?_alloc_lt _ _ ⟨wr.heap.size, 0 + 0, none⟩ (by simp; omega), hw2]
        simp
      obtain ⟨xs, ho, hx⟩ := HI.out.1.below HB3.out.1
      obtain ⟨l, hl'⟩ : ∃ l, l = (turnC (c.take k)).length := ⟨_, rfl⟩
      have HLl : Hid (l = (turnC (c.take k)).length ∧ l ≤ 6) := ⟨hl', by rw [hl']; unfold turnC; simp; omega⟩
      obtain ⟨vo, vcap, hvf⟩ := HI.out.1.form
      rw [← hl'] at ho hvf
      clear hl'
      subst hvf
      have HOx : Hid (w3.ownsRow K 27 1 (.slice vo l vcap) l xs) := ho
      have HX : Hid (∀ (j : Nat) t, (turnC (c.take k))[j]? = some t → ∃ u, xs[j]? = some u ∧ RS (fun b => ((fun _ => False) b ∨ K ≤ b) ∧ some b ≠ (Value.slice vo l vcap).ownBlock) w3 u t) := hx
      have hca : w3.cell? ((⟨w2.heap.size, 0, none⟩ : Addr).add 0) = some (.slice (some ⟨wr.heap.size, 0, none⟩) 1 1) := by rw [hw3]; simp [Addr.add]
      have HCa : Hid (∀ j u, ([Value.slice (some ⟨wr.heap.size, 0, none⟩) 1 1] : List Value)[j]? = some u → w3.cell? ((⟨wr.heap.size + 1, 0, none⟩ : Addr).add j) = some u) := fun j u hu => by
        match j, hu with
        | 0, hu => simp at hu; subst hu; rw [← hs2]; exact hca
      have HS3 : Hid (K ≤ w3.heap.size) := by have := HB3.out.2; have := HI.out.2.2; unfold Hid; omega
      have HW3 : Hid ((wr.alloc (.cells #[.int .i64 (-m)] 3)).alloc (.cells #[.slice (some ⟨wr.heap.size, 0, none⟩) 1 1] 27) = w3) := by unfold Hid; rw [hw3, hw2]
      clear ho hx hca hw2 hw3
      go_wp2_with (first | (at_builtin; rw [HW3.out]; refine wpList_append_lies _ rfl (.tmp 12) (.tmp 16) 75 rfl K 27 i0 (.slice none 0 0) 1 24 Tryz.underlying75 hi hz0 hz1 hz2 rfl (by decide) (.slice vo l vcap) l xs rfl HOx.out ⟨wr.heap.size + 1, 0, none⟩ 1 1 [.slice (some ⟨wr.heap.size, 0, none⟩) 1 1] rfl rfl HCa.out (by intro y hy; simp at hy; subst hy; rfl) (by decide) ?d3 ?d4 HS3.out w3.heap.size rfl ?_))
      case d3 => have := HLl.out.2; unfold maxLen; omega
      case d4 => have := HLl.out.2; omega
      intro g cap w5 hown hgrow hat hlt5
      have HR : Hid (Own2 (fun _ => False) K w5 (.slice (some ⟨g, 0, none⟩) (l + 1) cap) (turnC (c.take (k + 1)))) := by
        unfold Hid
        rw [HE.out]
        have h1 := HOx.out
        have h2 := HX.out
        have h3 := HU.out
        have e := HLl.out.1
        subst e
        exact Own2.push h1 h2 h3 (by simpa using hown) hgrow hat
      have HB5 : Hid (Below K w w5 ∧ K ≤ w5.heap.size) := by
        refine ⟨(HI.out.2.1.trans (HB3.out.1.mono HI.out.2.2)).grown hgrow HS3.out (fun j hj => (HOx.out.lt j hj).1), ?_⟩
        have := hgrow.size; have := HS3.out; omega
      clear hown hgrow hat hlt5
      go_wp2
      go_roundw
      case rel => exact ⟨k + 1, by omega, by go_num, HR.out, HB5.out.1, HB5.out.2⟩
      case measure => simp [intOf]; omega
    · have hltz : ¬ (k : Int) < (n : Int) := by omega
      have HE : Hid (c.take k = c) := List.take_of_length_le (by have := HN.out; omega)
      go_wp2
      go_ret
      refine ⟨_, rfl, ?_, HI.out.2.1⟩
      have h := HI.out.1
      rw [HE.out] at h
      exact (h.reads (by unfold turnC; simp; have := HN.out; omega)).mono fun b _ hb => hb.resolve_left id
theorem noC_append (a b out : List (List Int)) : noC (a ++ b) out = (noC a out).bind (noC b) := by
  induction a generalizing out with
  | nil => rfl
  | cons c l ih =>
    show (capC (andC out (turnC c))).bind (noC (l ++ b)) = ((capC (andC out (turnC c))).bind (noC l)).bind (noC b)
    cases capC (andC out (turnC c)) with
    | none => rfl
    | some x => exact ih x
theorem noC_succ (L : List (List Int)) {k : Nat} (h : k < L.length) {O : List (List Int)} (hO : noC (L.take k) [[]] = some O) : noC (L.take (k + 1)) [[]] = capC (andC O (turnC (L.getD k []))) := by
  rw [takeL_succ L h, noC_append, hO]
  show (capC (andC O (turnC (L.getD k [])))).bind (noC []) = _
  cases capC (andC O (turnC (L.getD k []))) <;> rfl
theorem noC_none {L : List (List Int)} {k : Nat} (h : noC (L.take k) [[]] = none) : noC L [[]] = none := by
  have : noC (L.take k ++ L.drop k) [[]] = none := by rw [noC_append, h]; rfl
  rwa [List.take_append_drop] at this

set_option maxHeartbeats 4000000 in
theorem none_cubes (S : Nat → Prop) (va : Value) (A : List (List Int)) (M : Nat) (hM : M ≤ 6) (w : World) (hA : ∀ c ∈ A, cubeOk M c) (hRA : RS2 S w va A) :
    Calls Tryz.prog 87 #[va] w fun e w' => OutC S w.heap.size w' e (noC A [[]]) ∧ Below w.heap.size w w' := by
  obtain ⟨ao, acap, hav, ha63⟩ := hRA.slice
  obtain ⟨K, hK⟩ : ∃ K, K = w.heap.size := ⟨_, rfl⟩
  have HK : Hid (K = w.heap.size) := hK
  have HA : Hid (∀ k b off, k < A.length → ao = some ⟨b, off, none⟩ → ∃ o l cp, ∀ W, Below K w W → W.cell? ⟨b, off + k, none⟩ = some (.slice o l cp) ∧ Reads W (.slice o l cp) (A.getD k [])) := fun k b off hk e => hRA.always hK (by rw [hav, e]) hk
  have HAf : Hid (0 < A.length → ∃ b off, ao = some ⟨b, off, none⟩) := fun h0 => by
    obtain ⟨b, off, cap, e⟩ := hRA.form h0
    rw [hav] at e; cases e; exact ⟨b, off, rfl⟩
  have HOk : Hid (∀ k O, noC (A.take k) [[]] = some O → okL M O ∧ O.length ≤ 40) := fun k O h => no_ok hM _ _ _ (fun c hc => hA c (List.mem_of_mem_take hc)) (okL_one M) (by simp) h
  have HT : Hid (∀ k W v, k < A.length → Reads W v (A.getD k []) → Calls Tryz.prog 97 #[v] W fun e w' => ∃ v', e = .returned v' ∧ RS2 (fun b => W.heap.size ≤ b) w' v' (turnC (A.getD k [])) ∧ Below W.heap.size W w') := fun k W v hk hv => turned_any v _ M hM W (hA _ (mem_getD hk)) hv
  have HBo : Hid (∀ k O W v v', k < A.length → noC (A.take k) [[]] = some O → RS2 (fun b => K ≤ b) W v O → RS2 (fun b => K ≤ b) W v' (turnC (A.getD k [])) → Calls Tryz.prog 85 #[v, v'] W fun e w' => OutC (fun b => K ≤ b) W.heap.size w' e (capC (andC O (turnC (A.getD k [])))) ∧ Below W.heap.size W w') := fun k O W v v' hk hO h1 h2 => both_cubes (fun b => K ≤ b) v v' O _ M hM W (HOk.out k O hO).1.1 (turn_ok (hA _ (mem_getD hk))) h1 h2
  subst hav
  rw [← hK]
  clear hRA hA hK
  obtain ⟨na, hna⟩ : ∃ na, na = A.length := ⟨_, rfl⟩
  rw [← hna] at ha63 ⊢
  have HN : Hid (na = A.length) := hna
  clear hna
  obtain ⟨w1, hw1⟩ : ∃ w1, w1 = w.alloc (.cells #[.slice none 0 0] 27) := ⟨_, rfl⟩
  have HB1 : Hid (Below K w w1 ∧ w1.heap.size = K + 1) := by
    rw [HK.out, hw1]; exact ⟨below_alloc1 _ _, by simp⟩
  have HO1 : Hid (RS2 (fun b => K ≤ b) w1 (.slice (some ⟨w.heap.size, 0, none⟩) 1 1) [[]]) := by
    refine Or.inr ⟨w.heap.size, 0, 1, rfl, ⟨by rw [HK.out]; exact Nat.le_refl _, by have := HB1.out.2; rw [← HK.out]; omega⟩, by simp, ⟨by simp, by simp⟩, fun k t hk => ?_⟩
    have hk0 : k = 0 := by have := (List.getElem?_eq_some_iff.1 hk).1; simpa using this
    subst hk0
    simp at hk; subst hk
    exact ⟨.slice none 0 0, by rw [hw1]; simp, Or.inl ⟨none, 0, rfl, rfl⟩⟩
  go_enter Tryz.func87, Tryz.ntmps87
  go_wp2_with fail
  rw [← hw1]
  clear hw1
  go_loopw [4, 6, 7, 11] (fun v _ _ i wr => ∃ (k : Nat) (O : List (List Int)), k ≤ na ∧ i = .int .i64 k ∧ noC (A.take k) [[]] = some O ∧ RS2 (fun b => K ≤ b) wr v O ∧ Below K w wr ∧ K ≤ wr.heap.size) (fun _ _ _ i _ => na - (intOf i).toNat)
  case atStart => exact ⟨0, [[]], Nat.zero_le _, rfl, rfl, HO1.out, HB1.out.1, by have := HB1.out.2; omega⟩
  case round =>
    obtain ⟨k, O, hk, rfl, hO, hR, hbel, hKw⟩ := hrel
    have HI : Hid (noC (A.take k) [[]] = some O ∧ RS2 (fun b => K ≤ b) wr u4 O ∧ Below K w wr ∧ K ≤ wr.heap.size) := ⟨hO, hR, hbel, hKw⟩
    obtain ⟨oo, ocap, rfl, _⟩ := hR.slice
    obtain ⟨ol, hol⟩ : ∃ ol, ol = O.length := ⟨_, rfl⟩
    rw [← hol] at HI ⊢
    clear hO hR hbel hKw hol
    by_cases hlt : k < na
    · have hkA : k < A.length := by rw [← HN.out]; exact hlt
      obtain ⟨ab, aoff, rfl⟩ := HAf.out (by omega)
      obtain ⟨co, cl, ccp, hall⟩ := HA.out k ab aoff hkA rfl
      obtain ⟨hcell, hcr⟩ := hall wr HI.out.2.2.1
      have hltz : (k : Int) < (na : Int) := by omega
      have HT1 : Hid (Calls Tryz.prog 97 #[.slice co cl ccp] wr fun e w' => ∃ v', e = .returned v' ∧ RS2 (fun b => wr.heap.size ≤ b) w' v' (turnC (A.getD k [])) ∧ Below wr.heap.size wr w') := HT.out k wr _ hkA hcr
      have HKA : Hid (k < A.length) := hkA
      clear hall hcr hkA
      go_wp2_with fail
      go_at_call 97
      refine HT1.out.mono ?_
      rintro e w2 ⟨v2, rfl, hr2, hb2⟩
      have HB2 : Hid (Below K w w2 ∧ K ≤ w2.heap.size) := ⟨HI.out.2.2.1.trans (hb2.mono HI.out.2.2.2), by have := hb2.size; have := HI.out.2.2.2; omega⟩
      have HBo1 : Hid (Calls Tryz.prog 85 #[.slice oo ol ocap, v2] w2 fun e w' => OutC (fun b => K ≤ b) w2.heap.size w' e (capC (andC O (turnC (A.getD k [])))) ∧ Below w2.heap.size w2 w') := HBo.out k O w2 _ _ HKA.out HI.out.1 (HI.out.2.1.kept (Kept.of_below hb2)) (hr2.mono fun b _ hb => Nat.le_trans HI.out.2.2.2 hb)
      have HS : Hid (noC (A.take (k + 1)) [[]] = capC (andC O (turnC (A.getD k [])))) := noC_succ A HKA.out HI.out.1
      obtain ⟨to, tcap, rfl, _⟩ := hr2.slice
      obtain ⟨tl, htl⟩ : ∃ tl, tl = (turnC (A.getD k [])).length := ⟨_, rfl⟩
      rw [← htl] at HBo1 ⊢
      clear hr2 hb2 HT1 htl
      go_wp2_with fail
      go_at_call 85
      refine HBo1.out.mono ?_
      rintro e w3 ⟨hout, hb3⟩
      have HB3 : Hid (Below K w w3 ∧ K ≤ w3.heap.size) := ⟨HB2.out.1.trans (hb3.mono HB2.out.2), by have := hb3.size; have := HB2.out.2; omega⟩
      clear hb3 HBo1
      cases hcap : capC (andC O (turnC (A.getD k []))) with
      | none =>
        rw [hcap] at hout
        have he : e = .returned (.tuple #[.slice none 0 0, .iface 61 (.int .i64 4)]) := hout
        subst he
        have HE : Hid (noC A [[]] = none) := noC_none (HS.out.trans hcap)
        clear hcap hout
        go_wp2
        go_ret2
        refine ⟨?_, HB3.out.1⟩
        rw [HE.out]; rfl
      | some O' =>
        rw [hcap] at hout
        obtain ⟨v3, rfl, hr3⟩ : ∃ v, e = .returned (.tuple #[v, .nilIface]) ∧ RS2 (fun b => K ≤ b ∨ w2.heap.size ≤ b) w3 v O' := hout
        have HR3 : Hid (noC (A.take (k + 1)) [[]] = some O' ∧ RS2 (fun b => K ≤ b) w3 v3 O') := ⟨HS.out.trans hcap, hr3.mono fun b _ hb => hb.elim id (fun h => Nat.le_trans HB2.out.2 h)⟩
        clear hcap hr3
        go_wp2
        go_roundw
        case rel => exact ⟨k + 1, O', by omega, by go_num, HR3.out.1, HR3.out.2, HB3.out.1, HB3.out.2⟩
        case measure => simp [intOf]; omega
    · have hltz : ¬ (k : Int) < (na : Int) := by omega
      have HE : Hid (noC A [[]] = some O) := by
        have h := HI.out.1
        rw [List.take_of_length_le (by have := HN.out; omega)] at h
        exact h
      go_wp2
      go_ret2
      refine ⟨?_, HI.out.2.2.1⟩
      rw [HE.out]
      exact ⟨_, rfl, HI.out.2.1.mono fun b _ hb => Or.inr hb⟩
end Go.Proofs.YtpdpnlpepfgknafGreatDoor

namespace Go.Proofs.YtpdpnlpepfgknafGreatDoor
open Go.ChangeShapes Go.WideShapes Go.ChangeAt Go.RowKit
set_option maxRecDepth 100000

/-- a row of rows as one that is put together. -/
theorem rs2_row {S : Nat → Prop} {w : World} {v : Value} {L : List (List Int)} (h : RS2 S w v L) : ∃ o cap xs, v = .slice o L.length cap ∧ (⟨o, L.length, cap, xs⟩ : RowV).Lies w ∧ xs.length = L.length ∧ ∀ (k : Nat) t, L[k]? = some t → ∃ u, xs[k]? = some u ∧ RS S w u t := by
  rcases h with ⟨ao, cap, rfl, rfl⟩ | ⟨b, off, cap, rfl, hB, h0, _, hc⟩
  · exact ⟨ao, cap, [], rfl, ⟨by simp, by simp, Or.inl rfl⟩, rfl, fun k t hk => by simp at hk⟩
  · have key : ∀ k, k < L.length → ∃ u, w.cell? ⟨b, off + k, none⟩ = some u ∧ u.oneCell' = true := fun k hk => by
      obtain ⟨u, hu, hr⟩ := hc k _ (List.getElem?_eq_getElem hk)
      exact ⟨u, hu, hr.one⟩
    refine ⟨_, cap, (List.range L.length).map (fun j => (w.cell? ⟨b, off + j, none⟩).getD (.int .i64 0)), rfl, ⟨by simp, ?_, Or.inr ⟨b, off, rfl, hB.2, ?_⟩⟩, by simp, ?_⟩
    · intro u hu
      obtain ⟨k, hk, rfl⟩ := List.mem_map.1 hu
      obtain ⟨x, hx, h1⟩ := key k (List.mem_range.1 hk)
      rw [hx]; exact h1
    · intro j u hu
      have hu' : ((List.range L.length).map (fun j => (w.cell? ⟨b, off + j, none⟩).getD (.int .i64 0)))[j]? = some u := hu
      rw [List.getElem?_map] at hu'
      cases hr : (List.range L.length)[j]? with
      | none => rw [hr] at hu'; cases hu'
      | some k =>
        rw [hr] at hu'
        obtain ⟨hk, e⟩ := List.getElem?_eq_some_iff.1 hr
        have e' : k = j := by simpa using e.symm
        subst e'
        obtain ⟨x, hx, _⟩ := key k (by simpa using hk)
        simp only [Option.map_some, hx, Option.getD_some, Option.some.injEq] at hu'
        rw [hx, hu']
    · intro k t hk
      obtain ⟨u, hu, hr⟩ := hc k t hk
      have hkl := (List.getElem?_eq_some_iff.1 hk).1
      refine ⟨u, ?_, hr⟩
      rw [List.getElem?_map, List.getElem?_range hkl]
      simp [hu]
theorem withC_ok {M : Nat} {L : List (List Int)} {c : List Int} (h : cubeOk M c) : withC L c = putC L c := by
  unfold withC putC
  rw [cube_noway h, Bool.false_or]

set_option maxHeartbeats 4000000 in
theorem either_cubes (S : Nat → Prop) (va vb : Value) (A B : List (List Int)) (M : Nat) (hM : M ≤ 6) (w : World) (hA : ∀ c ∈ A, cubeOk M c) (hB : ∀ c ∈ B, cubeOk M c) (hA4 : A.length ≤ 40) (hB4 : B.length ≤ 40) (hRA : RS2 S w va A) (hRB : RS2 S w vb B) :
    Calls Tryz.prog 86 #[va, vb] w fun e w' => OutC S w.heap.size w' e (capC (orC A B)) ∧ Below w.heap.size w w' := by
  obtain ⟨ao, acap, xa, rfl, la, hxa, hxar⟩ := rs2_row hRA
  obtain ⟨bo, bcap, xb, rfl, lb, hxb, hxbr⟩ := rs2_row hRB
  obtain ⟨K, hK⟩ : ∃ K, K = w.heap.size := ⟨_, rfl⟩
  have HK : Hid (K = w.heap.size) := hK
  obtain ⟨D, hD⟩ : ∃ D, D = A ++ B := ⟨_, rfl⟩
  have HX : Hid (∀ k, k < D.length → ∃ o l cp, (xa ++ xb)[k]? = some (.slice o l cp) ∧ RS (fun b => S b ∧ b < K) w (.slice o l cp) (D.getD k [])) := fun k hk => by
    have : ∃ u, (xa ++ xb)[k]? = some u ∧ RS S w u (D.getD k []) := by
      rw [hD] at hk ⊢
      by_cases hka : k < A.length
      · obtain ⟨u, hu, hr⟩ := hxar k _ (List.getElem?_eq_getElem hka)
        refine ⟨u, by rw [List.getElem?_append_left (by omega)]; exact hu, ?_⟩
        rw [List.getD_eq_getElem?_getD, List.getElem?_append_left hka, List.getElem?_eq_getElem hka]; exact hr
      · have hkb : k - A.length < B.length := by simp at hk; omega
        obtain ⟨u, hu, hr⟩ := hxbr (k - A.length) _ (List.getElem?_eq_getElem hkb)
        refine ⟨u, by rw [List.getElem?_append_right (by omega), hxa]; exact hu, ?_⟩
        rw [List.getD_eq_getElem?_getD, List.getElem?_append_right (by omega), List.getElem?_eq_getElem hkb]; exact hr
    obtain ⟨u, hu, hr⟩ := this
    obtain ⟨o, cp, rfl, _⟩ := hr.slice
    exact ⟨o, _, cp, hu, hr.mono fun b hb hs => ⟨hs, by rw [hK]; exact hb⟩⟩
  have HOk : Hid (∀ k, k < D.length → cubeOk M (D.getD k [])) := fun k hk => by
    have hm := mem_getD hk
    rw [hD] at hm ⊢
    rcases List.mem_append.1 hm with h | h
    · exact hA _ h
    · exact hB _ h
  have hor : orC A B = D.foldl putC [] := by rw [hD]; rfl
  have HL : Hid (A.length ≤ 40 ∧ B.length ≤ 40 ∧ D.length = A.length + B.length) := ⟨hA4, hB4, by rw [hD]; simp⟩
  obtain ⟨na, hna⟩ : ∃ na, na = A.length := ⟨_, rfl⟩
  obtain ⟨nb, hnb⟩ : ∃ nb, nb = B.length := ⟨_, rfl⟩
  rw [← hna, ← hnb] at HL
  rw [← hna] at la
  rw [← hnb] at lb
  rw [← hna, ← hnb, hor, ← hK]
  clear hRA hRB hA hB hD hor hK hxar hxbr hA4 hB4 hna hnb hxa hxb
  obtain ⟨w1, hw1⟩ : ∃ w1, w1 = w.alloc (.cells #[.slice ao na acap, .slice bo nb bcap] 75) := ⟨_, rfl⟩
  have HB1 : Hid (Below w.heap.size w w1 ∧ w1.heap.size = w.heap.size + 1) := by unfold Hid; rw [hw1]; exact ⟨below_alloc1 _ _, by simp⟩
  have HCo : Hid (Calls Tryz.prog 96 #[.slice (some ⟨w.heap.size, 0, none⟩) 2 2] w1 fun e w' => ∃ v, e = .returned v ∧ w'.ownsRow w1.heap.size 27 1 v (na + nb) (xa ++ xb) ∧ Below w1.heap.size w1 w') := by
    have h := concatV2 [⟨ao, na, acap, xa⟩, ⟨bo, nb, bcap, xb⟩] w.heap.size 2 w1 (by simp) (by have := HB1.out.2; omega) (fun k r hk => ?_) (fun r hr => ?_) (by have := HL.out; simp [manyV]; omega)
    · have e1 : manyV [⟨ao, na, acap, xa⟩, ⟨bo, nb, bcap, xb⟩] = na + nb := by simp [manyV]
      have e2 : allV [⟨ao, na, acap, xa⟩, ⟨bo, nb, bcap, xb⟩] = xa ++ xb := by simp [allV]
      rw [e1, e2] at h
      exact h
    · match k, hk with
      | 0, hk => simp at hk; subst hk; rw [hw1]; simp
      | 1, hk => simp at hk; subst hk; rw [hw1]; simp
    · simp at hr
      rcases hr with rfl | rfl
      · exact la.below HB1.out.1
      · exact lb.below HB1.out.1
  clear la lb
  go_enter Tryz.func86, Tryz.ntmps86
  go_wp2_with fail
  rw [← hw1]
  clear hw1
  go_at_call 96
  refine HCo.out.mono ?_
  rintro e w2 ⟨v2, rfl, hown, hb⟩
  obtain ⟨n, hn⟩ : ∃ n, n = na + nb := ⟨_, rfl⟩
  rw [← hn] at hown
  have HN : Hid (n = D.length ∧ n ≤ 80) := ⟨by have := HL.out; omega, by have := HL.out; omega⟩
  obtain ⟨vo, vcap, rfl⟩ : ∃ vo vcap, v2 = .slice vo n vcap := by
    rcases hown.2 with ⟨rfl, h0⟩ | ⟨g, cap, cur, rfl, _⟩
    · exact ⟨none, 0, by rw [h0]⟩
    · exact ⟨_, cap, rfl⟩
  obtain ⟨Q, hQ⟩ : ∃ Q, Q = w2.heap.size := ⟨_, rfl⟩
  have HQ : Hid (Q = w2.heap.size ∧ K ≤ Q ∧ Below K w w2) := by
    have h1 := HB1.out; have h2 := HK.out; have h3 := hb.size
    refine ⟨hQ, by omega, ?_⟩
    rw [h2]
    exact h1.1.trans (hb.mono h1.1.size)
  have HC : Hid (∀ W k, Below Q w2 W → k < n → ∃ g o l cp, vo = some ⟨g, 0, none⟩ ∧ W.cell? ⟨g, k, none⟩ = some (.slice o l cp) ∧ RS (fun b => S b ∧ b < K) W (.slice o l cp) (D.getD k [])) := fun W k hW hk => by
    obtain ⟨o, l, cp, hx, hr⟩ := HX.out k (by rw [← HN.out.1]; exact hk)
    obtain ⟨g, rfl⟩ : ∃ g, vo = some ⟨g, 0, none⟩ := by
      rcases hown.2 with ⟨_, h0⟩ | ⟨g, cap, cur, e, _⟩
      · omega
      · cases e; exact ⟨g, rfl⟩
    have hg := (hown.lt g rfl).2
    refine ⟨g, o, l, cp, rfl, ?_, ?_⟩
    · rw [hW.cell (show (⟨g, k, none⟩ : Addr).block < Q by rw [hQ]; exact hg), hown.cellAt k (by omega)]; exact hx
    · have k1 : Below K w W := HQ.out.2.2.trans (hW.mono HQ.out.2.1)
      exact hr.kept (Kept.of_belowK k1 fun b hb _ => hb.2)
  have hn80 : n ≤ 80 := HN.out.2
  clear hown hb hQ hn HCo
  go_wp2_with fail
  go_loopw [6, 8, 14] (fun v _ i wr => ∃ k : Nat, k ≤ n ∧ i = .int .i64 k ∧ Own2 S Q wr v ((D.take k).foldl putC []) ∧ Below Q w2 wr ∧ Q ≤ wr.heap.size) (fun _ _ i _ => n - (intOf i).toNat)
  case atStart => exact ⟨0, Nat.zero_le _, rfl, Own2.nil _ _ _, Below.refl _ _, by rw [HQ.out.1]; exact Nat.le_refl _⟩
  case round =>
    obtain ⟨k, hk, rfl, hown, hbel, hKw⟩ := hrel
    have HI : Hid (Own2 S Q wr u6 ((D.take k).foldl putC []) ∧ Below Q w2 wr ∧ Q ≤ wr.heap.size) := ⟨hown, hbel, hKw⟩
    have HLp : Hid (((D.take k).foldl putC []).length ≤ 80) := by
      have := (putF_len (D.take k) []).2
      have h2 := HN.out
      unfold Hid
      simp at this
      omega
    clear hown hbel hKw
    by_cases hlt : k < n
    · have hkD : k < D.length := by rw [← HN.out.1]; exact hlt
      obtain ⟨g, co, cl, ccp, rfl, hcell, hcr⟩ := HC.out wr k HI.out.2.1 hlt
      have hltz : (k : Int) < (n : Int) := by omega
      have HW : Hid (Calls Tryz.prog 94 #[u6, .slice co cl ccp] wr fun e w' => ∃ v', e = .returned v' ∧ Own2 S Q w' v' ((D.take (k + 1)).foldl putC []) ∧ wr.grownBy w' u6.ownBlock) := by
        have h := with_any S Q u6 (.slice co cl ccp) _ (D.getD k []) wr HI.out.2.2 HI.out.1 (hcr.mono fun b _ hb => ⟨Or.inl hb.1, fun e => by have := (HI.out.1.lt b e.symm).1; have := HQ.out.2.1; omega⟩) (by have := HLp.out; omega) (fun m hm => by have := (HOk.out k hkD).1 m hm; omega)
        have e1 : withC ((D.take k).foldl putC []) (D.getD k []) = (D.take (k + 1)).foldl putC [] := by
          rw [withC_ok (HOk.out k hkD), takeL_succ D hkD, List.foldl_append]; rfl
        rw [e1] at h
        exact h
      clear hcr hkD
      go_wp2_with fail
      go_at_call 94
      refine HW.out.mono ?_
      rintro e w3 ⟨v3, rfl, hown3, hgr⟩
      have HB3 : Hid (Below Q w2 w3 ∧ Q ≤ w3.heap.size) := ⟨HI.out.2.1.grown hgr HI.out.2.2 (fun j hj => (HI.out.1.lt j hj).1), by have := hgr.size; have := HI.out.2.2; omega⟩
      have HO3 : Hid (Own2 S Q w3 v3 ((D.take (k + 1)).foldl putC [])) := hown3
      clear hown3 hgr HW
      go_wp2
      go_roundw
      case rel => exact ⟨k + 1, by omega, by go_num, HO3.out, HB3.out.1, HB3.out.2⟩
      case measure => simp [intOf]; omega
    · have hltz : ¬ (k : Int) < (n : Int) := by omega
      have HE : Hid (D.take k = D) := List.take_of_length_le (by have := HN.out; omega)
      rw [HE.out] at HI HLp
      obtain ⟨o3, c3, hof⟩ := HI.out.1.form
      obtain ⟨l3, hl3⟩ : ∃ l3, l3 = (D.foldl putC []).length := ⟨_, rfl⟩
      rw [← hl3] at hof
      subst hof
      have HL3 : Hid (l3 = (D.foldl putC []).length) := hl3
      have hl80 : l3 ≤ 80 := by rw [hl3]; exact HLp.out
      clear hl3
      have HBw : Hid (Below K w wr) := HQ.out.2.2.trans (HI.out.2.1.mono HQ.out.2.1)
      by_cases h40 : 40 < l3
      · have h40z : (40 : Int) < (l3 : Int) := by omega
        have HC4 : Hid (capC (D.foldl putC []) = none) := capC_big (by rw [← HL3.out]; exact h40)
        go_wp2
        go_ret2
        refine ⟨?_, HBw.out⟩
        rw [HC4.out]; rfl
      · have h40z : ¬ (40 : Int) < (l3 : Int) := by omega
        have HC4 : Hid (capC (D.foldl putC []) = some (D.foldl putC [])) := capC_small (by rw [← HL3.out]; omega)
        go_wp2
        go_ret2
        refine ⟨?_, HBw.out⟩
        rw [HC4.out]
        exact ⟨_, rfl, (HI.out.1.reads (by rw [← HL3.out]; omega)).mono fun b _ hb => hb.imp id (fun h => Nat.le_trans HQ.out.2.1 h)⟩
end Go.Proofs.YtpdpnlpepfgknafGreatDoor

namespace Go.Proofs.YtpdpnlpepfgknafGreatDoor
open Go.ChangeShapes Go.WideShapes Go.ChangeAt Go.RowKit
set_option maxRecDepth 100000

/-- cubes in memory of which there are not too many. -/
def GoodC (S : Nat → Prop) (M : Nat) (w : World) (v : Value) (L : List (List Int)) : Prop := RS2 S w v L ∧ okL M L ∧ L.length ≤ 40
theorem GoodC.below {S : Nat → Prop} {M : Nat} {w w' : World} {v : Value} {L : List (List Int)} (h : GoodC S M w v L) (hb : Below w.heap.size w w') : GoodC S M w' v L := ⟨h.1.kept (Kept.of_below hb), h.2⟩
theorem out_none {S : Nat → Prop} {w : World} {f : Nat} {args : Array Value} {c : Option (List (List Int))} (hc : c = none) (h : ∀ W, Below w.heap.size w W → Calls Tryz.prog f args W fun e w' => OutC S W.heap.size w' e c ∧ Below W.heap.size W w') :
    ∀ W, Below w.heap.size w W → Calls Tryz.prog f args W fun e w' => e = .returned (.tuple #[.slice none 0 0, .iface 61 (.int .i64 4)]) ∧ Below w.heap.size w w' := fun W hW => by
  subst hc
  refine (h W hW).mono ?_
  rintro e w' ⟨he, hb⟩
  exact ⟨he, hW.trans (hb.mono hW.size)⟩
theorem out_some {S : Nat → Prop} {w : World} {f : Nat} {args : Array Value} {c : Option (List (List Int))} {L : List (List Int)} (hc : c = some L) (h : ∀ W, Below w.heap.size w W → Calls Tryz.prog f args W fun e w' => OutC S W.heap.size w' e c ∧ Below W.heap.size W w') :
    ∀ W, Below w.heap.size w W → Calls Tryz.prog f args W fun e w' => ∃ oo ol oc, e = .returned (.tuple #[.slice oo ol oc, .nilIface]) ∧ RS2 (fun b => S b ∨ w.heap.size ≤ b) w' (.slice oo ol oc) L ∧ Below w.heap.size w w' := fun W hW => by
  subst hc
  refine (h W hW).mono ?_
  rintro e w' ⟨he, hb⟩
  obtain ⟨v, rfl, hr⟩ : ∃ v, e = .returned (.tuple #[v, .nilIface]) ∧ RS2 (fun b => S b ∨ W.heap.size ≤ b) w' v L := he
  obtain ⟨oo, oc, rfl, _⟩ := hr.slice
  exact ⟨oo, _, oc, rfl, hr.mono fun b _ hb => hb.imp id (fun h => Nat.le_trans hW.size h), hW.trans (hb.mono hW.size)⟩

set_option maxHeartbeats 4000000 in
theorem cmade_10 (S : Nat → Prop) (M : Nat) (hM : M ≤ 6) (B off cap : Nat) (w : World) (u0 : Value) (L0 : List (List Int)) (c0 : w.cell? ⟨B, off, none⟩ = some u0) (g0 : GoodC S M w u0 L0) (u1 : Value) (L1 : List (List Int)) (c1 : w.cell? ⟨B, off + 1, none⟩ = some u1) (g1 : GoodC S M w u1 L1) :
    Calls Tryz.prog 64 #[.int .i64 10, .slice (some ⟨B, off, none⟩) 2 cap] w fun e w' => OutC S w.heap.size w' e (madeC 10 [L0, L1]) ∧ Below w.heap.size w w' := by
  obtain ⟨o0, q0, rfl, _⟩ := g0.1.slice
  obtain ⟨o1, q1, rfl, _⟩ := g1.1.slice
  have HE : Hid (madeC 10 [L0, L1] = capC (andC L0 L1)) := rfl
  have H0 := (fun W hW => both_cubes S _ _ L0 L1 M hM W (g0.below hW).2.1.1 (g1.below hW).2.1.1 (g0.below hW).1 (g1.below hW).1 : ∀ W, Below w.heap.size w W → Calls Tryz.prog 85 #[.slice o0 L0.length q0, .slice o1 L1.length q1] W fun e w' => OutC S W.heap.size w' e (capC (andC L0 L1)) ∧ Below W.heap.size W w')
  obtain ⟨l0, hl0⟩ : ∃ l0, l0 = L0.length := ⟨_, rfl⟩
  obtain ⟨l1, hl1⟩ : ∃ l1, l1 = L1.length := ⟨_, rfl⟩
  rw [← hl0] at H0 c0
  rw [← hl1] at H0 c1
  clear g0 g1 hl0 hl1
  cases hc : capC (andC L0 L1) with
  | none =>
    have H : Hid (∀ W, Below w.heap.size w W → _) := out_none hc H0
    rw [hc] at HE
    clear H0 hc
    go_enter Tryz.func64, Tryz.ntmps64
    go_wp2_with fail
    go_region_with (go_at_call 85; refine (H.out _ (by first | exact Below.refl _ _ | exact below_drewNs _ _)).mono ?_; rintro e w3 ⟨rfl, hb3⟩)
    all_goals go_wp2
    all_goals go_ret2
    all_goals refine ⟨?_, hb3⟩
    all_goals (rw [HE.out]; exact rfl)
  | some L =>
    have H : Hid (∀ W, Below w.heap.size w W → _) := out_some hc H0
    rw [hc] at HE
    clear H0 hc
    go_enter Tryz.func64, Tryz.ntmps64
    go_wp2_with fail
    go_region_with (go_at_call 85; refine (H.out _ (by first | exact Below.refl _ _ | exact below_drewNs _ _)).mono ?_; rintro e w3 ⟨oo, ol, oc, rfl, hr3, hb3⟩)
    all_goals go_wp2
    all_goals go_ret2
    all_goals refine ⟨?_, hb3⟩
    all_goals (rw [HE.out]; exact ⟨.slice oo ol oc, rfl, hr3⟩)

set_option maxHeartbeats 4000000 in
theorem cmade_11 (S : Nat → Prop) (M : Nat) (hM : M ≤ 6) (B off cap : Nat) (w : World) (u0 : Value) (L0 : List (List Int)) (c0 : w.cell? ⟨B, off, none⟩ = some u0) (g0 : GoodC S M w u0 L0) (u1 : Value) (L1 : List (List Int)) (c1 : w.cell? ⟨B, off + 1, none⟩ = some u1) (g1 : GoodC S M w u1 L1) :
    Calls Tryz.prog 64 #[.int .i64 11, .slice (some ⟨B, off, none⟩) 2 cap] w fun e w' => OutC S w.heap.size w' e (madeC 11 [L0, L1]) ∧ Below w.heap.size w w' := by
  obtain ⟨o0, q0, rfl, _⟩ := g0.1.slice
  obtain ⟨o1, q1, rfl, _⟩ := g1.1.slice
  have HE : Hid (madeC 11 [L0, L1] = capC (orC L0 L1)) := rfl
  have H0 := (fun W hW => either_cubes S _ _ L0 L1 M hM W (g0.below hW).2.1.1 (g1.below hW).2.1.1 g0.2.2 g1.2.2 (g0.below hW).1 (g1.below hW).1 : ∀ W, Below w.heap.size w W → Calls Tryz.prog 86 #[.slice o0 L0.length q0, .slice o1 L1.length q1] W fun e w' => OutC S W.heap.size w' e (capC (orC L0 L1)) ∧ Below W.heap.size W w')
  obtain ⟨l0, hl0⟩ : ∃ l0, l0 = L0.length := ⟨_, rfl⟩
  obtain ⟨l1, hl1⟩ : ∃ l1, l1 = L1.length := ⟨_, rfl⟩
  rw [← hl0] at H0 c0
  rw [← hl1] at H0 c1
  clear g0 g1 hl0 hl1
  cases hc : capC (orC L0 L1) with
  | none =>
    have H : Hid (∀ W, Below w.heap.size w W → _) := out_none hc H0
    rw [hc] at HE
    clear H0 hc
    go_enter Tryz.func64, Tryz.ntmps64
    go_wp2_with fail
    go_region_with (go_at_call 86; refine (H.out _ (by first | exact Below.refl _ _ | exact below_drewNs _ _)).mono ?_; rintro e w3 ⟨rfl, hb3⟩)
    all_goals go_wp2
    all_goals go_ret2
    all_goals refine ⟨?_, hb3⟩
    all_goals (rw [HE.out]; exact rfl)
  | some L =>
    have H : Hid (∀ W, Below w.heap.size w W → _) := out_some hc H0
    rw [hc] at HE
    clear H0 hc
    go_enter Tryz.func64, Tryz.ntmps64
    go_wp2_with fail
    go_region_with (go_at_call 86; refine (H.out _ (by first | exact Below.refl _ _ | exact below_drewNs _ _)).mono ?_; rintro e w3 ⟨oo, ol, oc, rfl, hr3, hb3⟩)
    all_goals go_wp2
    all_goals go_ret2
    all_goals refine ⟨?_, hb3⟩
    all_goals (rw [HE.out]; exact ⟨.slice oo ol oc, rfl, hr3⟩)

set_option maxHeartbeats 4000000 in
theorem cmade_12 (S : Nat → Prop) (M : Nat) (hM : M ≤ 6) (B off cap : Nat) (w : World) (u0 : Value) (L0 : List (List Int)) (c0 : w.cell? ⟨B, off, none⟩ = some u0) (g0 : GoodC S M w u0 L0) :
    Calls Tryz.prog 64 #[.int .i64 12, .slice (some ⟨B, off, none⟩) 1 cap] w fun e w' => OutC S w.heap.size w' e (madeC 12 [L0]) ∧ Below w.heap.size w w' := by
  obtain ⟨o0, q0, rfl, _⟩ := g0.1.slice
  have HE : Hid (madeC 12 [L0] = noC L0 [[]]) := rfl
  have H0 := (fun W hW => none_cubes S _ L0 M hM W (g0.below hW).2.1.1 (g0.below hW).1 : ∀ W, Below w.heap.size w W → Calls Tryz.prog 87 #[.slice o0 L0.length q0] W fun e w' => OutC S W.heap.size w' e (noC L0 [[]]) ∧ Below W.heap.size W w')
  obtain ⟨l0, hl0⟩ : ∃ l0, l0 = L0.length := ⟨_, rfl⟩
  rw [← hl0] at H0 c0
  clear g0 hl0
  cases hc : noC L0 [[]] with
  | none =>
    have H : Hid (∀ W, Below w.heap.size w W → _) := out_none hc H0
    rw [hc] at HE
    clear H0 hc
    go_enter Tryz.func64, Tryz.ntmps64
    go_wp2_with (go_at_call 87; refine (H.out _ (Below.refl _ _)).mono ?_; rintro e w3 ⟨rfl, hb3⟩)
    go_ret2
    refine ⟨?_, hb3⟩
    rw [HE.out]; rfl
  | some L =>
    have H : Hid (∀ W, Below w.heap.size w W → _) := out_some hc H0
    rw [hc] at HE
    clear H0 hc
    go_enter Tryz.func64, Tryz.ntmps64
    go_wp2_with (go_at_call 87; refine (H.out _ (Below.refl _ _)).mono ?_; rintro e w3 ⟨oo, ol, oc, rfl, hr3, hb3⟩)
    go_ret2
    refine ⟨?_, hb3⟩
    rw [HE.out]
    exact ⟨_, rfl, hr3⟩

set_option maxHeartbeats 4000000 in
theorem cmade_13 (S : Nat → Prop) (M : Nat) (hM : M ≤ 6) (B off cap : Nat) (w : World) (u0 : Value) (L0 : List (List Int)) (c0 : w.cell? ⟨B, off, none⟩ = some u0) (g0 : GoodC S M w u0 L0) (u1 : Value) (L1 : List (List Int)) (c1 : w.cell? ⟨B, off + 1, none⟩ = some u1) (g1 : GoodC S M w u1 L1) (hB : B < w.heap.size) :
    Calls Tryz.prog 64 #[.int .i64 13, .slice (some ⟨B, off, none⟩) 2 cap] w fun e w' => OutC S w.heap.size w' e (madeC 13 [L0, L1]) ∧ Below w.heap.size w w' := by
  obtain ⟨o0, q0, rfl, _⟩ := g0.1.slice
  obtain ⟨o1, q1, rfl, _⟩ := g1.1.slice
  have HE : Hid (madeC 13 [L0, L1] = (noC L0 [[]]).bind (fun x => capC (orC x L1))) := rfl
  have H0 := (fun W hW => none_cubes S _ L0 M hM W (g0.below hW).2.1.1 (g0.below hW).1 : ∀ W, Below w.heap.size w W → Calls Tryz.prog 87 #[.slice o0 L0.length q0] W fun e w' => OutC S W.heap.size w' e (noC L0 [[]]) ∧ Below W.heap.size W w')
  have HC1 : Hid (∀ W, Below w.heap.size w W → W.cell? ⟨B, off + 1, none⟩ = some (.slice o1 L1.length q1)) := fun W hW => by rw [hW.cell (show (⟨B, off + 1, none⟩ : Addr).block < _ from hB)]; exact c1
  have H1 : Hid (∀ W x v, Below w.heap.size w W → noC L0 [[]] = some x → RS2 (fun b => S b ∨ w.heap.size ≤ b) W v x → Calls Tryz.prog 86 #[v, .slice o1 L1.length q1] W fun e w' => OutC (fun b => S b ∨ w.heap.size ≤ b) W.heap.size w' e (capC (orC x L1)) ∧ Below W.heap.size W w') := fun W x v hW hx hv => by
    have hok := no_ok hM _ _ _ g0.2.1.1 (okL_one M) (by simp) hx
    exact either_cubes (fun b => S b ∨ w.heap.size ≤ b) v _ x L1 M hM W hok.1.1 g1.2.1.1 hok.2 g1.2.2 hv ((g1.below hW).1.mono fun b _ h => Or.inl h)
  obtain ⟨l0, hl0⟩ : ∃ l0, l0 = L0.length := ⟨_, rfl⟩
  obtain ⟨l1, hl1⟩ : ∃ l1, l1 = L1.length := ⟨_, rfl⟩
  rw [← hl0] at H0 c0
  rw [← hl1] at HC1 H1
  clear g0 g1 hl0 hl1 c1
  cases hc : noC L0 [[]] with
  | none =>
    have H : Hid (∀ W, Below w.heap.size w W → _) := out_none hc H0
    rw [hc] at HE
    clear H0 hc H1
    go_enter Tryz.func64, Tryz.ntmps64
    go_wp2_with (go_at_call 87; refine (H.out _ (Below.refl _ _)).mono ?_; rintro e w3 ⟨rfl, hb3⟩)
    go_ret2
    refine ⟨?_, hb3⟩
    rw [HE.out]; rfl
  | some x =>
    have H : Hid (∀ W, Below w.heap.size w W → _) := out_some hc H0
    have HH1 : Hid (∀ W v, Below w.heap.size w W → RS2 (fun b => S b ∨ w.heap.size ≤ b) W v x → _) := fun W v hW hv => H1.out W x v hW hc hv
    rw [hc] at HE
    clear H0 hc H1
    go_enter Tryz.func64, Tryz.ntmps64
    go_wp2_with fail
    go_at_call 87
    refine (H.out _ (Below.refl _ _)).mono ?_
    rintro e w3 ⟨oo, ol, oc, rfl, hr3, hb3⟩
    have HB3 : Hid (Below w.heap.size w w3) := hb3
    have c1 := HC1.out w3 hb3
    have HE2 : Hid (madeC 13 [L0, L1] = capC (orC x L1)) := HE.out
    have HF0 := (HH1.out w3 _ hb3 hr3 : Calls Tryz.prog 86 #[.slice oo ol oc, .slice o1 l1 q1] w3 fun e w' => OutC (fun b => S b ∨ w.heap.size ≤ b) w3.heap.size w' e (capC (orC x L1)) ∧ Below w3.heap.size w3 w')
    cases hc2 : capC (orC x L1) with
    | none =>
      rw [hc2] at HE2 HF0
      have HF : Hid (Calls Tryz.prog 86 #[.slice oo ol oc, .slice o1 l1 q1] w3 fun e w' => e = .returned (.tuple #[.slice none 0 0, .iface 61 (.int .i64 4)]) ∧ Below w3.heap.size w3 w') := HF0
      clear HF0 hr3 hb3 hc2 HE H HH1
      go_wp2_with fail
      go_at_call 86
      refine HF.out.mono ?_
      rintro e w4 ⟨rfl, hb4⟩
      have HB4 : Hid (Below w.heap.size w w4) := HB3.out.trans (hb4.mono HB3.out.size)
      clear hb4
      go_wp2
      go_ret2
      refine ⟨?_, HB4.out⟩
      rw [HE2.out]; rfl
    | some L =>
      rw [hc2] at HE2 HF0
      have HF : Hid (Calls Tryz.prog 86 #[.slice oo ol oc, .slice o1 l1 q1] w3 fun e w' => ∃ po pl pc, e = .returned (.tuple #[.slice po pl pc, .nilIface]) ∧ RS2 (fun b => S b ∨ w.heap.size ≤ b) w' (.slice po pl pc) L ∧ Below w3.heap.size w3 w') := by
        refine HF0.mono ?_
        rintro e w' ⟨he, hb⟩
        obtain ⟨v, rfl, hr⟩ : ∃ v, e = .returned (.tuple #[v, .nilIface]) ∧ RS2 (fun b => (S b ∨ w.heap.size ≤ b) ∨ w3.heap.size ≤ b) w' v L := he
        obtain ⟨po, pc, rfl, _⟩ := hr.slice
        exact ⟨po, _, pc, rfl, hr.mono fun b _ hb => hb.elim id (fun h => Or.inr (Nat.le_trans HB3.out.size h)), hb⟩
      clear HF0 hr3 hb3 hc2 HE H HH1
      go_wp2_with fail
      go_at_call 86
      refine HF.out.mono ?_
      rintro e w4 ⟨po, pl, pc, rfl, hr4, hb4⟩
      have HB4 : Hid (Below w.heap.size w w4 ∧ RS2 (fun b => S b ∨ w.heap.size ≤ b) w4 (.slice po pl pc) L) := ⟨HB3.out.trans (hb4.mono HB3.out.size), hr4⟩
      clear hb4 hr4
      go_wp2
      go_ret2
      refine ⟨?_, HB4.out.1⟩
      rw [HE2.out]
      exact ⟨_, rfl, HB4.out.2⟩

set_option maxHeartbeats 4000000 in
theorem cmade_leaf (S : Nat → Prop) (s : Int) (h0 : 0 ≤ s) (h6 : s < 6) (v : Value) (w : World) :
    Calls Tryz.prog 64 #[.int .i64 s, v] w fun e w' => OutC S w.heap.size w' e (madeC s []) ∧ Below w.heap.size w w' := by
  have HE : Hid (madeC s [] = some [[s + 1]]) := by
    unfold Hid madeC
    rw [if_neg (by omega), if_neg (by omega), if_neg (by omega), if_neg (by omega)]
  have g0 : (s == 10) = false := by simp; omega
  have g1 : (s == 11) = false := by simp; omega
  have g2 : (s == 13) = false := by simp; omega
  have g3 : (s == 12) = false := by simp; omega
  obtain ⟨w2, hw2⟩ : ∃ w2, w2 = w.alloc (.cells #[.int .i64 (s + 1)] 3) := ⟨_, rfl⟩
  obtain ⟨w3, hw3⟩ : ∃ w3, w3 = w2.alloc (.cells #[.slice (some ⟨w.heap.size, 0, none⟩) 1 1] 27) := ⟨_, rfl⟩
  have hs2 : w2.heap.size = w.heap.size + 1 := by rw [hw2]; simp
  have HB3 : Hid (Below w.heap.size w w3 ∧ w3.heap.size = w.heap.size + 2) := by
    refine ⟨?_, by rw [hw3]; simp [hs2]⟩
    rw [hw3]
    exact (by rw [hw2]; exact below_alloc1 _ _ : Below w.heap.size w w2).trans ((below_alloc1 _ _).mono (by omega))
  have HR : Hid (RS2 (fun b => S b ∨ w.heap.size ≤ b) w3 (.slice (some ⟨w.heap.size + 1, 0, none⟩) 1 1) [[s + 1]]) := by
    refine Or.inr ⟨w.heap.size + 1, 0, 1, rfl, ⟨Or.inr (by omega), by have := HB3.out.2; omega⟩, by simp, ⟨by simp, by simp⟩, fun k t hk => ?_⟩
    have hk0 : k = 0 := by have := (List.getElem?_eq_some_iff.1 hk).1; simpa using this
    subst hk0
    simp at hk; subst hk
    refine ⟨.slice (some ⟨w.heap.size, 0, none⟩) 1 1, by rw [hw3, ← hs2]; simp, Or.inr ⟨w.heap.size, 0, 1, rfl, ⟨Or.inr (Nat.le_refl _), by have := HB3.out.2; omega⟩, by simp, ⟨by simp, by simp⟩, fun j hj => ?_⟩⟩
    have hj0 : j = 0 := by simpa using hj
    subst hj0
    rw [hw3, World.cell?_alloc_lt _ _ ⟨w.heap.size, 0 + 0, none⟩ (by simp; omega), hw2]
    simp
  have HW3 : Hid ((w.alloc (.cells #[.int .i64 (s + 1)] 3)).alloc (.cells #[.slice (some ⟨w.heap.size, 0, none⟩) 1 1] 27) = w3) := by unfold Hid; rw [hw3, hw2]
  clear hw2 hw3
  go_enter Tryz.func64, Tryz.ntmps64
  go_wp2
  rw [HW3.out]
  go_ret2
  refine ⟨?_, HB3.out.1⟩
  rw [HE.out]
  exact ⟨_, rfl, HR.out⟩
end Go.Proofs.YtpdpnlpepfgknafGreatDoor

namespace Go.Proofs.YtpdpnlpepfgknafGreatDoor
open Go.ChangeShapes Go.WideShapes Go.ChangeAt Go.RowKit
set_option maxRecDepth 100000

/-- an atom lies at a place. -/
def AtomAt (w : World) (b off : Nat) (a : At) : Prop :=
  ∃ vs vt, w.cell? ⟨b, off, none⟩ = some (.int .i64 a.k) ∧ w.cell? ⟨b, off + 1, none⟩ = some vs ∧ w.cell? ⟨b, off + 2, none⟩ = some vt ∧ w.cell? ⟨b, off + 3, none⟩ = some (.int .i64 a.n) ∧ Reads w vs a.s ∧ Reads w vt a.t
/-- the slice v reads, in the world w, ats these atoms. -/
def ReadsA (w : World) (v : Value) (ats : List At) : Prop :=
  (∃ ao cap, v = .slice ao 0 cap ∧ ats = []) ∨ (∃ b off cap, v = .slice (some ⟨b, off, none⟩) ats.length cap ∧ b < w.heap.size ∧ 0 < ats.length ∧ (ats.length ≤ 9223372036854775807 ∧ ats.length ≤ cap) ∧ ∀ i a, ats[i]? = some a → AtomAt w b (off + i * 4) a)
theorem AtomAt.below {w w' : World} {b off : Nat} {a : At} (h : AtomAt w b off a) (hB : b < w.heap.size) (hb : Below w.heap.size w w') : AtomAt w' b off a := by
  obtain ⟨vs, vt, h1, h2, h3, h4, h5, h6⟩ := h
  exact ⟨vs, vt, by rw [hb.cell hB]; exact h1, by rw [hb.cell hB]; exact h2, by rw [hb.cell hB]; exact h3, by rw [hb.cell hB]; exact h4, h5.below hb, h6.below hb⟩
theorem ReadsA.below {w w' : World} {v : Value} {ats : List At} (h : ReadsA w v ats) (hb : Below w.heap.size w w') : ReadsA w' v ats := by
  rcases h with h | ⟨b, off, cap, h1, h2, h3, h4, h5⟩
  · exact Or.inl h
  · exact Or.inr ⟨b, off, cap, h1, Nat.lt_of_lt_of_le h2 hb.size, h3, h4, fun i a ha => (h5 i a ha).below h2 hb⟩
theorem ReadsA.slice {w : World} {v : Value} {ats : List At} (h : ReadsA w v ats) : ∃ ao cap, v = .slice ao ats.length cap ∧ ats.length ≤ 9223372036854775807 := by
  rcases h with ⟨ao, cap, rfl, rfl⟩ | ⟨b, off, cap, rfl, _, _, h, _⟩
  · exact ⟨ao, cap, rfl, by decide⟩
  · exact ⟨_, cap, rfl, h.1⟩

theorem ftakes_any (s : Int) (w : World) :
    Calls Tryz.prog 55 #[.int .i64 s] w fun e w' => e = .returned (.int .i64 (takesF s)) ∧ w = w' := by
  by_cases h5 : s = 10
  · subst h5
    go_enter Tryz.func55, Tryz.ntmps55
    go_wp2
    go_ret
    exact ⟨rfl, rfl⟩
  by_cases h6 : s = 11
  · subst h6
    go_enter Tryz.func55, Tryz.ntmps55
    go_wp2
    go_ret
    exact ⟨rfl, rfl⟩
  by_cases h7 : s = 13
  · subst h7
    go_enter Tryz.func55, Tryz.ntmps55
    go_wp2
    go_ret
    exact ⟨rfl, rfl⟩
  by_cases h8 : s = 12
  · subst h8
    go_enter Tryz.func55, Tryz.ntmps55
    go_wp2
    go_ret
    exact ⟨rfl, rfl⟩
  have e : takesF s = 0 := by unfold takesF; rw [if_neg (by omega), if_neg h8]
  rw [e]
  clear e
  have h5' : (s == 10) = false := by simpa using h5
  have h6' : (s == 11) = false := by simpa using h6
  have h7' : (s == 13) = false := by simpa using h7
  have h8' : (s == 12) = false := by simpa using h8
  clear h5 h6 h7 h8
  go_enter Tryz.func55, Tryz.ntmps55
  go_wp2
  go_ret
  exact ⟨rfl, rfl⟩

theorem tooMany_any (a s : Int) (w : World) :
    Calls Tryz.prog 33 #[.int .i64 a, .int .i64 s] w fun e w' => e = .returned (.bool (decide (6 < a) || decide (20 < s))) ∧ w = w' := by
  by_cases h1 : 6 < a
  · go_enter Tryz.func33, Tryz.ntmps33
    go_wp2
    go_ret
    exact ⟨by simp [h1], rfl⟩
  · by_cases h2 : 20 < s
    · go_enter Tryz.func33, Tryz.ntmps33
      go_wp2
      go_ret
      exact ⟨by simp, rfl⟩
    · go_enter Tryz.func33, Tryz.ntmps33
      go_wp2
      go_ret
      exact ⟨by simp [h1, h2], rfl⟩

theorem fnoSign_any (m cap P : Nat) (ao : Option Addr) (s : Int) (w : World) (hP : w.cell? ⟨P, 0, none⟩ = some (.slice ao m cap)) :
    Calls Tryz.prog 54 #[.int .i64 s, .pointer (some ⟨P, 0, none⟩)] w fun e w' => e = .returned (.bool (!signF m s)) ∧ w = w' := by
  have HT : Hid (∀ W, Calls Tryz.prog 55 #[.int .i64 s] W fun e w' => e = .returned (.int .i64 (takesF s)) ∧ W = w') := fun W => ftakes_any s W
  by_cases h0 : takesF s = 0
  · rw [h0] at HT
    by_cases h1 : s < 0
    · have e : signF m s = false := by simp [signF, h0, h1]
      rw [e]
      clear e h0
      go_enter Tryz.func54, Tryz.ntmps54
      go_wp2_with (go_at_call 55; refine (HT.out _).mono ?_; rintro e w' ⟨rfl, rfl⟩)
      go_ret
      exact ⟨rfl, rfl⟩
    · by_cases h2 : (m : Int) ≤ s
      · have e : signF m s = false := by simp [signF, h0, h2]
        rw [e]
        clear e h0
        go_enter Tryz.func54, Tryz.ntmps54
        go_wp2_with (go_at_call 55; refine (HT.out _).mono ?_; rintro e w' ⟨rfl, rfl⟩)
        go_ret
        exact ⟨rfl, rfl⟩
      · have e : signF m s = true := by simp [signF, h1, h2]
        rw [e]
        clear e h0
        go_enter Tryz.func54, Tryz.ntmps54
        go_wp2_with (go_at_call 55; refine (HT.out _).mono ?_; rintro e w' ⟨rfl, rfl⟩)
        go_ret
        exact ⟨back_b (by simp; omega), rfl⟩
  · have e : signF m s = true := by simp [signF, h0]
    rw [e]
    clear e
    have h0' : (takesF s == 0) = false := by simpa using h0
    clear h0
    go_enter Tryz.func54, Tryz.ntmps54
    go_wp2_with (go_at_call 55; refine (HT.out _).mono ?_; rintro e w' ⟨rfl, rfl⟩)
    go_ret
    exact ⟨rfl, rfl⟩

/-- the first sign that is none, or -1. -/
def firstBadF (m : Nat) : List Int → Nat → Int
  | [], _ => -1
  | s :: l, k => if signF m s = true then firstBadF m l (k + 1) else k
theorem firstBadF_lt (m : Nat) (t : List Int) (k : Nat) : (firstBadF m t k < 0 ↔ t.all (signF m) = true) ∧ -1 ≤ firstBadF m t k := by
  induction t generalizing k with
  | nil => exact ⟨⟨fun _ => rfl, fun _ => show (-1 : Int) < 0 by decide⟩, Int.le_refl _⟩
  | cons s l ih =>
    unfold firstBadF
    by_cases h : signF m s = true
    · rw [if_pos h]; simpa [h] using ih (k + 1)
    · rw [if_neg h]; simp only [List.all_cons, h]; simp
theorem firstBadF_drop (m : Nat) (t : List Int) {k : Nat} (hk : k < t.length) : firstBadF m (t.drop k) k = if signF m (t.getD k 0) = true then firstBadF m (t.drop (k + 1)) (k + 1) else k := by
  rw [List.drop_eq_getElem_cons hk]
  simp [firstBadF, List.getElem?_eq_getElem hk]

theorem findexFunc_any (m mcap P : Nat) (ao : Option Addr) (b off cap : Nat) (t : List Int) (w : World) (hl : t.length ≤ 9223372036854775807) (hP : w.cell? ⟨P, 0, none⟩ = some (.slice ao m mcap)) (hc : ∀ k, k < t.length → w.cell? ⟨b, off + k, none⟩ = some (.int .i64 (t.getD k 0))) :
    Calls Tryz.prog 82 #[.slice (some ⟨b, off, none⟩) t.length cap, .func (.func 54) #[] #[.pointer (some ⟨P, 0, none⟩)]] w fun e w' => e = .returned (.int .i64 (firstBadF m t 0)) ∧ w = w' := by
  have HF : Hid (∀ {k : Nat}, k < t.length → firstBadF m (t.drop k) k = if signF m (t.getD k 0) = true then firstBadF m (t.drop (k + 1)) (k + 1) else k) := fun {_} h => firstBadF_drop m t h
  have HC : Hid (∀ k, k < t.length → w.cell? ⟨b, off + k, none⟩ = some (.int .i64 (t.getD k 0))) := hc
  clear hc
  have HP : Hid (w.cell? ⟨P, 0, none⟩ = some (.slice ao m mcap)) := hP
  clear hP
  obtain ⟨n, hn⟩ : ∃ n, n = t.length := ⟨_, rfl⟩
  rw [← hn] at hl ⊢
  have HN : Hid (n = t.length) := hn
  clear hn
  go_enter Tryz.func82, Tryz.ntmps82
  go_wp2
  go_loop [8] (fun i => ∃ k : Nat, k ≤ n ∧ i = .int .i64 k ∧ firstBadF m (t.drop k) k = firstBadF m t 0) (fun i => n - (intOf i).toNat)
  case atStart => exact ⟨0, Nat.zero_le _, rfl, rfl⟩
  case round =>
    obtain ⟨k, hk, rfl, hF⟩ := hrel
    have HK : Hid (firstBadF m (t.drop k) k = firstBadF m t 0) := hF
    clear hF
    by_cases hlt : k < n
    · obtain ⟨s, hs⟩ : ∃ s, s = t.getD k 0 := ⟨_, rfl⟩
      have hc := HC.out k (by rw [← HN.out]; exact hlt)
      rw [← hs] at hc
      have HS : Hid (s = t.getD k 0) := hs
      clear hs
      have HD : Hid (firstBadF m (t.drop k) k = if signF m s = true then firstBadF m (t.drop (k + 1)) (k + 1) else k) := by
        have := HF.out (k := k) (by rw [← HN.out]; exact hlt)
        rw [← HS.out] at this; exact this
      by_cases hb : signF m s = true
      · have HD' : Hid (firstBadF m (t.drop (k + 1)) (k + 1) = firstBadF m t 0) := by
          have h1 := HD.out
          rw [if_pos hb] at h1
          exact h1.symm.trans HK.out
        go_wp2_with (go_at_call 54; refine (fnoSign_any m mcap P ao _ _ HP.out).mono ?_; rintro e w' ⟨rfl, rfl⟩)
        go_round
        case rel => exact ⟨k + 1, by omega, by go_num, HD'.out⟩
        case measure => simp [intOf]; omega
      · have HD' : Hid ((k : Int) = firstBadF m t 0) := by
          have h1 := HD.out
          rw [if_neg hb] at h1
          exact h1.symm.trans HK.out
        have hb' : signF m s = false := by simpa using hb
        clear hb
        go_wp2_with (go_at_call 54; refine (fnoSign_any m mcap P ao _ _ HP.out).mono ?_; rintro e w' ⟨rfl, rfl⟩)
        go_ret
        exact ⟨back_i HD'.out, rfl⟩
    · have HE : Hid (firstBadF m t 0 = -1) := by
        have h1 := HK.out
        rw [List.drop_eq_nil_of_le (by have := HN.out; omega)] at h1
        exact h1.symm
      go_wp2
      go_ret
      exact ⟨back_i HE.out.symm, rfl⟩

theorem fcontainsFunc_any (m mcap P : Nat) (ao : Option Addr) (b off cap : Nat) (t : List Int) (w : World) (hl : t.length ≤ 9223372036854775807) (hP : w.cell? ⟨P, 0, none⟩ = some (.slice ao m mcap)) (hc : ∀ k, k < t.length → w.cell? ⟨b, off + k, none⟩ = some (.int .i64 (t.getD k 0))) :
    Calls Tryz.prog 56 #[.slice (some ⟨b, off, none⟩) t.length cap, .func (.func 54) #[] #[.pointer (some ⟨P, 0, none⟩)]] w fun e w' => e = .returned (.bool (!t.all (signF m))) ∧ w = w' := by
  have c := findexFunc_any m mcap P ao b off cap t w hl hP hc
  clear hc hP
  obtain ⟨h1, h2⟩ := firstBadF_lt m t 0
  obtain ⟨n, hn⟩ : ∃ n, n = firstBadF m t 0 := ⟨_, rfl⟩
  rw [← hn] at c h1 h2
  clear hn
  by_cases h : t.all (signF m) = true
  · obtain rfl : n = -1 := by have := h1.2 h; omega
    rw [h]
    clear h1 h2 h
    go_enter Tryz.func56, Tryz.ntmps56
    go_wp2_with (go_at_call 82; refine c.mono ?_; rintro e w' ⟨rfl, rfl⟩)
    go_ret
    exact ⟨rfl, rfl⟩
  · have h0 : 0 ≤ n := by
      rcases Int.lt_or_le n 0 with h' | h'
      · exact absurd (h1.1 h') h
      · exact h'
    have h' : t.all (signF m) = false := by simpa using h
    rw [h']
    clear h1 h2 h h'
    go_enter Tryz.func56, Tryz.ntmps56
    go_wp2_with (go_at_call 82; refine c.mono ?_; rintro e w' ⟨rfl, rfl⟩)
    go_ret
    exact ⟨rfl, rfl⟩

theorem fisOne_any (b off cap : Nat) (t : List Int) (w : World) (hl : t.length ≤ 20) (hc : ∀ k, k < t.length → w.cell? ⟨b, off + k, none⟩ = some (.int .i64 (t.getD k 0))) :
    Calls Tryz.prog 57 #[.slice (some ⟨b, off, none⟩) t.length cap] w fun e w' => e = .returned (.bool (decide (cntF t 0 = some 1))) ∧ w = w' := by
  have HC : Hid (∀ k, k < t.length → w.cell? ⟨b, off + k, none⟩ = some (.int .i64 (t.getD k 0))) := hc
  clear hc
  obtain ⟨n, hn⟩ : ∃ n, n = t.length := ⟨_, rfl⟩
  rw [← hn] at hl ⊢
  have HN : Hid (n = t.length) := hn
  clear hn
  obtain ⟨R, hR⟩ : ∃ R, R = decide (cntF t 0 = some 1) := ⟨_, rfl⟩
  rw [← hR]
  have HR : Hid (R = decide (cntF t 0 = some 1)) := hR
  clear hR
  go_enter Tryz.func57, Tryz.ntmps57
  go_wp2
  go_loop [3, 8] (fun c i => ∃ (k : Nat) (m : Int), k ≤ n ∧ i = .int .i64 k ∧ c = .int .i64 m ∧ cntF (t.take k) 0 = some m) (fun _ i => n - (intOf i).toNat)
  case atStart => exact ⟨0, 0, Nat.zero_le _, rfl, rfl, rfl⟩
  case round =>
    obtain ⟨k, m, hk, rfl, rfl, hm⟩ := hrel
    have HM : Hid (cntF (t.take k) 0 = some m) := hm
    have hm0 : 0 ≤ m ∧ m ≤ 20 := by
      have := cntF_nonneg (Int.le_refl 0) hm
      simp at this
      omega
    clear hm
    by_cases hlt : k < n
    · obtain ⟨s, hs⟩ : ∃ s, s = t.getD k 0 := ⟨_, rfl⟩
      have hc := HC.out k (by rw [← HN.out]; exact hlt)
      rw [← hs] at hc
      have HD : Hid (cntF (t.take (k + 1)) 0 = if m < takesF s then none else some (m + 1 - takesF s)) := by
        have := cntF_take_succ t (k := k) (by rw [← HN.out]; exact hlt) HM.out
        rw [← hs] at this; exact this
      clear hs
      have ht := takesF_range s
      by_cases hb : m < takesF s
      · have HE : Hid (R = false) := by
          have h1 := HD.out
          rw [if_pos hb] at h1
          have h2 := cntF_take_none t (k + 1) h1
          have h3 := HR.out
          rw [h2] at h3
          exact h3.trans (by decide)
        go_wp2_with (go_at_call 55; refine (ftakes_any _ _).mono ?_; rintro e w' ⟨rfl, rfl⟩)
        go_ret
        exact ⟨back_b HE.out.symm, rfl⟩
      · have HE : Hid (cntF (t.take (k + 1)) 0 = some (m + (1 - takesF s))) := by
          have h1 := HD.out
          rw [if_neg hb] at h1
          rw [show m + (1 - takesF s) = m + 1 - takesF s by omega]
          exact h1
        go_wp2_with (go_at_call 55; refine (ftakes_any _ _).mono ?_; rintro e w' ⟨rfl, rfl⟩)
        go_round
        case rel => exact ⟨k + 1, _, by omega, by go_num, rfl, HE.out⟩
        case measure => simp [intOf]; omega
    · have HE : Hid (R = (m == 1)) := by
        have h1 := HM.out
        rw [List.take_of_length_le (by have := HN.out; omega)] at h1
        have h3 := HR.out
        rw [h1] at h3
        rw [h3]
        by_cases h : m = 1
        · subst h; rfl
        · rw [decide_eq_false (by simpa using h)]; exact (beq_eq_false_iff_ne.2 h).symm
      go_wp2
      go_ret
      exact ⟨back_b HE.out.symm, rfl⟩
end Go.Proofs.YtpdpnlpepfgknafGreatDoor

namespace Go.Proofs.YtpdpnlpepfgknafGreatDoor
open Go.ChangeShapes Go.WideShapes Go.ChangeAt Go.RowKit

/-- the cells of the table of kinds. -/
def kindCells : List Value := [.string ⟨#[]⟩, .bool false, .bool false, .string ⟨#[115, 117, 98]⟩, .bool true, .bool false, .string ⟨#[115, 97, 109, 101]⟩, .bool true, .bool false, .string ⟨#[108, 101, 97, 115, 116]⟩, .bool false, .bool true, .string ⟨#[109, 111, 115, 116]⟩, .bool false, .bool true, .string ⟨#[110, 111, 109, 111, 114, 101]⟩, .bool true, .bool true]
/-- the table lies as it was laid. -/
def KindsLaid (w : World) : Prop := ∀ j, j < 18 → w.cell? ⟨0, j, none⟩ = some (kindCells.getD j .nilIface)
theorem KindsLaid.lt {w : World} (h : KindsLaid w) : 0 < w.heap.size := World.block_lt_of_cell? w ⟨0, 0, none⟩ (h 0 (by decide))
theorem KindsLaid.at {K : Nat} {w w' : World} (h : KindsLaid w) (hb : Below K w w') (hK : w.heap.size ≤ K) : KindsLaid w' := fun j hj => by
  rw [hb.cell (p := ⟨0, j, none⟩) (Nat.lt_of_lt_of_le h.lt hK)]; exact h j hj
theorem KindsLaid.below {w w' : World} (h : KindsLaid w) (hb : Below w.heap.size w w') : KindsLaid w' := h.at hb (Nat.le_refl _)

theorem Reads.slice {w : World} {v : Value} {t : List Int} (h : Reads w v t) : ∃ ao cap, v = .slice ao t.length cap ∧ t.length ≤ 9223372036854775807 := by
  rcases h with ⟨ao, cap, rfl, rfl⟩ | ⟨b, off, cap, rfl, _, _, h, _⟩
  · exact ⟨ao, cap, rfl, by simp⟩
  · exact ⟨_, cap, rfl, h.1⟩
theorem errV_0 : errV 0 = .nilIface := rfl

set_option maxRecDepth 100000 in
theorem csecond_1 (n : Int) (sao tao : Option Addr) (sl scap tcap : Nat) (t : List Int) (w : World) (hT : Reads w (.slice tao t.length tcap) t) (hK : KindsLaid w) :
    Calls Tryz.prog 81 #[.agg #[.int .i64 1, .slice sao sl scap, .slice tao t.length tcap, .int .i64 n]] w fun e w' => e = .returned (errV (faultN t)) ∧ Below w.heap.size w w' := by
  have hb1 := below_alloc1 w (.cells #[.int .i64 1, .slice sao sl scap, .slice tao t.length tcap, .int .i64 n] 51)
  have hq : (w.alloc (.cells #[.int .i64 1, .slice sao sl scap, .slice tao t.length tcap, .int .i64 n] 51)).cell? ⟨0, 4, none⟩ = some (.bool true) := (hK.below hb1) 4 (by decide)
  have HC : Hid (Calls Tryz.prog 43 #[.slice tao t.length tcap] (w.alloc (.cells #[.int .i64 1, .slice sao sl scap, .slice tao t.length tcap, .int .i64 n] 51)) fun e w' => e = .returned (errV (faultN t)) ∧ (w.alloc (.cells #[.int .i64 1, .slice sao sl scap, .slice tao t.length tcap, .int .i64 n] 51)) = w') := tcheck_any t _ _ (hT.below hb1)
  have HB : Hid (Below w.heap.size w (w.alloc (.cells #[.int .i64 1, .slice sao sl scap, .slice tao t.length tcap, .int .i64 n] 51))) := hb1
  clear hb1 hT hK
  obtain ⟨tl, htl⟩ : ∃ tl, tl = t.length := ⟨_, rfl⟩
  rw [← htl] at HC HB hq ⊢
  clear htl
  obtain ⟨E, hE⟩ : ∃ E, E = errV (faultN t) := ⟨_, rfl⟩
  rw [← hE] at HC ⊢
  clear hE
  go_enter Tryz.func81, Tryz.ntmps81
  go_wp2_with (go_at_call 43; refine HC.out.mono ?_; rintro e w' ⟨rfl, rfl⟩)
  go_ret
  exact ⟨rfl, HB.out⟩

set_option maxRecDepth 100000 in
theorem csecond_2 (n : Int) (sao tao : Option Addr) (sl scap tcap : Nat) (t : List Int) (w : World) (hT : Reads w (.slice tao t.length tcap) t) (hK : KindsLaid w) :
    Calls Tryz.prog 81 #[.agg #[.int .i64 2, .slice sao sl scap, .slice tao t.length tcap, .int .i64 n]] w fun e w' => e = .returned (errV (faultN t)) ∧ Below w.heap.size w w' := by
  have hb1 := below_alloc1 w (.cells #[.int .i64 2, .slice sao sl scap, .slice tao t.length tcap, .int .i64 n] 51)
  have hq : (w.alloc (.cells #[.int .i64 2, .slice sao sl scap, .slice tao t.length tcap, .int .i64 n] 51)).cell? ⟨0, 7, none⟩ = some (.bool true) := (hK.below hb1) 7 (by decide)
  have HC : Hid (Calls Tryz.prog 43 #[.slice tao t.length tcap] (w.alloc (.cells #[.int .i64 2, .slice sao sl scap, .slice tao t.length tcap, .int .i64 n] 51)) fun e w' => e = .returned (errV (faultN t)) ∧ (w.alloc (.cells #[.int .i64 2, .slice sao sl scap, .slice tao t.length tcap, .int .i64 n] 51)) = w') := tcheck_any t _ _ (hT.below hb1)
  have HB : Hid (Below w.heap.size w (w.alloc (.cells #[.int .i64 2, .slice sao sl scap, .slice tao t.length tcap, .int .i64 n] 51))) := hb1
  clear hb1 hT hK
  obtain ⟨tl, htl⟩ : ∃ tl, tl = t.length := ⟨_, rfl⟩
  rw [← htl] at HC HB hq ⊢
  clear htl
  obtain ⟨E, hE⟩ : ∃ E, E = errV (faultN t) := ⟨_, rfl⟩
  rw [← hE] at HC ⊢
  clear hE
  go_enter Tryz.func81, Tryz.ntmps81
  go_wp2_with (go_at_call 43; refine HC.out.mono ?_; rintro e w' ⟨rfl, rfl⟩)
  go_ret
  exact ⟨rfl, HB.out⟩

set_option maxRecDepth 100000 in
theorem csecond_5 (n : Int) (sao tao : Option Addr) (sl scap tcap : Nat) (t : List Int) (w : World) (hT : Reads w (.slice tao t.length tcap) t) (hK : KindsLaid w) :
    Calls Tryz.prog 81 #[.agg #[.int .i64 5, .slice sao sl scap, .slice tao t.length tcap, .int .i64 n]] w fun e w' => e = .returned (errV (faultN t)) ∧ Below w.heap.size w w' := by
  have hb1 := below_alloc1 w (.cells #[.int .i64 5, .slice sao sl scap, .slice tao t.length tcap, .int .i64 n] 51)
  have hq : (w.alloc (.cells #[.int .i64 5, .slice sao sl scap, .slice tao t.length tcap, .int .i64 n] 51)).cell? ⟨0, 16, none⟩ = some (.bool true) := (hK.below hb1) 16 (by decide)
  have HC : Hid (Calls Tryz.prog 43 #[.slice tao t.length tcap] (w.alloc (.cells #[.int .i64 5, .slice sao sl scap, .slice tao t.length tcap, .int .i64 n] 51)) fun e w' => e = .returned (errV (faultN t)) ∧ (w.alloc (.cells #[.int .i64 5, .slice sao sl scap, .slice tao t.length tcap, .int .i64 n] 51)) = w') := tcheck_any t _ _ (hT.below hb1)
  have HB : Hid (Below w.heap.size w (w.alloc (.cells #[.int .i64 5, .slice sao sl scap, .slice tao t.length tcap, .int .i64 n] 51))) := hb1
  clear hb1 hT hK
  obtain ⟨tl, htl⟩ : ∃ tl, tl = t.length := ⟨_, rfl⟩
  rw [← htl] at HC HB hq ⊢
  clear htl
  obtain ⟨E, hE⟩ : ∃ E, E = errV (faultN t) := ⟨_, rfl⟩
  rw [← hE] at HC ⊢
  clear hE
  go_enter Tryz.func81, Tryz.ntmps81
  go_wp2_with (go_at_call 43; refine HC.out.mono ?_; rintro e w' ⟨rfl, rfl⟩)
  go_ret
  exact ⟨rfl, HB.out⟩

set_option maxRecDepth 100000 in
theorem csecond_3 (n : Int) (sao tao : Option Addr) (sl scap tl tcap : Nat) (w : World) (hl : tl ≤ 9223372036854775807) (hK : KindsLaid w) :
    Calls Tryz.prog 81 #[.agg #[.int .i64 3, .slice sao sl scap, .slice tao tl tcap, .int .i64 n]] w fun e w' => e = .returned (errV (if 0 < tl then 3 else 0)) ∧ Below w.heap.size w w' := by
  have hb1 := below_alloc1 w (.cells #[.int .i64 3, .slice sao sl scap, .slice tao tl tcap, .int .i64 n] 51)
  have hq : (w.alloc (.cells #[.int .i64 3, .slice sao sl scap, .slice tao tl tcap, .int .i64 n] 51)).cell? ⟨0, 10, none⟩ = some (.bool false) := (hK.below hb1) 10 (by decide)
  have HB : Hid (Below w.heap.size w (w.alloc (.cells #[.int .i64 3, .slice sao sl scap, .slice tao tl tcap, .int .i64 n] 51))) := hb1
  clear hb1 hK
  by_cases h : 0 < tl
  · rw [if_pos h]
    go_enter Tryz.func81, Tryz.ntmps81
    go_wp2
    go_ret
    exact ⟨rfl, HB.out⟩
  · rw [if_neg h]
    obtain rfl : tl = 0 := by omega
    go_enter Tryz.func81, Tryz.ntmps81
    go_wp2
    go_ret
    exact ⟨rfl, HB.out⟩

set_option maxRecDepth 100000 in
theorem csecond_4 (n : Int) (sao tao : Option Addr) (sl scap tl tcap : Nat) (w : World) (hl : tl ≤ 9223372036854775807) (hK : KindsLaid w) :
    Calls Tryz.prog 81 #[.agg #[.int .i64 4, .slice sao sl scap, .slice tao tl tcap, .int .i64 n]] w fun e w' => e = .returned (errV (if 0 < tl then 3 else 0)) ∧ Below w.heap.size w w' := by
  have hb1 := below_alloc1 w (.cells #[.int .i64 4, .slice sao sl scap, .slice tao tl tcap, .int .i64 n] 51)
  have hq : (w.alloc (.cells #[.int .i64 4, .slice sao sl scap, .slice tao tl tcap, .int .i64 n] 51)).cell? ⟨0, 13, none⟩ = some (.bool false) := (hK.below hb1) 13 (by decide)
  have HB : Hid (Below w.heap.size w (w.alloc (.cells #[.int .i64 4, .slice sao sl scap, .slice tao tl tcap, .int .i64 n] 51))) := hb1
  clear hb1 hK
  by_cases h : 0 < tl
  · rw [if_pos h]
    go_enter Tryz.func81, Tryz.ntmps81
    go_wp2
    go_ret
    exact ⟨rfl, HB.out⟩
  · rw [if_neg h]
    obtain rfl : tl = 0 := by omega
    go_enter Tryz.func81, Tryz.ntmps81
    go_wp2
    go_ret
    exact ⟨rfl, HB.out⟩

theorem csecond_any (k n : Int) (vs vt : Value) (s t : List Int) (w : World) (hk : 1 ≤ k ∧ k ≤ 5) (hS : Reads w vs s) (hT : Reads w vt t) (hK : KindsLaid w) :
    Calls Tryz.prog 81 #[.agg #[.int .i64 k, vs, vt, .int .i64 n]] w fun e w' => e = .returned (errV (secondFault k t)) ∧ Below w.heap.size w w' := by
  obtain ⟨sao, scap, rfl, _⟩ := hS.slice
  obtain ⟨tao, tcap, rfl, hl⟩ := hT.slice
  rcases five hk.1 hk.2 with rfl | rfl | rfl | rfl | rfl
  · exact csecond_1 n sao tao _ scap tcap t w hT hK
  · exact csecond_2 n sao tao _ scap tcap t w hT hK
  · exact csecond_3 n sao tao _ scap _ tcap w hl hK
  · exact csecond_4 n sao tao _ scap _ tcap w hl hK
  · exact csecond_5 n sao tao _ scap tcap t w hT hK

set_option maxRecDepth 100000 in
theorem acheck_kind (k : Int) (n : Int) (sao tao : Option Addr) (sl scap tl tcap : Nat) (w : World) (hk : ¬ (1 ≤ k ∧ k ≤ 5)) :
    Calls Tryz.prog 53 #[.agg #[.int .i64 k, .slice sao sl scap, .slice tao tl tcap, .int .i64 n]] w fun e w' => e = .returned (.iface 61 (.int .i64 1)) ∧ Below w.heap.size w w' := by
  have HB : Hid (Below w.heap.size w (w.alloc (.cells #[.int .i64 k, .slice sao sl scap, .slice tao tl tcap, .int .i64 n] 51))) := below_alloc1 w _
  by_cases h : k < 1
  · clear hk
    go_enter Tryz.func53, Tryz.ntmps53
    go_wp2
    go_ret
    exact ⟨rfl, HB.out⟩
  · have h5 : 5 < k := by omega
    clear hk
    go_enter Tryz.func53, Tryz.ntmps53
    go_wp2
    go_ret
    exact ⟨rfl, HB.out⟩

set_option maxRecDepth 100000 in
theorem acheck_first1 (F : Int) (n : Int) (sao tao : Option Addr) (sl scap tl tcap : Nat) (w : World) (HC : Hid (Calls Tryz.prog 43 #[.slice sao sl scap] (w.alloc (.cells #[.int .i64 1, .slice sao sl scap, .slice tao tl tcap, .int .i64 n] 51)) fun e w' => e = .returned (.iface 61 (.int .i64 F)) ∧ (w.alloc (.cells #[.int .i64 1, .slice sao sl scap, .slice tao tl tcap, .int .i64 n] 51)) = w')) :
    Calls Tryz.prog 53 #[.agg #[.int .i64 1, .slice sao sl scap, .slice tao tl tcap, .int .i64 n]] w fun e w' => e = .returned (.iface 61 (.int .i64 F)) ∧ Below w.heap.size w w' := by
  have HB : Hid (Below w.heap.size w (w.alloc (.cells #[.int .i64 1, .slice sao sl scap, .slice tao tl tcap, .int .i64 n] 51))) := below_alloc1 w _
  go_enter Tryz.func53, Tryz.ntmps53
  go_wp2_with (go_at_call 43; refine HC.out.mono ?_; rintro e w' ⟨rfl, rfl⟩)
  go_ret
  exact ⟨rfl, HB.out⟩

set_option maxRecDepth 100000 in
theorem acheck_second1 (F : Int) (n : Int) (sao tao : Option Addr) (sl scap tl tcap : Nat) (w : World) (HC : Hid (Calls Tryz.prog 43 #[.slice sao sl scap] (w.alloc (.cells #[.int .i64 1, .slice sao sl scap, .slice tao tl tcap, .int .i64 n] 51)) fun e w' => e = .returned .nilIface ∧ (w.alloc (.cells #[.int .i64 1, .slice sao sl scap, .slice tao tl tcap, .int .i64 n] 51)) = w')) (HS : Hid (Calls Tryz.prog 81 #[.agg #[.int .i64 1, .slice sao sl scap, .slice tao tl tcap, .int .i64 n]] (w.alloc (.cells #[.int .i64 1, .slice sao sl scap, .slice tao tl tcap, .int .i64 n] 51)) fun e w' => e = .returned (.iface 61 (.int .i64 F)) ∧ Below (w.alloc (.cells #[.int .i64 1, .slice sao sl scap, .slice tao tl tcap, .int .i64 n] 51)).heap.size (w.alloc (.cells #[.int .i64 1, .slice sao sl scap, .slice tao tl tcap, .int .i64 n] 51)) w')) :
    Calls Tryz.prog 53 #[.agg #[.int .i64 1, .slice sao sl scap, .slice tao tl tcap, .int .i64 n]] w fun e w' => e = .returned (.iface 61 (.int .i64 F)) ∧ Below w.heap.size w w' := by
  have HB : Hid (Below w.heap.size w (w.alloc (.cells #[.int .i64 1, .slice sao sl scap, .slice tao tl tcap, .int .i64 n] 51))) := below_alloc1 w _
  go_enter Tryz.func53, Tryz.ntmps53
  go_wp2_with (first | (go_at_call 43; refine HC.out.mono ?_; rintro e w' ⟨rfl, rfl⟩) | (go_at_call 81; refine HS.out.mono ?_; rintro e w2 ⟨rfl, hb⟩; have HB2 : Hid (Below w.heap.size w w2) := HB.out.trans (hb.mono HB.out.size); clear hb))
  go_ret
  exact ⟨rfl, HB2.out⟩

set_option maxRecDepth 100000 in
theorem acheck_third1 (n : Int) (sao tao : Option Addr) (sl scap tl tcap : Nat) (w : World) (hK : KindsLaid w) (HC : Hid (Calls Tryz.prog 43 #[.slice sao sl scap] (w.alloc (.cells #[.int .i64 1, .slice sao sl scap, .slice tao tl tcap, .int .i64 n] 51)) fun e w' => e = .returned .nilIface ∧ (w.alloc (.cells #[.int .i64 1, .slice sao sl scap, .slice tao tl tcap, .int .i64 n] 51)) = w')) (HS : Hid (Calls Tryz.prog 81 #[.agg #[.int .i64 1, .slice sao sl scap, .slice tao tl tcap, .int .i64 n]] (w.alloc (.cells #[.int .i64 1, .slice sao sl scap, .slice tao tl tcap, .int .i64 n] 51)) fun e w' => e = .returned .nilIface ∧ Below (w.alloc (.cells #[.int .i64 1, .slice sao sl scap, .slice tao tl tcap, .int .i64 n] 51)).heap.size (w.alloc (.cells #[.int .i64 1, .slice sao sl scap, .slice tao tl tcap, .int .i64 n] 51)) w')) :
    Calls Tryz.prog 53 #[.agg #[.int .i64 1, .slice sao sl scap, .slice tao tl tcap, .int .i64 n]] w fun e w' => e = .returned (errV (if -0 ≤ n ∧ n ≤ 0 then 0 else 1)) ∧ Below w.heap.size w w' := by
  have HB : Hid (Below w.heap.size w (w.alloc (.cells #[.int .i64 1, .slice sao sl scap, .slice tao tl tcap, .int .i64 n] 51))) := below_alloc1 w _
  have HX : Hid ((w.alloc (.cells #[.int .i64 1, .slice sao sl scap, .slice tao tl tcap, .int .i64 n] 51)).cell? ⟨0, 5, none⟩ = some (.bool false) ∧ (w.alloc (.cells #[.int .i64 1, .slice sao sl scap, .slice tao tl tcap, .int .i64 n] 51)).cell? ⟨w.heap.size, 0, none⟩ = some (.int .i64 1) ∧ (w.alloc (.cells #[.int .i64 1, .slice sao sl scap, .slice tao tl tcap, .int .i64 n] 51)).cell? ⟨w.heap.size, 3, none⟩ = some (.int .i64 n)) := ⟨hK.below HB.out 5 (by decide), by simp, by simp⟩
  have HL : Hid (0 < (w.alloc (.cells #[.int .i64 1, .slice sao sl scap, .slice tao tl tcap, .int .i64 n] 51)).heap.size ∧ w.heap.size < (w.alloc (.cells #[.int .i64 1, .slice sao sl scap, .slice tao tl tcap, .int .i64 n] 51)).heap.size) := ⟨(hK.below HB.out).lt, by simp⟩
  clear hK
  by_cases h1 : n < -0
  · rw [if_neg (by omega), errV_no (by decide)]
    go_enter Tryz.func53, Tryz.ntmps53
    go_wp2_with (first | (go_at_call 43; refine HC.out.mono ?_; rintro e w' ⟨rfl, rfl⟩) | (go_at_call 81; refine HS.out.mono ?_; rintro e w2 ⟨rfl, hb⟩; have HB2 : Hid (Below w.heap.size w w2) := HB.out.trans (hb.mono HB.out.size); have q0 := (hb.cell (p := ⟨0, 5, none⟩) HL.out.1).trans HX.out.1; have q1 := (hb.cell (p := ⟨w.heap.size, 0, none⟩) HL.out.2).trans HX.out.2.1; have q2 := (hb.cell (p := ⟨w.heap.size, 3, none⟩) HL.out.2).trans HX.out.2.2; clear hb))
    go_ret
    exact ⟨rfl, HB2.out⟩
  by_cases h2 : 0 < n
  · rw [if_neg (by omega), errV_no (by decide)]
    go_enter Tryz.func53, Tryz.ntmps53
    go_wp2_with (first | (go_at_call 43; refine HC.out.mono ?_; rintro e w' ⟨rfl, rfl⟩) | (go_at_call 81; refine HS.out.mono ?_; rintro e w2 ⟨rfl, hb⟩; have HB2 : Hid (Below w.heap.size w w2) := HB.out.trans (hb.mono HB.out.size); have q0 := (hb.cell (p := ⟨0, 5, none⟩) HL.out.1).trans HX.out.1; have q1 := (hb.cell (p := ⟨w.heap.size, 0, none⟩) HL.out.2).trans HX.out.2.1; have q2 := (hb.cell (p := ⟨w.heap.size, 3, none⟩) HL.out.2).trans HX.out.2.2; clear hb))
    go_ret
    exact ⟨rfl, HB2.out⟩
  · rw [if_pos (by omega), errV_0]
    go_enter Tryz.func53, Tryz.ntmps53
    go_wp2_with (first | (go_at_call 43; refine HC.out.mono ?_; rintro e w' ⟨rfl, rfl⟩) | (go_at_call 81; refine HS.out.mono ?_; rintro e w2 ⟨rfl, hb⟩; have HB2 : Hid (Below w.heap.size w w2) := HB.out.trans (hb.mono HB.out.size); have q0 := (hb.cell (p := ⟨0, 5, none⟩) HL.out.1).trans HX.out.1; have q1 := (hb.cell (p := ⟨w.heap.size, 0, none⟩) HL.out.2).trans HX.out.2.1; have q2 := (hb.cell (p := ⟨w.heap.size, 3, none⟩) HL.out.2).trans HX.out.2.2; clear hb))
    go_ret
    exact ⟨rfl, HB2.out⟩

set_option maxRecDepth 100000 in
theorem acheck_first2 (F : Int) (n : Int) (sao tao : Option Addr) (sl scap tl tcap : Nat) (w : World) (HC : Hid (Calls Tryz.prog 43 #[.slice sao sl scap] (w.alloc (.cells #[.int .i64 2, .slice sao sl scap, .slice tao tl tcap, .int .i64 n] 51)) fun e w' => e = .returned (.iface 61 (.int .i64 F)) ∧ (w.alloc (.cells #[.int .i64 2, .slice sao sl scap, .slice tao tl tcap, .int .i64 n] 51)) = w')) :
    Calls Tryz.prog 53 #[.agg #[.int .i64 2, .slice sao sl scap, .slice tao tl tcap, .int .i64 n]] w fun e w' => e = .returned (.iface 61 (.int .i64 F)) ∧ Below w.heap.size w w' := by
  have HB : Hid (Below w.heap.size w (w.alloc (.cells #[.int .i64 2, .slice sao sl scap, .slice tao tl tcap, .int .i64 n] 51))) := below_alloc1 w _
  go_enter Tryz.func53, Tryz.ntmps53
  go_wp2_with (go_at_call 43; refine HC.out.mono ?_; rintro e w' ⟨rfl, rfl⟩)
  go_ret
  exact ⟨rfl, HB.out⟩

set_option maxRecDepth 100000 in
theorem acheck_second2 (F : Int) (n : Int) (sao tao : Option Addr) (sl scap tl tcap : Nat) (w : World) (HC : Hid (Calls Tryz.prog 43 #[.slice sao sl scap] (w.alloc (.cells #[.int .i64 2, .slice sao sl scap, .slice tao tl tcap, .int .i64 n] 51)) fun e w' => e = .returned .nilIface ∧ (w.alloc (.cells #[.int .i64 2, .slice sao sl scap, .slice tao tl tcap, .int .i64 n] 51)) = w')) (HS : Hid (Calls Tryz.prog 81 #[.agg #[.int .i64 2, .slice sao sl scap, .slice tao tl tcap, .int .i64 n]] (w.alloc (.cells #[.int .i64 2, .slice sao sl scap, .slice tao tl tcap, .int .i64 n] 51)) fun e w' => e = .returned (.iface 61 (.int .i64 F)) ∧ Below (w.alloc (.cells #[.int .i64 2, .slice sao sl scap, .slice tao tl tcap, .int .i64 n] 51)).heap.size (w.alloc (.cells #[.int .i64 2, .slice sao sl scap, .slice tao tl tcap, .int .i64 n] 51)) w')) :
    Calls Tryz.prog 53 #[.agg #[.int .i64 2, .slice sao sl scap, .slice tao tl tcap, .int .i64 n]] w fun e w' => e = .returned (.iface 61 (.int .i64 F)) ∧ Below w.heap.size w w' := by
  have HB : Hid (Below w.heap.size w (w.alloc (.cells #[.int .i64 2, .slice sao sl scap, .slice tao tl tcap, .int .i64 n] 51))) := below_alloc1 w _
  go_enter Tryz.func53, Tryz.ntmps53
  go_wp2_with (first | (go_at_call 43; refine HC.out.mono ?_; rintro e w' ⟨rfl, rfl⟩) | (go_at_call 81; refine HS.out.mono ?_; rintro e w2 ⟨rfl, hb⟩; have HB2 : Hid (Below w.heap.size w w2) := HB.out.trans (hb.mono HB.out.size); clear hb))
  go_ret
  exact ⟨rfl, HB2.out⟩

set_option maxRecDepth 100000 in
theorem acheck_third2 (n : Int) (sao tao : Option Addr) (sl scap tl tcap : Nat) (w : World) (hK : KindsLaid w) (HC : Hid (Calls Tryz.prog 43 #[.slice sao sl scap] (w.alloc (.cells #[.int .i64 2, .slice sao sl scap, .slice tao tl tcap, .int .i64 n] 51)) fun e w' => e = .returned .nilIface ∧ (w.alloc (.cells #[.int .i64 2, .slice sao sl scap, .slice tao tl tcap, .int .i64 n] 51)) = w')) (HS : Hid (Calls Tryz.prog 81 #[.agg #[.int .i64 2, .slice sao sl scap, .slice tao tl tcap, .int .i64 n]] (w.alloc (.cells #[.int .i64 2, .slice sao sl scap, .slice tao tl tcap, .int .i64 n] 51)) fun e w' => e = .returned .nilIface ∧ Below (w.alloc (.cells #[.int .i64 2, .slice sao sl scap, .slice tao tl tcap, .int .i64 n] 51)).heap.size (w.alloc (.cells #[.int .i64 2, .slice sao sl scap, .slice tao tl tcap, .int .i64 n] 51)) w')) :
    Calls Tryz.prog 53 #[.agg #[.int .i64 2, .slice sao sl scap, .slice tao tl tcap, .int .i64 n]] w fun e w' => e = .returned (errV (if -0 ≤ n ∧ n ≤ 0 then 0 else 1)) ∧ Below w.heap.size w w' := by
  have HB : Hid (Below w.heap.size w (w.alloc (.cells #[.int .i64 2, .slice sao sl scap, .slice tao tl tcap, .int .i64 n] 51))) := below_alloc1 w _
  have HX : Hid ((w.alloc (.cells #[.int .i64 2, .slice sao sl scap, .slice tao tl tcap, .int .i64 n] 51)).cell? ⟨0, 8, none⟩ = some (.bool false) ∧ (w.alloc (.cells #[.int .i64 2, .slice sao sl scap, .slice tao tl tcap, .int .i64 n] 51)).cell? ⟨w.heap.size, 0, none⟩ = some (.int .i64 2) ∧ (w.alloc (.cells #[.int .i64 2, .slice sao sl scap, .slice tao tl tcap, .int .i64 n] 51)).cell? ⟨w.heap.size, 3, none⟩ = some (.int .i64 n)) := ⟨hK.below HB.out 8 (by decide), by simp, by simp⟩
  have HL : Hid (0 < (w.alloc (.cells #[.int .i64 2, .slice sao sl scap, .slice tao tl tcap, .int .i64 n] 51)).heap.size ∧ w.heap.size < (w.alloc (.cells #[.int .i64 2, .slice sao sl scap, .slice tao tl tcap, .int .i64 n] 51)).heap.size) := ⟨(hK.below HB.out).lt, by simp⟩
  clear hK
  by_cases h1 : n < -0
  · rw [if_neg (by omega), errV_no (by decide)]
    go_enter Tryz.func53, Tryz.ntmps53
    go_wp2_with (first | (go_at_call 43; refine HC.out.mono ?_; rintro e w' ⟨rfl, rfl⟩) | (go_at_call 81; refine HS.out.mono ?_; rintro e w2 ⟨rfl, hb⟩; have HB2 : Hid (Below w.heap.size w w2) := HB.out.trans (hb.mono HB.out.size); have q0 := (hb.cell (p := ⟨0, 8, none⟩) HL.out.1).trans HX.out.1; have q1 := (hb.cell (p := ⟨w.heap.size, 0, none⟩) HL.out.2).trans HX.out.2.1; have q2 := (hb.cell (p := ⟨w.heap.size, 3, none⟩) HL.out.2).trans HX.out.2.2; clear hb))
    go_ret
    exact ⟨rfl, HB2.out⟩
  by_cases h2 : 0 < n
  · rw [if_neg (by omega), errV_no (by decide)]
    go_enter Tryz.func53, Tryz.ntmps53
    go_wp2_with (first | (go_at_call 43; refine HC.out.mono ?_; rintro e w' ⟨rfl, rfl⟩) | (go_at_call 81; refine HS.out.mono ?_; rintro e w2 ⟨rfl, hb⟩; have HB2 : Hid (Below w.heap.size w w2) := HB.out.trans (hb.mono HB.out.size); have q0 := (hb.cell (p := ⟨0, 8, none⟩) HL.out.1).trans HX.out.1; have q1 := (hb.cell (p := ⟨w.heap.size, 0, none⟩) HL.out.2).trans HX.out.2.1; have q2 := (hb.cell (p := ⟨w.heap.size, 3, none⟩) HL.out.2).trans HX.out.2.2; clear hb))
    go_ret
    exact ⟨rfl, HB2.out⟩
  · rw [if_pos (by omega), errV_0]
    go_enter Tryz.func53, Tryz.ntmps53
    go_wp2_with (first | (go_at_call 43; refine HC.out.mono ?_; rintro e w' ⟨rfl, rfl⟩) | (go_at_call 81; refine HS.out.mono ?_; rintro e w2 ⟨rfl, hb⟩; have HB2 : Hid (Below w.heap.size w w2) := HB.out.trans (hb.mono HB.out.size); have q0 := (hb.cell (p := ⟨0, 8, none⟩) HL.out.1).trans HX.out.1; have q1 := (hb.cell (p := ⟨w.heap.size, 0, none⟩) HL.out.2).trans HX.out.2.1; have q2 := (hb.cell (p := ⟨w.heap.size, 3, none⟩) HL.out.2).trans HX.out.2.2; clear hb))
    go_ret
    exact ⟨rfl, HB2.out⟩

set_option maxRecDepth 100000 in
theorem acheck_first3 (F : Int) (n : Int) (sao tao : Option Addr) (sl scap tl tcap : Nat) (w : World) (HC : Hid (Calls Tryz.prog 43 #[.slice sao sl scap] (w.alloc (.cells #[.int .i64 3, .slice sao sl scap, .slice tao tl tcap, .int .i64 n] 51)) fun e w' => e = .returned (.iface 61 (.int .i64 F)) ∧ (w.alloc (.cells #[.int .i64 3, .slice sao sl scap, .slice tao tl tcap, .int .i64 n] 51)) = w')) :
    Calls Tryz.prog 53 #[.agg #[.int .i64 3, .slice sao sl scap, .slice tao tl tcap, .int .i64 n]] w fun e w' => e = .returned (.iface 61 (.int .i64 F)) ∧ Below w.heap.size w w' := by
  have HB : Hid (Below w.heap.size w (w.alloc (.cells #[.int .i64 3, .slice sao sl scap, .slice tao tl tcap, .int .i64 n] 51))) := below_alloc1 w _
  go_enter Tryz.func53, Tryz.ntmps53
  go_wp2_with (go_at_call 43; refine HC.out.mono ?_; rintro e w' ⟨rfl, rfl⟩)
  go_ret
  exact ⟨rfl, HB.out⟩

set_option maxRecDepth 100000 in
theorem acheck_second3 (F : Int) (n : Int) (sao tao : Option Addr) (sl scap tl tcap : Nat) (w : World) (HC : Hid (Calls Tryz.prog 43 #[.slice sao sl scap] (w.alloc (.cells #[.int .i64 3, .slice sao sl scap, .slice tao tl tcap, .int .i64 n] 51)) fun e w' => e = .returned .nilIface ∧ (w.alloc (.cells #[.int .i64 3, .slice sao sl scap, .slice tao tl tcap, .int .i64 n] 51)) = w')) (HS : Hid (Calls Tryz.prog 81 #[.agg #[.int .i64 3, .slice sao sl scap, .slice tao tl tcap, .int .i64 n]] (w.alloc (.cells #[.int .i64 3, .slice sao sl scap, .slice tao tl tcap, .int .i64 n] 51)) fun e w' => e = .returned (.iface 61 (.int .i64 F)) ∧ Below (w.alloc (.cells #[.int .i64 3, .slice sao sl scap, .slice tao tl tcap, .int .i64 n] 51)).heap.size (w.alloc (.cells #[.int .i64 3, .slice sao sl scap, .slice tao tl tcap, .int .i64 n] 51)) w')) :
    Calls Tryz.prog 53 #[.agg #[.int .i64 3, .slice sao sl scap, .slice tao tl tcap, .int .i64 n]] w fun e w' => e = .returned (.iface 61 (.int .i64 F)) ∧ Below w.heap.size w w' := by
  have HB : Hid (Below w.heap.size w (w.alloc (.cells #[.int .i64 3, .slice sao sl scap, .slice tao tl tcap, .int .i64 n] 51))) := below_alloc1 w _
  go_enter Tryz.func53, Tryz.ntmps53
  go_wp2_with (first | (go_at_call 43; refine HC.out.mono ?_; rintro e w' ⟨rfl, rfl⟩) | (go_at_call 81; refine HS.out.mono ?_; rintro e w2 ⟨rfl, hb⟩; have HB2 : Hid (Below w.heap.size w w2) := HB.out.trans (hb.mono HB.out.size); clear hb))
  go_ret
  exact ⟨rfl, HB2.out⟩

set_option maxRecDepth 100000 in
theorem acheck_third3 (n : Int) (sao tao : Option Addr) (sl scap tl tcap : Nat) (w : World) (hK : KindsLaid w) (HC : Hid (Calls Tryz.prog 43 #[.slice sao sl scap] (w.alloc (.cells #[.int .i64 3, .slice sao sl scap, .slice tao tl tcap, .int .i64 n] 51)) fun e w' => e = .returned .nilIface ∧ (w.alloc (.cells #[.int .i64 3, .slice sao sl scap, .slice tao tl tcap, .int .i64 n] 51)) = w')) (HS : Hid (Calls Tryz.prog 81 #[.agg #[.int .i64 3, .slice sao sl scap, .slice tao tl tcap, .int .i64 n]] (w.alloc (.cells #[.int .i64 3, .slice sao sl scap, .slice tao tl tcap, .int .i64 n] 51)) fun e w' => e = .returned .nilIface ∧ Below (w.alloc (.cells #[.int .i64 3, .slice sao sl scap, .slice tao tl tcap, .int .i64 n] 51)).heap.size (w.alloc (.cells #[.int .i64 3, .slice sao sl scap, .slice tao tl tcap, .int .i64 n] 51)) w')) :
    Calls Tryz.prog 53 #[.agg #[.int .i64 3, .slice sao sl scap, .slice tao tl tcap, .int .i64 n]] w fun e w' => e = .returned (errV (if -20 ≤ n ∧ n ≤ 20 then 0 else 1)) ∧ Below w.heap.size w w' := by
  have HB : Hid (Below w.heap.size w (w.alloc (.cells #[.int .i64 3, .slice sao sl scap, .slice tao tl tcap, .int .i64 n] 51))) := below_alloc1 w _
  have HX : Hid ((w.alloc (.cells #[.int .i64 3, .slice sao sl scap, .slice tao tl tcap, .int .i64 n] 51)).cell? ⟨0, 11, none⟩ = some (.bool true) ∧ (w.alloc (.cells #[.int .i64 3, .slice sao sl scap, .slice tao tl tcap, .int .i64 n] 51)).cell? ⟨w.heap.size, 0, none⟩ = some (.int .i64 3) ∧ (w.alloc (.cells #[.int .i64 3, .slice sao sl scap, .slice tao tl tcap, .int .i64 n] 51)).cell? ⟨w.heap.size, 3, none⟩ = some (.int .i64 n)) := ⟨hK.below HB.out 11 (by decide), by simp, by simp⟩
  have HL : Hid (0 < (w.alloc (.cells #[.int .i64 3, .slice sao sl scap, .slice tao tl tcap, .int .i64 n] 51)).heap.size ∧ w.heap.size < (w.alloc (.cells #[.int .i64 3, .slice sao sl scap, .slice tao tl tcap, .int .i64 n] 51)).heap.size) := ⟨(hK.below HB.out).lt, by simp⟩
  clear hK
  by_cases h1 : n < -20
  · rw [if_neg (by omega), errV_no (by decide)]
    go_enter Tryz.func53, Tryz.ntmps53
    go_wp2_with (first | (go_at_call 43; refine HC.out.mono ?_; rintro e w' ⟨rfl, rfl⟩) | (go_at_call 81; refine HS.out.mono ?_; rintro e w2 ⟨rfl, hb⟩; have HB2 : Hid (Below w.heap.size w w2) := HB.out.trans (hb.mono HB.out.size); have q0 := (hb.cell (p := ⟨0, 11, none⟩) HL.out.1).trans HX.out.1; have q1 := (hb.cell (p := ⟨w.heap.size, 0, none⟩) HL.out.2).trans HX.out.2.1; have q2 := (hb.cell (p := ⟨w.heap.size, 3, none⟩) HL.out.2).trans HX.out.2.2; clear hb))
    go_ret
    exact ⟨rfl, HB2.out⟩
  by_cases h2 : 20 < n
  · rw [if_neg (by omega), errV_no (by decide)]
    go_enter Tryz.func53, Tryz.ntmps53
    go_wp2_with (first | (go_at_call 43; refine HC.out.mono ?_; rintro e w' ⟨rfl, rfl⟩) | (go_at_call 81; refine HS.out.mono ?_; rintro e w2 ⟨rfl, hb⟩; have HB2 : Hid (Below w.heap.size w w2) := HB.out.trans (hb.mono HB.out.size); have q0 := (hb.cell (p := ⟨0, 11, none⟩) HL.out.1).trans HX.out.1; have q1 := (hb.cell (p := ⟨w.heap.size, 0, none⟩) HL.out.2).trans HX.out.2.1; have q2 := (hb.cell (p := ⟨w.heap.size, 3, none⟩) HL.out.2).trans HX.out.2.2; clear hb))
    go_ret
    exact ⟨rfl, HB2.out⟩
  · rw [if_pos (by omega), errV_0]
    go_enter Tryz.func53, Tryz.ntmps53
    go_wp2_with (first | (go_at_call 43; refine HC.out.mono ?_; rintro e w' ⟨rfl, rfl⟩) | (go_at_call 81; refine HS.out.mono ?_; rintro e w2 ⟨rfl, hb⟩; have HB2 : Hid (Below w.heap.size w w2) := HB.out.trans (hb.mono HB.out.size); have q0 := (hb.cell (p := ⟨0, 11, none⟩) HL.out.1).trans HX.out.1; have q1 := (hb.cell (p := ⟨w.heap.size, 0, none⟩) HL.out.2).trans HX.out.2.1; have q2 := (hb.cell (p := ⟨w.heap.size, 3, none⟩) HL.out.2).trans HX.out.2.2; clear hb))
    go_ret
    exact ⟨rfl, HB2.out⟩

set_option maxRecDepth 100000 in
theorem acheck_first4 (F : Int) (n : Int) (sao tao : Option Addr) (sl scap tl tcap : Nat) (w : World) (HC : Hid (Calls Tryz.prog 43 #[.slice sao sl scap] (w.alloc (.cells #[.int .i64 4, .slice sao sl scap, .slice tao tl tcap, .int .i64 n] 51)) fun e w' => e = .returned (.iface 61 (.int .i64 F)) ∧ (w.alloc (.cells #[.int .i64 4, .slice sao sl scap, .slice tao tl tcap, .int .i64 n] 51)) = w')) :
    Calls Tryz.prog 53 #[.agg #[.int .i64 4, .slice sao sl scap, .slice tao tl tcap, .int .i64 n]] w fun e w' => e = .returned (.iface 61 (.int .i64 F)) ∧ Below w.heap.size w w' := by
  have HB : Hid (Below w.heap.size w (w.alloc (.cells #[.int .i64 4, .slice sao sl scap, .slice tao tl tcap, .int .i64 n] 51))) := below_alloc1 w _
  go_enter Tryz.func53, Tryz.ntmps53
  go_wp2_with (go_at_call 43; refine HC.out.mono ?_; rintro e w' ⟨rfl, rfl⟩)
  go_ret
  exact ⟨rfl, HB.out⟩

set_option maxRecDepth 100000 in
theorem acheck_second4 (F : Int) (n : Int) (sao tao : Option Addr) (sl scap tl tcap : Nat) (w : World) (HC : Hid (Calls Tryz.prog 43 #[.slice sao sl scap] (w.alloc (.cells #[.int .i64 4, .slice sao sl scap, .slice tao tl tcap, .int .i64 n] 51)) fun e w' => e = .returned .nilIface ∧ (w.alloc (.cells #[.int .i64 4, .slice sao sl scap, .slice tao tl tcap, .int .i64 n] 51)) = w')) (HS : Hid (Calls Tryz.prog 81 #[.agg #[.int .i64 4, .slice sao sl scap, .slice tao tl tcap, .int .i64 n]] (w.alloc (.cells #[.int .i64 4, .slice sao sl scap, .slice tao tl tcap, .int .i64 n] 51)) fun e w' => e = .returned (.iface 61 (.int .i64 F)) ∧ Below (w.alloc (.cells #[.int .i64 4, .slice sao sl scap, .slice tao tl tcap, .int .i64 n] 51)).heap.size (w.alloc (.cells #[.int .i64 4, .slice sao sl scap, .slice tao tl tcap, .int .i64 n] 51)) w')) :
    Calls Tryz.prog 53 #[.agg #[.int .i64 4, .slice sao sl scap, .slice tao tl tcap, .int .i64 n]] w fun e w' => e = .returned (.iface 61 (.int .i64 F)) ∧ Below w.heap.size w w' := by
  have HB : Hid (Below w.heap.size w (w.alloc (.cells #[.int .i64 4, .slice sao sl scap, .slice tao tl tcap, .int .i64 n] 51))) := below_alloc1 w _
  go_enter Tryz.func53, Tryz.ntmps53
  go_wp2_with (first | (go_at_call 43; refine HC.out.mono ?_; rintro e w' ⟨rfl, rfl⟩) | (go_at_call 81; refine HS.out.mono ?_; rintro e w2 ⟨rfl, hb⟩; have HB2 : Hid (Below w.heap.size w w2) := HB.out.trans (hb.mono HB.out.size); clear hb))
  go_ret
  exact ⟨rfl, HB2.out⟩

set_option maxRecDepth 100000 in
theorem acheck_third4 (n : Int) (sao tao : Option Addr) (sl scap tl tcap : Nat) (w : World) (hK : KindsLaid w) (HC : Hid (Calls Tryz.prog 43 #[.slice sao sl scap] (w.alloc (.cells #[.int .i64 4, .slice sao sl scap, .slice tao tl tcap, .int .i64 n] 51)) fun e w' => e = .returned .nilIface ∧ (w.alloc (.cells #[.int .i64 4, .slice sao sl scap, .slice tao tl tcap, .int .i64 n] 51)) = w')) (HS : Hid (Calls Tryz.prog 81 #[.agg #[.int .i64 4, .slice sao sl scap, .slice tao tl tcap, .int .i64 n]] (w.alloc (.cells #[.int .i64 4, .slice sao sl scap, .slice tao tl tcap, .int .i64 n] 51)) fun e w' => e = .returned .nilIface ∧ Below (w.alloc (.cells #[.int .i64 4, .slice sao sl scap, .slice tao tl tcap, .int .i64 n] 51)).heap.size (w.alloc (.cells #[.int .i64 4, .slice sao sl scap, .slice tao tl tcap, .int .i64 n] 51)) w')) :
    Calls Tryz.prog 53 #[.agg #[.int .i64 4, .slice sao sl scap, .slice tao tl tcap, .int .i64 n]] w fun e w' => e = .returned (errV (if -20 ≤ n ∧ n ≤ 20 then 0 else 1)) ∧ Below w.heap.size w w' := by
  have HB : Hid (Below w.heap.size w (w.alloc (.cells #[.int .i64 4, .slice sao sl scap, .slice tao tl tcap, .int .i64 n] 51))) := below_alloc1 w _
  have HX : Hid ((w.alloc (.cells #[.int .i64 4, .slice sao sl scap, .slice tao tl tcap, .int .i64 n] 51)).cell? ⟨0, 14, none⟩ = some (.bool true) ∧ (w.alloc (.cells #[.int .i64 4, .slice sao sl scap, .slice tao tl tcap, .int .i64 n] 51)).cell? ⟨w.heap.size, 0, none⟩ = some (.int .i64 4) ∧ (w.alloc (.cells #[.int .i64 4, .slice sao sl scap, .slice tao tl tcap, .int .i64 n] 51)).cell? ⟨w.heap.size, 3, none⟩ = some (.int .i64 n)) := ⟨hK.below HB.out 14 (by decide), by simp, by simp⟩
  have HL : Hid (0 < (w.alloc (.cells #[.int .i64 4, .slice sao sl scap, .slice tao tl tcap, .int .i64 n] 51)).heap.size ∧ w.heap.size < (w.alloc (.cells #[.int .i64 4, .slice sao sl scap, .slice tao tl tcap, .int .i64 n] 51)).heap.size) := ⟨(hK.below HB.out).lt, by simp⟩
  clear hK
  by_cases h1 : n < -20
  · rw [if_neg (by omega), errV_no (by decide)]
    go_enter Tryz.func53, Tryz.ntmps53
    go_wp2_with (first | (go_at_call 43; refine HC.out.mono ?_; rintro e w' ⟨rfl, rfl⟩) | (go_at_call 81; refine HS.out.mono ?_; rintro e w2 ⟨rfl, hb⟩; have HB2 : Hid (Below w.heap.size w w2) := HB.out.trans (hb.mono HB.out.size); have q0 := (hb.cell (p := ⟨0, 14, none⟩) HL.out.1).trans HX.out.1; have q1 := (hb.cell (p := ⟨w.heap.size, 0, none⟩) HL.out.2).trans HX.out.2.1; have q2 := (hb.cell (p := ⟨w.heap.size, 3, none⟩) HL.out.2).trans HX.out.2.2; clear hb))
    go_ret
    exact ⟨rfl, HB2.out⟩
  by_cases h2 : 20 < n
  · rw [if_neg (by omega), errV_no (by decide)]
    go_enter Tryz.func53, Tryz.ntmps53
    go_wp2_with (first | (go_at_call 43; refine HC.out.mono ?_; rintro e w' ⟨rfl, rfl⟩) | (go_at_call 81; refine HS.out.mono ?_; rintro e w2 ⟨rfl, hb⟩; have HB2 : Hid (Below w.heap.size w w2) := HB.out.trans (hb.mono HB.out.size); have q0 := (hb.cell (p := ⟨0, 14, none⟩) HL.out.1).trans HX.out.1; have q1 := (hb.cell (p := ⟨w.heap.size, 0, none⟩) HL.out.2).trans HX.out.2.1; have q2 := (hb.cell (p := ⟨w.heap.size, 3, none⟩) HL.out.2).trans HX.out.2.2; clear hb))
    go_ret
    exact ⟨rfl, HB2.out⟩
  · rw [if_pos (by omega), errV_0]
    go_enter Tryz.func53, Tryz.ntmps53
    go_wp2_with (first | (go_at_call 43; refine HC.out.mono ?_; rintro e w' ⟨rfl, rfl⟩) | (go_at_call 81; refine HS.out.mono ?_; rintro e w2 ⟨rfl, hb⟩; have HB2 : Hid (Below w.heap.size w w2) := HB.out.trans (hb.mono HB.out.size); have q0 := (hb.cell (p := ⟨0, 14, none⟩) HL.out.1).trans HX.out.1; have q1 := (hb.cell (p := ⟨w.heap.size, 0, none⟩) HL.out.2).trans HX.out.2.1; have q2 := (hb.cell (p := ⟨w.heap.size, 3, none⟩) HL.out.2).trans HX.out.2.2; clear hb))
    go_ret
    exact ⟨rfl, HB2.out⟩

set_option maxRecDepth 100000 in
theorem acheck_first5 (F : Int) (n : Int) (sao tao : Option Addr) (sl scap tl tcap : Nat) (w : World) (HC : Hid (Calls Tryz.prog 43 #[.slice sao sl scap] (w.alloc (.cells #[.int .i64 5, .slice sao sl scap, .slice tao tl tcap, .int .i64 n] 51)) fun e w' => e = .returned (.iface 61 (.int .i64 F)) ∧ (w.alloc (.cells #[.int .i64 5, .slice sao sl scap, .slice tao tl tcap, .int .i64 n] 51)) = w')) :
    Calls Tryz.prog 53 #[.agg #[.int .i64 5, .slice sao sl scap, .slice tao tl tcap, .int .i64 n]] w fun e w' => e = .returned (.iface 61 (.int .i64 F)) ∧ Below w.heap.size w w' := by
  have HB : Hid (Below w.heap.size w (w.alloc (.cells #[.int .i64 5, .slice sao sl scap, .slice tao tl tcap, .int .i64 n] 51))) := below_alloc1 w _
  go_enter Tryz.func53, Tryz.ntmps53
  go_wp2_with (go_at_call 43; refine HC.out.mono ?_; rintro e w' ⟨rfl, rfl⟩)
  go_ret
  exact ⟨rfl, HB.out⟩

set_option maxRecDepth 100000 in
theorem acheck_second5 (F : Int) (n : Int) (sao tao : Option Addr) (sl scap tl tcap : Nat) (w : World) (HC : Hid (Calls Tryz.prog 43 #[.slice sao sl scap] (w.alloc (.cells #[.int .i64 5, .slice sao sl scap, .slice tao tl tcap, .int .i64 n] 51)) fun e w' => e = .returned .nilIface ∧ (w.alloc (.cells #[.int .i64 5, .slice sao sl scap, .slice tao tl tcap, .int .i64 n] 51)) = w')) (HS : Hid (Calls Tryz.prog 81 #[.agg #[.int .i64 5, .slice sao sl scap, .slice tao tl tcap, .int .i64 n]] (w.alloc (.cells #[.int .i64 5, .slice sao sl scap, .slice tao tl tcap, .int .i64 n] 51)) fun e w' => e = .returned (.iface 61 (.int .i64 F)) ∧ Below (w.alloc (.cells #[.int .i64 5, .slice sao sl scap, .slice tao tl tcap, .int .i64 n] 51)).heap.size (w.alloc (.cells #[.int .i64 5, .slice sao sl scap, .slice tao tl tcap, .int .i64 n] 51)) w')) :
    Calls Tryz.prog 53 #[.agg #[.int .i64 5, .slice sao sl scap, .slice tao tl tcap, .int .i64 n]] w fun e w' => e = .returned (.iface 61 (.int .i64 F)) ∧ Below w.heap.size w w' := by
  have HB : Hid (Below w.heap.size w (w.alloc (.cells #[.int .i64 5, .slice sao sl scap, .slice tao tl tcap, .int .i64 n] 51))) := below_alloc1 w _
  go_enter Tryz.func53, Tryz.ntmps53
  go_wp2_with (first | (go_at_call 43; refine HC.out.mono ?_; rintro e w' ⟨rfl, rfl⟩) | (go_at_call 81; refine HS.out.mono ?_; rintro e w2 ⟨rfl, hb⟩; have HB2 : Hid (Below w.heap.size w w2) := HB.out.trans (hb.mono HB.out.size); clear hb))
  go_ret
  exact ⟨rfl, HB2.out⟩

set_option maxRecDepth 100000 in
theorem acheck_third5 (n : Int) (sao tao : Option Addr) (sl scap tl tcap : Nat) (w : World) (hK : KindsLaid w) (HC : Hid (Calls Tryz.prog 43 #[.slice sao sl scap] (w.alloc (.cells #[.int .i64 5, .slice sao sl scap, .slice tao tl tcap, .int .i64 n] 51)) fun e w' => e = .returned .nilIface ∧ (w.alloc (.cells #[.int .i64 5, .slice sao sl scap, .slice tao tl tcap, .int .i64 n] 51)) = w')) (HS : Hid (Calls Tryz.prog 81 #[.agg #[.int .i64 5, .slice sao sl scap, .slice tao tl tcap, .int .i64 n]] (w.alloc (.cells #[.int .i64 5, .slice sao sl scap, .slice tao tl tcap, .int .i64 n] 51)) fun e w' => e = .returned .nilIface ∧ Below (w.alloc (.cells #[.int .i64 5, .slice sao sl scap, .slice tao tl tcap, .int .i64 n] 51)).heap.size (w.alloc (.cells #[.int .i64 5, .slice sao sl scap, .slice tao tl tcap, .int .i64 n] 51)) w')) :
    Calls Tryz.prog 53 #[.agg #[.int .i64 5, .slice sao sl scap, .slice tao tl tcap, .int .i64 n]] w fun e w' => e = .returned (errV (if -20 ≤ n ∧ n ≤ 20 then 0 else 1)) ∧ Below w.heap.size w w' := by
  have HB : Hid (Below w.heap.size w (w.alloc (.cells #[.int .i64 5, .slice sao sl scap, .slice tao tl tcap, .int .i64 n] 51))) := below_alloc1 w _
  have HX : Hid ((w.alloc (.cells #[.int .i64 5, .slice sao sl scap, .slice tao tl tcap, .int .i64 n] 51)).cell? ⟨0, 17, none⟩ = some (.bool true) ∧ (w.alloc (.cells #[.int .i64 5, .slice sao sl scap, .slice tao tl tcap, .int .i64 n] 51)).cell? ⟨w.heap.size, 0, none⟩ = some (.int .i64 5) ∧ (w.alloc (.cells #[.int .i64 5, .slice sao sl scap, .slice tao tl tcap, .int .i64 n] 51)).cell? ⟨w.heap.size, 3, none⟩ = some (.int .i64 n)) := ⟨hK.below HB.out 17 (by decide), by simp, by simp⟩
  have HL : Hid (0 < (w.alloc (.cells #[.int .i64 5, .slice sao sl scap, .slice tao tl tcap, .int .i64 n] 51)).heap.size ∧ w.heap.size < (w.alloc (.cells #[.int .i64 5, .slice sao sl scap, .slice tao tl tcap, .int .i64 n] 51)).heap.size) := ⟨(hK.below HB.out).lt, by simp⟩
  clear hK
  by_cases h1 : n < -20
  · rw [if_neg (by omega), errV_no (by decide)]
    go_enter Tryz.func53, Tryz.ntmps53
    go_wp2_with (first | (go_at_call 43; refine HC.out.mono ?_; rintro e w' ⟨rfl, rfl⟩) | (go_at_call 81; refine HS.out.mono ?_; rintro e w2 ⟨rfl, hb⟩; have HB2 : Hid (Below w.heap.size w w2) := HB.out.trans (hb.mono HB.out.size); have q0 := (hb.cell (p := ⟨0, 17, none⟩) HL.out.1).trans HX.out.1; have q1 := (hb.cell (p := ⟨w.heap.size, 0, none⟩) HL.out.2).trans HX.out.2.1; have q2 := (hb.cell (p := ⟨w.heap.size, 3, none⟩) HL.out.2).trans HX.out.2.2; clear hb))
    go_ret
    exact ⟨rfl, HB2.out⟩
  by_cases h2 : 20 < n
  · rw [if_neg (by omega), errV_no (by decide)]
    go_enter Tryz.func53, Tryz.ntmps53
    go_wp2_with (first | (go_at_call 43; refine HC.out.mono ?_; rintro e w' ⟨rfl, rfl⟩) | (go_at_call 81; refine HS.out.mono ?_; rintro e w2 ⟨rfl, hb⟩; have HB2 : Hid (Below w.heap.size w w2) := HB.out.trans (hb.mono HB.out.size); have q0 := (hb.cell (p := ⟨0, 17, none⟩) HL.out.1).trans HX.out.1; have q1 := (hb.cell (p := ⟨w.heap.size, 0, none⟩) HL.out.2).trans HX.out.2.1; have q2 := (hb.cell (p := ⟨w.heap.size, 3, none⟩) HL.out.2).trans HX.out.2.2; clear hb))
    go_ret
    exact ⟨rfl, HB2.out⟩
  · rw [if_pos (by omega), errV_0]
    go_enter Tryz.func53, Tryz.ntmps53
    go_wp2_with (first | (go_at_call 43; refine HC.out.mono ?_; rintro e w' ⟨rfl, rfl⟩) | (go_at_call 81; refine HS.out.mono ?_; rintro e w2 ⟨rfl, hb⟩; have HB2 : Hid (Below w.heap.size w w2) := HB.out.trans (hb.mono HB.out.size); have q0 := (hb.cell (p := ⟨0, 17, none⟩) HL.out.1).trans HX.out.1; have q1 := (hb.cell (p := ⟨w.heap.size, 0, none⟩) HL.out.2).trans HX.out.2.1; have q2 := (hb.cell (p := ⟨w.heap.size, 3, none⟩) HL.out.2).trans HX.out.2.2; clear hb))
    go_ret
    exact ⟨rfl, HB2.out⟩

/-- Check, whatever the atom. -/
theorem acheck_any (k n : Int) (vs vt : Value) (s t : List Int) (w : World) (hS : Reads w vs s) (hT : Reads w vt t) (hK : KindsLaid w) :
    Calls Tryz.prog 53 #[.agg #[.int .i64 k, vs, vt, .int .i64 n]] w fun e w' => e = .returned (errV (atomFault k s t n)) ∧ Below w.heap.size w w' := by
  have hb1 := below_alloc1 w (.cells #[.int .i64 k, vs, vt, .int .i64 n] 51)
  have hC := tcheck_any s vs _ (hS.below hb1)
  have hS2 := fun h => csecond_any k n vs vt s t _ h (hS.below hb1) (hT.below hb1) (hK.below hb1)
  obtain ⟨sao, scap, rfl, _⟩ := hS.slice
  obtain ⟨tao, tcap, rfl, hl⟩ := hT.slice
  by_cases hk : 1 ≤ k ∧ k ≤ 5
  · have hS3 := hS2 hk
    clear hS2
    by_cases hs : faultN s = 0
    · rw [hs, errV_0] at hC
      by_cases ht : secondFault k t = 0
      · rw [ht, errV_0] at hS3
        rw [atomFault_third hk hs ht]
        clear hs ht
        rcases five hk.1 hk.2 with rfl | rfl | rfl | rfl | rfl
        · exact acheck_third1 n sao tao _ scap _ tcap w hK hC hS3
        · exact acheck_third2 n sao tao _ scap _ tcap w hK hC hS3
        · exact acheck_third3 n sao tao _ scap _ tcap w hK hC hS3
        · exact acheck_third4 n sao tao _ scap _ tcap w hK hC hS3
        · exact acheck_third5 n sao tao _ scap _ tcap w hK hC hS3
      · rw [errV_no ht] at hS3
        rw [atomFault_second hk hs ht, errV_no ht]
        obtain ⟨F, hF⟩ : ∃ F, F = secondFault k t := ⟨_, rfl⟩
        rw [← hF] at hS3 ⊢
        clear hs ht hF
        rcases five hk.1 hk.2 with rfl | rfl | rfl | rfl | rfl
        · exact acheck_second1 F n sao tao _ scap _ tcap w hC hS3
        · exact acheck_second2 F n sao tao _ scap _ tcap w hC hS3
        · exact acheck_second3 F n sao tao _ scap _ tcap w hC hS3
        · exact acheck_second4 F n sao tao _ scap _ tcap w hC hS3
        · exact acheck_second5 F n sao tao _ scap _ tcap w hC hS3
    · rw [errV_no hs] at hC
      rw [atomFault_first hk hs, errV_no hs]
      rcases five hk.1 hk.2 with rfl | rfl | rfl | rfl | rfl
      · exact acheck_first1 _ n sao tao _ scap _ tcap w hC
      · exact acheck_first2 _ n sao tao _ scap _ tcap w hC
      · exact acheck_first3 _ n sao tao _ scap _ tcap w hC
      · exact acheck_first4 _ n sao tao _ scap _ tcap w hC
      · exact acheck_first5 _ n sao tao _ scap _ tcap w hC
  · rw [atomFault_kind hk, errV_no (by decide)]
    exact acheck_kind k n sao tao _ scap _ tcap w hk
end Go.Proofs.YtpdpnlpepfgknafGreatDoor

namespace Go.Proofs.YtpdpnlpepfgknafGreatDoor
open Go.ChangeShapes Go.WideShapes Go.ChangeAt Go.RowKit
set_option maxRecDepth 100000

/-- behind k right atoms. -/
theorem firstFault_drop (ats : List At) {k : Nat} {a : At} (ha : ats[k]? = some a) : firstFault (ats.drop k) = if a.fault = 0 then firstFault (ats.drop (k + 1)) else a.fault := by
  obtain ⟨hk, rfl⟩ := List.getElem?_eq_some_iff.1 ha
  rw [List.drop_eq_getElem_cons hk]; rfl

/-- where there is no atom, or no sign. -/
theorem fcheck_none (va vc : Value) (ats : List At) (c : List Int) (w : World) (hA : ReadsA w va ats) (hC : Reads w vc c) (h0 : ats.length = 0 ∨ c.length = 0) :
    Calls Tryz.prog 30 #[.agg #[va, vc]] w fun e w' => e = .returned (.iface 61 (.int .i64 5)) ∧ Below w.heap.size w w' := by
  obtain ⟨ao, acap, rfl, hal⟩ := hA.slice
  obtain ⟨co, ccap, rfl, hcl⟩ := hC.slice
  clear hA hC
  obtain ⟨m, hm⟩ : ∃ m, m = ats.length := ⟨_, rfl⟩
  obtain ⟨n, hn⟩ : ∃ n, n = c.length := ⟨_, rfl⟩
  rw [← hm] at h0 hal ⊢
  rw [← hn] at h0 hcl ⊢
  clear hm hn
  rcases h0 with rfl | rfl
  · go_enter Tryz.func30, Tryz.ntmps30
    go_wp2
    go_ret
    exact ⟨rfl, below_alloc1 _ _⟩
  · by_cases h1 : m = 0
    · subst h1
      go_enter Tryz.func30, Tryz.ntmps30
      go_wp2
      go_ret
      exact ⟨rfl, below_alloc1 _ _⟩
    · have h1' : ¬ ((m : Int) = 0) := by omega
      go_enter Tryz.func30, Tryz.ntmps30
      go_wp2
      go_ret
      exact ⟨rfl, below_alloc1 _ _⟩
/-- where there are too many. -/
theorem fcheck_full (va vc : Value) (ats : List At) (c : List Int) (w : World) (hA : ReadsA w va ats) (hC : Reads w vc c) (h0 : ¬ (ats.length = 0 ∨ c.length = 0)) (h1 : 6 < ats.length ∨ 20 < c.length) :
    Calls Tryz.prog 30 #[.agg #[va, vc]] w fun e w' => e = .returned (.iface 61 (.int .i64 4)) ∧ Below w.heap.size w w' := by
  obtain ⟨ao, acap, rfl, hal⟩ := hA.slice
  obtain ⟨co, ccap, rfl, hcl⟩ := hC.slice
  clear hA hC
  obtain ⟨m, hm⟩ : ∃ m, m = ats.length := ⟨_, rfl⟩
  obtain ⟨n, hn⟩ : ∃ n, n = c.length := ⟨_, rfl⟩
  rw [← hm] at h0 h1 hal ⊢
  rw [← hn] at h0 h1 hcl ⊢
  clear hm hn
  have hm' : ((m : Int) == 0) = false := by simp; omega
  have hn' : ((n : Int) == 0) = false := by simp; omega
  have HT : Hid (∀ W, Calls Tryz.prog 33 #[.int .i64 m, .int .i64 n] W fun e w' => e = .returned (.bool true) ∧ W = w') := fun W => by
    have := tooMany_any m n W
    rw [show (decide (6 < (m : Int)) || decide (20 < (n : Int))) = true by simp; omega] at this
    exact this
  clear h0 h1
  go_enter Tryz.func30, Tryz.ntmps30
  go_wp2_with fail
  go_at_call 33
  refine (HT.out _).mono ?_
  rintro e w' ⟨rfl, rfl⟩
  go_wp2
  go_ret
  exact ⟨rfl, below_alloc1 _ _⟩

theorem fcheck_rest (ao co : Option Addr) (acap ccap : Nat) (ats : List At) (c : List Int) (w : World) (hA : ReadsA w (.slice ao ats.length acap) ats) (hC : Reads w (.slice co c.length ccap) c) (hK : KindsLaid w) (h0 : ¬ (ats.length = 0 ∨ c.length = 0)) (h1 : ¬ (6 < ats.length ∨ 20 < c.length)) :
    Calls Tryz.prog 30 #[.agg #[.slice ao ats.length acap, .slice co c.length ccap]] w fun e w' => e = .returned (errV (formFault ats c)) ∧ Below w.heap.size w w' := by
  obtain ⟨w1, hw1⟩ : ∃ w1, w1 = w.alloc (.cells #[.slice ao ats.length acap, .slice co c.length ccap] 29) := ⟨_, rfl⟩
  have HB1 : Hid (Below w.heap.size w w1) := by unfold Hid; rw [hw1]; exact below_alloc1 w _
  have HS1 : Hid (w1.heap.size = w.heap.size + 1) := by unfold Hid; rw [hw1]; simp
  have HX : Hid (w1.cell? ⟨w.heap.size, 0, none⟩ = some (.slice ao ats.length acap) ∧ w1.cell? ⟨w.heap.size, 1, none⟩ = some (.slice co c.length ccap)) := by
    unfold Hid; rw [hw1]; simp
  have HA : Hid (ReadsA w1 (.slice ao ats.length acap) ats) := hA.below HB1.out
  have HC : Hid (Reads w1 (.slice co c.length ccap) c) := hC.below HB1.out
  have HK : Hid (KindsLaid w1) := hK.below HB1.out
  clear hA hC hK
  have HF : Hid (formFault ats c = if firstFault ats = 0 then (if c.all (signF ats.length) = true then (if cntF c 0 = some 1 then 0 else 3) else 1) else firstFault ats) := by
    unfold Hid formFault; rw [if_neg h0, if_neg h1]
  obtain ⟨m, hm⟩ : ∃ m, m = ats.length := ⟨_, rfl⟩
  obtain ⟨n, hn⟩ : ∃ n, n = c.length := ⟨_, rfl⟩
  rw [← hm] at h0 h1 hw1 HX HA HF ⊢
  rw [← hn] at h0 h1 hw1 HX HC ⊢
  have HM : Hid (m = ats.length) := hm
  have HN : Hid (n = c.length) := hn
  clear hm hn
  have hm' : ((m : Int) == 0) = false := by simp; omega
  have hn' : ((n : Int) == 0) = false := by simp; omega
  have hm6 : m ≤ 6 := by omega
  have hn20 : n ≤ 20 := by omega
  have HT : Hid (∀ W, Calls Tryz.prog 33 #[.int .i64 m, .int .i64 n] W fun e w' => e = .returned (.bool false) ∧ W = w') := fun W => by
    have := tooMany_any m n W
    rw [show (decide (6 < (m : Int)) || decide (20 < (n : Int))) = false by simp; omega] at this
    exact this
  clear h0 h1
  have x0 := HX.out.1
  have x1 := HX.out.2
  go_enter Tryz.func30, Tryz.ntmps30
  go_wp2_with fail
  rw [← hw1]
  clear hw1
  go_wp2_with fail
  go_at_call 33
  refine (HT.out _).mono ?_
  rintro e w' ⟨rfl, rfl⟩
  go_wp2
  go_loopw [29] (fun i wr => ∃ k : Nat, k ≤ m ∧ i = .int .i64 k ∧ Below w1.heap.size w1 wr ∧ firstFault (ats.drop k) = firstFault ats) (fun i _ => m - (intOf i).toNat)
  case atStart => exact ⟨0, Nat.zero_le _, rfl, Below.refl _ _, rfl⟩
  case round =>
    obtain ⟨k, hk, rfl, hbel, hff⟩ := hrel
    have HF0 : Hid (firstFault (ats.drop k) = firstFault ats) := hff
    have HB : Hid (Below w1.heap.size w1 wr) := hbel
    clear hff hbel
    by_cases hlt : k < m
    · obtain ⟨a, ha⟩ : ∃ a, ats[k]? = some a := ⟨_, List.getElem?_eq_getElem (by have := HM.out; omega)⟩
      have HFF : Hid (firstFault ats = if a.fault = 0 then firstFault (ats.drop (k + 1)) else a.fault) := by
        unfold Hid; rw [← HF0.out, firstFault_drop ats ha]
      rcases HA.out.below HB.out with ⟨_, _, hv, hn⟩ | ⟨b, off, cap, hv, hb, _, _, hall⟩
      · have := HM.out; rw [hn] at this; simp at this; omega
      obtain rfl : ao = some ⟨b, off, none⟩ := by cases hv; rfl
      obtain ⟨vs, vt, c0, c1, c2, c3, r1, r2⟩ := hall k a ha
      obtain ⟨sao, scap, rfl, _⟩ := r1.slice
      obtain ⟨tao, tcap, rfl, _⟩ := r2.slice
      clear hv hall
      obtain ⟨w2, hw2⟩ : ∃ w2, w2 = wr.alloc (.cells #[.int .i64 a.k, .slice sao a.s.length scap, .slice tao a.t.length tcap, .int .i64 a.n] 51) := ⟨_, rfl⟩
      have HB2 : Hid (Below wr.heap.size wr w2) := by unfold Hid; rw [hw2]; exact below_alloc1 wr _
      have HCk : Hid (Calls Tryz.prog 53 #[.agg #[.int .i64 a.k, .slice sao a.s.length scap, .slice tao a.t.length tcap, .int .i64 a.n]] w2 fun e w' => e = .returned (errV a.fault) ∧ Below w2.heap.size w2 w') :=
        acheck_any a.k a.n _ _ a.s a.t w2 (r1.below HB2.out) (r2.below HB2.out) ((HK.out.below HB.out).below HB2.out)
      clear r1 r2
      go_wp2_with fail
      rw [← hw2]
      clear hw2
      go_at_call 53
      refine HCk.out.mono ?_
      rintro e w3 ⟨rfl, hb3⟩
      have HB3 : Hid (Below w1.heap.size w1 w3) := (HB.out.trans (HB2.out.mono HB.out.size)).trans (hb3.mono (Nat.le_trans HB.out.size HB2.out.size))
      clear hb3 HCk
      by_cases hf : a.fault = 0
      · have HD : Hid (firstFault (ats.drop (k + 1)) = firstFault ats) := by
          have := HFF.out
          rw [if_pos hf] at this
          exact this.symm
        rw [hf, errV_0]
        go_wp2
        go_roundw
        case rel => exact ⟨k + 1, by omega, by go_num, HB3.out, HD.out⟩
        case measure => simp [intOf]; omega
      · have HE : Hid (formFault ats c = a.fault) := by
          have := HFF.out
          rw [if_neg hf] at this
          unfold Hid; rw [HF.out, this, if_neg hf]
        rw [errV_no hf]
        go_wp2
        go_ret
        refine ⟨back_v ?_, HB1.out.trans (HB3.out.mono HB1.out.size)⟩
        rw [HE.out, errV_no hf]
        rfl
    · have HE : Hid (firstFault ats = 0) := by
        have := HF0.out
        rw [List.drop_eq_nil_of_le (by have := HM.out; omega)] at this
        exact this.symm
      have hlt0 : w.heap.size < w1.heap.size := by have := HS1.out; omega
      have y0 : wr.cell? ⟨w.heap.size, 0, none⟩ = some (.slice ao m acap) := by rw [HB.out.cell hlt0]; exact HX.out.1
      have y1 : wr.cell? ⟨w.heap.size, 1, none⟩ = some (.slice co n ccap) := by rw [HB.out.cell hlt0]; exact HX.out.2
      rcases HC.out.below HB.out with ⟨_, _, hv, hcn⟩ | ⟨b, off, cap, hv, hb, _, ⟨hl63, _⟩, hc⟩
      · have := HN.out; rw [hcn] at this; simp at this; subst this; simp at hn'
      obtain rfl : co = some ⟨b, off, none⟩ := by cases hv; rfl
      clear hv
      have cF := fcontainsFunc_any m acap w.heap.size ao b off ccap c wr hl63 y0 hc
      have cO := fisOne_any b off ccap c wr (by have := HN.out; omega) hc
      rw [← HN.out] at cF cO
      obtain ⟨x, hx⟩ : ∃ x, x = c.all (signF m) := ⟨_, rfl⟩
      obtain ⟨y, hy⟩ : ∃ y, y = decide (cntF c 0 = some 1) := ⟨_, rfl⟩
      rw [← hx] at cF
      rw [← hy] at cO
      have HF' : Hid (formFault ats c = if x = true then (if y = true then 0 else 3) else 1) := by
        unfold Hid; rw [HF.out, HE.out, hx, hy]; simp only [decide_eq_true_eq, if_true]
      clear hx hy hc hlt0 hl63 hb
      have HP : Hid (Calls Tryz.prog 56 #[.slice (some ⟨b, off, none⟩) n ccap, .func (.func 54) #[] #[.pointer (some ⟨w.heap.size, 0, none⟩)]] wr fun e w' => e = .returned (.bool (!x)) ∧ wr = w') := cF
      have HQ : Hid (Calls Tryz.prog 57 #[.slice (some ⟨b, off, none⟩) n ccap] wr fun e w' => e = .returned (.bool y) ∧ wr = w') := cO
      clear cF cO
      have HEnd : Hid (Below w.heap.size w wr) := HB1.out.trans (HB.out.mono HB1.out.size)
      cases x
      · go_wp2_with (go_at_call 56; refine HP.out.mono ?_; rintro e w' ⟨rfl, rfl⟩)
        go_ret
        exact ⟨back_v (by rw [HF'.out]; rfl), HEnd.out⟩
      · cases y
        all_goals
          go_wp2_with (first | (go_at_call 56; refine HP.out.mono ?_; rintro e w' ⟨rfl, rfl⟩) | (go_at_call 57; refine HQ.out.mono ?_; rintro e w' ⟨rfl, rfl⟩))
          go_ret
          exact ⟨back_v (by rw [HF'.out]; rfl), HEnd.out⟩

/-- Check, whatever the formula. -/
theorem fcheck_any (va vc : Value) (ats : List At) (c : List Int) (w : World) (hA : ReadsA w va ats) (hC : Reads w vc c) (hK : KindsLaid w) :
    Calls Tryz.prog 30 #[.agg #[va, vc]] w fun e w' => e = .returned (errV (formFault ats c)) ∧ Below w.heap.size w w' := by
  by_cases h0 : ats.length = 0 ∨ c.length = 0
  · have e : formFault ats c = 5 := by unfold formFault; rw [if_pos h0]
    rw [e]
    exact fcheck_none va vc ats c w hA hC h0
  by_cases h1 : 6 < ats.length ∨ 20 < c.length
  · have e : formFault ats c = 4 := by unfold formFault; rw [if_neg h0, if_pos h1]
    rw [e]
    exact fcheck_full va vc ats c w hA hC h0 h1
  obtain ⟨ao, acap, rfl, _⟩ := hA.slice
  obtain ⟨co, ccap, rfl, _⟩ := hC.slice
  exact fcheck_rest ao co acap ccap ats c w hA hC hK h0 h1
end Go.Proofs.YtpdpnlpepfgknafGreatDoor

namespace Go.Proofs.YtpdpnlpepfgknafGreatDoor
open Go.ChangeShapes Go.WideShapes Go.ChangeAt Go.RowKit

theorem infoInt : (Tryz.prog.info? 3).map (fun i => (i.zero, i.size, i.bytes)) = some (some (.int .i64 0), 1, 8) := by kernel_rfl

theorem ownsRow_below {w w' : World} {base : Nat} {e : TypeId} {size : Nat} {v : Value} {n : Nat} {xs : List Value} (h : w.ownsRow base e size v n xs) (hb : Below w.heap.size w w') : w'.ownsRow base e size v n xs := by
  obtain ⟨h1, h2⟩ := h
  refine ⟨h1, ?_⟩
  rcases h2 with h2 | ⟨g, cap, cur, hv, hg, hh, r⟩
  · exact .inl h2
  · refine .inr ⟨g, cap, cur, hv, hg, ?_, r⟩
    rw [hb.block g (Array.getElem?_eq_some_iff.1 hh).1]; exact hh
theorem ownsRow_take {w : World} {base : Nat} {e : TypeId} {g cap n r : Nat} {xs : List Value} (h : w.ownsRow base e 1 (.slice (some ⟨g, 0, none⟩) n cap) n xs) (hr : r ≤ n) : w.ownsRow base e 1 (.slice (some ⟨g, 0, none⟩) r cap) r (xs.take r) := by
  obtain ⟨h1, h2⟩ := h
  rcases h2 with ⟨h0, _⟩ | ⟨g', cap', cur, hv, hg, hh, hn, hcap, hsz, htake⟩
  · cases h0
  · cases hv
    refine ⟨by rw [List.length_take]; omega, .inr ⟨g, cap, cur, rfl, hg, hh, by omega, hcap, hsz, ?_⟩⟩
    rw [← htake, List.take_take]
    congr 1
    omega
/-- an owned row of numbers: its cells. -/
theorem ownsRow_int {w : World} {base : Nat} {e : TypeId} {g cap : Nat} {p : List Int} (h : w.ownsRow base e 1 (.slice (some ⟨g, 0, none⟩) p.length cap) p.length (p.map (Value.int .i64))) {j : Nat} (hj : j < p.length) : w.cell? ⟨g, j, none⟩ = some (.int .i64 (p.getD j 0)) := by
  rw [h.cellAt j (by omega)]
  simp [List.getElem?_eq_getElem hj]
theorem ownsRow_block {w : World} {base : Nat} {e : TypeId} {size g n cap : Nat} {xs : List Value} (h : w.ownsRow base e size (.slice (some ⟨g, 0, none⟩) n cap) n xs) : base ≤ g ∧ g < w.heap.size ∧ n ≤ cap := by
  rcases h.2 with ⟨h0, _⟩ | ⟨g', cap', cur, hv, hg, hh, hn, _⟩
  · cases h0
  · cases hv
    exact ⟨hg, (Array.getElem?_eq_some_iff.1 hh).1, hn⟩

theorem step_leaf (w : Wd) (p : List Int) (s : Int) (h : s ≤ 4) : w.step p s = p.take p.length ++ [w.made s []] := by
  unfold Wd.step restN
  rw [takes5 s (by omega), made_leaf w s _ h]; rfl
theorem step_one (w : Wd) (p : List Int) (h : 1 ≤ p.length) : w.step p 8 = p.take (p.length - 1) ++ [doN 8 w.u (p.getD (p.length - 1) 0) (p.getD (p.length - 1) 0)] := by
  unfold Wd.step restN
  rw [takes1, made_do w 8 _ (by omega)]
  have e : (p.drop (p.length - 1)) = [p.getD (p.length - 1) 0] := by
    rw [List.drop_eq_getElem_cons (by omega), List.drop_eq_nil_of_le (by omega)]
    simp [List.getElem?_eq_getElem (show p.length - 1 < p.length by omega)]
  simp only [show (1 : Int).toNat = 1 from rfl, e]; rfl
theorem step_two (w : Wd) (p : List Int) (s : Int) (h5 : 5 ≤ s) (h7 : s ≤ 7) (h : 2 ≤ p.length) : w.step p s = p.take (p.length - 2) ++ [doN s w.u (p.getD (p.length - 2) 0) (p.getD (p.length - 2 + 1) 0)] := by
  unfold Wd.step restN
  rw [takes2 s h5 h7, made_do w s _ h5]
  have e : (p.drop (p.length - 2)) = [p.getD (p.length - 2) 0, p.getD (p.length - 2 + 1) 0] := by
    rw [List.drop_eq_getElem_cons (by omega), List.drop_eq_getElem_cons (by omega), List.drop_eq_nil_of_le (by omega)]
    simp [List.getElem?_eq_getElem (show p.length - 2 < p.length by omega), List.getElem?_eq_getElem (show p.length - 2 + 1 < p.length by omega)]
  simp only [show (2 : Int).toNat = 2 from rfl, e]; rfl

/-- what a round leaves. -/
theorem work_rel {w1 wr wm w2 : World} {K : Nat} {v v' : Value} {p q : List Int} {r : Nat} {X : Int} (hK : K ≤ wr.heap.size) (hb : Below K w1 wr) (hm : Below wr.heap.size wr wm)
    (hown : w2.ownsRow K 3 1 v' (r + 1) (((p.take r).map (Value.int .i64)) ++ [.int .i64 X])) (hv : ∀ k, v.ownBlock = some k → K ≤ k)
    (hg : (wm.alloc (.cells #[.int .i64 X] 3)).grownBy w2 v.ownBlock) (hr : r ≤ p.length) (hq : q = p.take r ++ [X]) :
    w2.ownsRow K 3 1 v' q.length (q.map (Value.int .i64)) ∧ Below K w1 w2 ∧ K ≤ w2.heap.size := by
  have hs : wr.heap.size ≤ wm.heap.size := hm.size
  have e1 : q.length = r + 1 := by rw [hq]; simp; omega
  have e2 : q.map (Value.int .i64) = ((p.take r).map (Value.int .i64)) ++ [.int .i64 X] := by rw [hq]; simp
  have b1 : Below K w1 (wm.alloc (.cells #[.int .i64 X] 3)) := (hb.trans (hm.mono hK)).alloc (by omega) _
  have b2 : Below K w1 w2 := b1.grown hg (by simp; omega) hv
  refine ⟨by rw [e1, e2]; exact hown, b2, ?_⟩
  have := hg.size
  simp at this
  omega
end Go.Proofs.YtpdpnlpepfgknafGreatDoor

namespace Go.Proofs.YtpdpnlpepfgknafGreatDoor
open Go.ChangeShapes Go.WideShapes Go.ChangeAt Go.RowKit
set_option maxRecDepth 100000

theorem infoL : (Tryz.prog.info? 75).map (fun i => (i.zero, i.size, i.bytes)) = some (some (.slice none 0 0), 1, 24) := by kernel_rfl
/-- a pile of cubes that is the call's own, behind K; what lies on it lies elsewhere. -/
def Own3 (K : Nat) (w : World) (v : Value) (P : List (List (List Int))) : Prop :=
  ∃ xs : List Value, w.ownsRow K 75 1 v P.length xs ∧ ∀ (k : Nat) L, P[k]? = some L → ∃ u, xs[k]? = some u ∧ RS2 (fun b => K ≤ b ∧ some b ≠ v.ownBlock) w u L
theorem Own3.nil (K : Nat) (w : World) : Own3 K w (.slice none 0 0) [] := ⟨[], World.ownsRow_nil _ _ _ _, fun k t h => (by simp at h)⟩
theorem Own3.push {K : Nat} {w w' : World} {v u : Value} {P : List (List (List Int))} {L : List (List Int)} {xs : List Value} {g cap : Nat} (hl : xs.length = P.length)
    (hx : ∀ (k : Nat) t, P[k]? = some t → ∃ u, xs[k]? = some u ∧ RS2 (fun b => K ≤ b ∧ some b ≠ v.ownBlock) w u t) (hu : RS2 (fun b => K ≤ b ∧ some b ≠ v.ownBlock) w u L)
    (hown : w'.ownsRow K 75 1 (.slice (some ⟨g, 0, none⟩) (P.length + 1) cap) (P.length + 1) (xs ++ [u])) (hg : w.grownBy w' v.ownBlock) (hat : v.ownBlock = some g ∨ g = w.heap.size) :
    Own3 K w' (.slice (some ⟨g, 0, none⟩) (P.length + 1) cap) (P ++ [L]) := by
  have key : ∀ x s, RS2 (fun b => K ≤ b ∧ some b ≠ v.ownBlock) w x s → RS2 (fun b => K ≤ b ∧ some b ≠ (Value.slice (some ⟨g, 0, none⟩) (P.length + 1) cap).ownBlock) w' x s := by
    intro x s hxs
    have h1 : RS2 (fun b => (K ≤ b ∧ some b ≠ v.ownBlock) ∧ some b ≠ (Value.slice (some ⟨g, 0, none⟩) (P.length + 1) cap).ownBlock) w x s := hxs.mono fun b hb h => ⟨h, by
      show some b ≠ some g
      rcases hat with e | e
      · rw [← e]; exact h.2
      · intro e2; rw [Option.some.inj e2, e] at hb; omega⟩
    have h2 := h1.kept (Kept.of_grown hg fun b hb => hb.1.2)
    exact h2.mono fun b _ hb => ⟨hb.1.1, hb.2⟩
  refine ⟨xs ++ [u], by rw [List.length_append]; exact hown, fun k s hk => ?_⟩
  by_cases hlt : k < P.length
  · rw [List.getElem?_append_left hlt] at hk
    obtain ⟨x, hx1, hx2⟩ := hx k s hk
    exact ⟨x, by rw [List.getElem?_append_left (by omega)]; exact hx1, key _ _ hx2⟩
  · rw [List.getElem?_append_right (by omega)] at hk
    have e : k - P.length = 0 := by
      have := (List.getElem?_eq_some_iff.1 hk).1; simp at this; omega
    rw [e] at hk
    simp at hk; subst hk
    exact ⟨u, by rw [List.getElem?_append_right (by omega), hl, e]; rfl, key _ _ hu⟩
theorem stepC_leaf (p : List (List (List Int))) {s : Int} (h : takesF s = 0) : stepC p s = some (p ++ [[[s + 1]]]) := by
  have h4 := takesF_leaf h
  unfold stepC restC
  rw [h]
  simp [madeC, h4.1, h4.2.1, h4.2.2.1, h4.2.2.2]
theorem drop_one (p : List (List (List Int))) {r : Nat} (h : p.length = r + 1) : p.drop r = [p.getD r []] := by
  rw [List.drop_eq_getElem_cons (by omega), List.drop_eq_nil_of_le (by omega)]
  simp [List.getElem?_eq_getElem (show r < p.length by omega)]
theorem drop_two (p : List (List (List Int))) {r : Nat} (h : p.length = r + 2) : p.drop r = [p.getD r [], p.getD (r + 1) []] := by
  rw [List.drop_eq_getElem_cons (by omega), List.drop_eq_getElem_cons (by omega), List.drop_eq_nil_of_le (by omega)]
  simp [List.getElem?_eq_getElem (show r < p.length by omega), List.getElem?_eq_getElem (show r + 1 < p.length by omega)]
theorem stepC_one (p : List (List (List Int))) {r : Nat} (h : p.length = r + 1) : stepC p 12 = (madeC 12 [p.getD r []]).map (fun x => p.take r ++ [x]) := by
  unfold stepC restC
  rw [show takesF 12 = 1 from rfl, show p.length - (1 : Int).toNat = r by simp; omega, drop_one p h]
theorem stepC_two (p : List (List (List Int))) {s : Int} (hs : takesF s = 2) {r : Nat} (h : p.length = r + 2) : stepC p s = (madeC s [p.getD r [], p.getD (r + 1) []]).map (fun x => p.take r ++ [x]) := by
  unfold stepC restC
  rw [hs, show p.length - (2 : Int).toNat = r by simp; omega, drop_two p h]
theorem take_get {xs : List Value} {P : List (List (List Int))} {w : World} {T : Nat → Prop} (h : ∀ (k : Nat) L, P[k]? = some L → ∃ u, xs[k]? = some u ∧ RS2 T w u L) (r : Nat) : ∀ (k : Nat) L, (P.take r)[k]? = some L → ∃ u, (xs.take r)[k]? = some u ∧ RS2 T w u L := fun k L hk => by
  rw [List.getElem?_take] at hk ⊢
  split at hk
  · rename_i hlt
    rw [if_pos hlt]; exact h k L hk
  · cases hk

set_option maxHeartbeats 16000000 in
theorem of_good (va vc : Value) (ats : List At) (c : List Int) (w : World) (hA : ReadsA w va ats) (hC : Reads w vc c) (hK : KindsLaid w) (hf : formFault ats c = 0) :
    Calls Tryz.prog 36 #[.agg #[va, vc]] w fun e w' => OutC (fun _ => False) w.heap.size w' e (cubesC c) ∧ Below w.heap.size w w' := by
  obtain ⟨i0, hi, hz0, hz1, hz2⟩ := info_parts infoL
  obtain ⟨⟨_, h6⟩, ⟨hn1, hn20⟩, _, hsg0, hone⟩ := formFault_zero.1 hf
  obtain ⟨ao, acap, rfl, _⟩ := hA.slice
  obtain ⟨co, ccap, rfl, _⟩ := hC.slice
  obtain ⟨w1, hw1⟩ : ∃ w1, w1 = w.alloc (.cells #[.slice ao ats.length acap, .slice co c.length ccap] 29) := ⟨_, rfl⟩
  have HB1 : Hid (Below w.heap.size w w1 ∧ w1.heap.size = w.heap.size + 1) := by unfold Hid; rw [hw1]; exact ⟨below_alloc1 _ _, by simp⟩
  have HX : Hid (∀ W, Below w1.heap.size w1 W → W.cell? ⟨w.heap.size, 0, none⟩ = some (.slice ao ats.length acap) ∧ W.cell? ⟨w.heap.size, 1, none⟩ = some (.slice co c.length ccap)) := fun W hW => by
    have e : ∀ j, W.cell? ⟨w.heap.size, j, none⟩ = w1.cell? ⟨w.heap.size, j, none⟩ := fun j => hW.cell (show (⟨w.heap.size, j, none⟩ : Addr).block < _ by have := HB1.out.2; simp; omega)
    rw [e, e, hw1]; simp
  have HCk : Hid (Calls Tryz.prog 30 #[.agg #[.slice ao ats.length acap, .slice co c.length ccap]] w1 fun e w' => e = .returned .nilIface ∧ Below w1.heap.size w1 w') := by
    have := fcheck_any _ _ ats c w1 (hA.below HB1.out.1) (hC.below HB1.out.1) (hK.below HB1.out.1)
    rw [hf, errV_0] at this; exact this
  obtain ⟨K, hKe⟩ : ∃ K, K = w1.heap.size := ⟨_, rfl⟩
  have HKe : Hid (K = w1.heap.size ∧ w.heap.size ≤ K) := ⟨hKe, by have := HB1.out.2; omega⟩
  have HCc : Hid (∀ W, Below K w1 W → ∀ k, k < c.length → ∃ b off, co = some ⟨b, off, none⟩ ∧ W.cell? ⟨b, off + k, none⟩ = some (.int .i64 (c.getD k 0))) := fun W hW k hk => by
    rcases hC with ⟨_, _, hv, e⟩ | ⟨b, off, cap, hv, hB, _, _, hcs⟩
    · rw [e] at hk; simp at hk
    · cases hv
      refine ⟨b, off, rfl, ?_⟩
      rw [hW.cell (show (⟨b, off + k, none⟩ : Addr).block < _ by have := HKe.out.2; simp; omega), HB1.out.1.cell hB]
      exact hcs k hk
  have HSg : Hid (∀ k, k < c.length → takesF (c.getD k 0) ≠ 0 ∨ (0 ≤ c.getD k 0 ∧ c.getD k 0 < ats.length)) := fun k hk => signF_iff.1 (List.all_eq_true.1 hsg0 _ (by rw [List.getD_eq_getElem?_getD, List.getElem?_eq_getElem hk]; exact List.getElem_mem hk))
  have HCn : Hid (∀ k p, k ≤ c.length → pileC (c.take k) [] = some p → cntF (c.take k) 0 = some (p.length : Int)) := fun k p hk hp => by
    obtain ⟨j, hj⟩ := cntF_take_some c k hone
    have := pileC_length (c.take k) [] p hj hp
    rw [this]; exact hj
  have HOne : Hid (cntF c 0 = some 1) := hone
  have HOk : Hid (∀ k p, pileC (c.take k) [] = some p → okP ats.length p) := fun k p hp => (pile_ok [] h6 (c.take k) [] p (by
    rw [List.all_eq_true] at hsg0 ⊢
    exact fun x hx => hsg0 x (List.mem_of_mem_take hx)) (fun L hL => by cases hL) hp).1
  have hm6 : ats.length ≤ 6 := h6
  clear hA hC hK hf hsg0 hone h6
  obtain ⟨m, hm⟩ : ∃ m, m = ats.length := ⟨_, rfl⟩
  obtain ⟨n, hn⟩ : ∃ n, n = c.length := ⟨_, rfl⟩
  rw [← hm] at HX hw1 HCk HSg HOk hm6 ⊢
  rw [← hn] at HX hw1 HCk HSg HCn HCc hn1 hn20 ⊢
  have HN : Hid (n = c.length) := hn
  clear hm hn
  obtain ⟨x0, x1⟩ := HX.out w1 (Below.refl _ _)
  rw [hw1] at x0 x1
  go_enter Tryz.func36, Tryz.ntmps36
  go_wp2_with fail
  rw [← hw1]
  clear hw1 x0 x1
  go_at_call 30
  refine HCk.out.mono ?_
  rintro e w2 ⟨rfl, hb⟩
  have HB2 : Hid (Below K w1 w2 ∧ K ≤ w2.heap.size) := by rw [HKe.out.1]; exact ⟨hb, hb.size⟩
  clear hb HCk
  obtain ⟨x0, x1⟩ := HX.out w2 (by rw [← HKe.out.1]; exact HB2.out.1)
  clear hKe
  go_wp2_with fail
  clear x0 x1
  go_loopw [5, 7, 8, 9, 10, 19] (fun v _ _ _ _ i wr => ∃ (k : Nat) (p : List (List (List Int))), k ≤ n ∧ i = .int .i64 k ∧ pileC (c.take k) [] = some p ∧ Own3 K wr v p ∧ Below K w1 wr ∧ K ≤ wr.heap.size) (fun _ _ _ _ _ i _ => n - (intOf i).toNat)
  case atStart => exact ⟨0, [], Nat.zero_le _, rfl, rfl, Own3.nil _ _, HB2.out.1, HB2.out.2⟩
  case round =>
    obtain ⟨k, p, hk, rfl, hp, hown0, hbel, hKw⟩ := hrel
    have HI : Hid (pileC (c.take k) [] = some p ∧ Own3 K wr u5 p ∧ Below K w1 wr ∧ K ≤ wr.heap.size) := ⟨hp, hown0, hbel, hKw⟩
    have hcn := HCn.out k p hk hp
    have HPo : Hid (okP m p) := HOk.out k p hp
    by_cases hlt : k < n
    · have hkc : k < c.length := by rw [← HN.out]; exact hlt
      obtain ⟨b, off, rfl, hcell⟩ := HCc.out wr hbel k hlt
      have hsg := HSg.out k hlt
      have htk : takesF (c.getD k 0) ≤ p.length := by
        have h1 := cntF_take_succ c hkc hcn
        obtain ⟨j, hj⟩ := cntF_take_some c (k + 1) HOne.out
        by_cases h2 : (p.length : Int) < takesF (c.getD k 0)
        · rw [if_pos h2] at h1; rw [h1] at hj; cases hj
        · omega
      have HS : Hid (pileC (c.take (k + 1)) [] = stepC p (c.getD k 0)) := by
        unfold Hid
        rw [pileC_succ c [] hkc, hp]; rfl
      have hpl : p.length ≤ 20 := by
        have := (cntF_nonneg (Int.le_refl 0) hcn).2
        simp at this; omega
      have hltz : (k : Int) < (n : Int) := by omega
      have HKC : Hid (k < c.length) := hkc
      obtain ⟨s, hs⟩ : ∃ s, s = c.getD k 0 := ⟨_, rfl⟩
      rw [← hs] at hcell hsg htk HS
      clear hs hkc hcn hp hbel hKw
      obtain ⟨xs, hrow, hxs⟩ := hown0
      have hxl : xs.length = p.length := by have := hrow.1; simpa using this
      have HXS : Hid (∀ (k : Nat) L, p[k]? = some L → ∃ u, xs[k]? = some u ∧ RS2 (fun b => K ≤ b ∧ some b ≠ u5.ownBlock) wr u L) := hxs
      have HXL : Hid (xs.length = p.length) := hxl
      clear hxs hxl
      by_cases h4 : takesF s = 0
      · have hsr : 0 ≤ s ∧ s < m := hsg.resolve_left (by simp [h4])
        have HT : Hid (∀ W, Calls Tryz.prog 55 #[.int .i64 s] W fun e w' => e = .returned (.int .i64 0) ∧ W = w') := fun W => by
          have := ftakes_any s W
          rw [h4] at this; exact this
        obtain ⟨L, hL⟩ : ∃ L : List (List Int), L = [[s + 1]] := ⟨_, rfl⟩
        have HSt : Hid (pileC (c.take (k + 1)) [] = some (p ++ [L])) := by unfold Hid; rw [HS.out, stepC_leaf p h4, hL]
        have HMs : Hid (∀ v, Calls Tryz.prog 64 #[.int .i64 s, v] wr fun e w' => ∃ oo ol oc, e = .returned (.tuple #[.slice oo ol oc, .nilIface]) ∧ RS2 (fun b => (K ≤ b ∧ some b ≠ u5.ownBlock) ∨ wr.heap.size ≤ b) w' (.slice oo ol oc) L ∧ Below wr.heap.size wr w') := fun v => by
          refine out_some (S := fun b => K ≤ b ∧ some b ≠ u5.ownBlock) (c := madeC s []) ?_ (fun W _ => cmade_leaf (fun b => K ≤ b ∧ some b ≠ u5.ownBlock) s hsr.1 (by omega) v W) wr (Below.refl _ _)
          have h4' := takesF_leaf h4
          rw [hL]
          simp [madeC, h4'.1, h4'.2.1, h4'.2.2.1, h4'.2.2.2]
        have HXR : Hid (∀ (j : Nat) t, p[j]? = some t → ∃ u, xs[j]? = some u ∧ RS2 (fun b => K ≤ b ∧ some b ≠ u5.ownBlock) wr u t) := HXS.out
        have HXr : Hid (xs.length = p.length) := HXL.out
        clear hL htk hsg h4 HS
        rcases hrow.2 with ⟨rfl, hp0⟩ | ⟨g, cap', cur, rfl, hg, hh, hmc, hmax, _, _⟩
        · have HLr : Hid (0 = p.length) := hp0.symm
          rw [hp0] at hrow
          have HRW : Hid (wr.ownsRow K 75 1 (.slice none 0 0) 0 xs) := hrow
          clear hrow hp0
          go_wp2_with (first | (go_at_call 55; refine (HT.out _).mono ?_; rintro e w' ⟨rfl, rfl⟩))
          go_at_call 64
          refine (HMs.out _).mono ?_
          rintro e w3 ⟨oo, ol, oc, rfl, hr3, hb3⟩
          have HB3 : Hid (Below wr.heap.size wr w3 ∧ Below K w1 w3 ∧ K ≤ w3.heap.size) := ⟨hb3, HI.out.2.2.1.trans (hb3.mono HI.out.2.2.2), by have := hb3.size; have := HI.out.2.2.2; omega⟩
          have HR3 : Hid (RS2 (fun b => K ≤ b ∧ some b ≠ (Value.slice none 0 0).ownBlock) w3 (.slice oo ol oc) L) := hr3.mono fun b _ hb => by
            rcases hb with hb | hb
            · exact hb
            · refine ⟨Nat.le_trans HI.out.2.2.2 hb, fun e => ?_⟩
              have := (HRW.out.lt b e.symm).2
              omega
          clear hr3 hb3
          obtain ⟨w4, hw4⟩ : ∃ w4, w4 = w3.alloc (.cells #[.slice oo ol oc] 75) := ⟨_, rfl⟩
          have HB4 : Hid (Below wr.heap.size wr w4 ∧ Below K w1 w4 ∧ (w4.heap.size = w3.heap.size + 1 ∧ K ≤ w4.heap.size)) := by
            have b : Below w3.heap.size w3 w4 := by rw [hw4]; exact below_alloc1 _ _
            exact ⟨HB3.out.1.trans (b.mono HB3.out.1.size), HB3.out.2.1.trans (b.mono HB3.out.2.2), by rw [hw4]; simp, by have := b.size; have := HB3.out.2.2; omega⟩
          have HR4 : Hid (RS2 (fun b => K ≤ b ∧ some b ≠ (Value.slice none 0 0).ownBlock) w4 (.slice oo ol oc) L) := HR3.out.kept (Kept.of_below (by rw [hw4]; exact below_alloc1 _ _))
          have HRW4 : Hid (w4.ownsRow K 75 1 (Value.slice none 0 0) 0 (xs)) := ownsRow_same HRW.out HB4.out.1.block
          have HX4 : Hid (∀ (j : Nat) t, (p)[j]? = some t → ∃ u, (xs)[j]? = some u ∧ RS2 (fun b => K ≤ b ∧ some b ≠ (Value.slice none 0 0).ownBlock) w4 u t) := fun j t hj => by
            obtain ⟨u, hu, hr⟩ := HXR.out j t hj
            exact ⟨u, hu, hr.kept (Kept.of_below HB4.out.1)⟩
          have hca : w4.cell? ((⟨w3.heap.size, 0, none⟩ : Addr).add 0) = some (.slice oo ol oc) := by rw [hw4]; simp [Addr.add]
          have HCa : Hid (∀ j u, ([Value.slice oo ol oc] : List Value)[j]? = some u → w4.cell? ((⟨w3.heap.size, 0, none⟩ : Addr).add j) = some u) := fun j u hu => by
            match j, hu with
            | 0, hu => simp at hu; subst hu; exact hca
          clear hca
          go_wp2_with (first | (at_builtin; rw [← hw4]; refine wpList_append_lies _ rfl (.tmp 41) (.tmp 43) 103 rfl K 75 i0 (.slice none 0 0) 1 24 Tryz.underlying103 hi hz0 hz1 hz2 rfl (by decide) (Value.slice none 0 0) 0 (xs) rfl HRW4.out ⟨w3.heap.size, 0, none⟩ 1 1 [.slice oo ol oc] rfl rfl HCa.out (by intro y hy; simp at hy; subst hy; rfl) (by decide) ?d3 ?d4 HB4.out.2.2.2 w4.heap.size rfl ?_))
          case d3 => unfold maxLen; omega
          case d4 => omega
          intro g5 cap5 w5 hown5 hgrow5 hat5 hlt5
          have HG5 : Hid (w4.grownBy w5 (Value.slice none 0 0).ownBlock) := by first | exact hgrow5 | (rw [hw4]; exact hgrow5)
          have HA5 : Hid ((Value.slice none 0 0).ownBlock = some g5 ∨ g5 = w4.heap.size) := by first | exact hat5 | (rw [HB4.out.2.2.1]; exact hat5)
          have HN5 : Hid (pileC (c.take (k + 1)) [] = some (p ++ [L]) ∧ Own3 K w5 (.slice (some ⟨g5, 0, none⟩) (0 + 1) cap5) (p ++ [L]) ∧ Below K w1 w5 ∧ K ≤ w5.heap.size) := by
            refine ⟨HSt.out, ?_, HB4.out.2.1.grown HG5.out HB4.out.2.2.2 (fun j hj => (HRW4.out.lt j hj).1), by have := HG5.out.size; have := HB4.out.2.2.2; omega⟩
            have e := HLr.out
            have h := Own3.push (P := p) (L := L) (g := g5) (cap := cap5) HXr.out HX4.out HR4.out (by rw [← e]; simpa using hown5) HG5.out HA5.out
            rw [← e] at h
            exact h
          clear hown5 hgrow5 hat5 hlt5 hw4
          go_wp2
          go_roundw
          case rel => exact ⟨k + 1, _, by omega, by go_num, HN5.out.1, HN5.out.2.1, HN5.out.2.2.1, HN5.out.2.2.2⟩
          case measure => simp [intOf]; omega
        · obtain ⟨q, hq⟩ : ∃ q, q = p.length := ⟨_, rfl⟩
          have HLr : Hid (q = p.length) := hq
          rw [← hq] at hrow hpl hmc ⊢
          rw [← hq] at HMs HXR
          have HRW : Hid (wr.ownsRow K 75 1 (.slice (some ⟨g, 0, none⟩) q cap') q xs) := hrow
          clear hrow hq hh
          by_cases hcap : cap' = q
          · subst hcap
            go_wp2_with (first | (go_at_call 55; refine (HT.out _).mono ?_; rintro e w' ⟨rfl, rfl⟩))
            go_at_call 64
            refine (HMs.out _).mono ?_
            rintro e w3 ⟨oo, ol, oc, rfl, hr3, hb3⟩
            have HB3 : Hid (Below wr.heap.size wr w3 ∧ Below K w1 w3 ∧ K ≤ w3.heap.size) := ⟨hb3, HI.out.2.2.1.trans (hb3.mono HI.out.2.2.2), by have := hb3.size; have := HI.out.2.2.2; omega⟩
            have HR3 : Hid (RS2 (fun b => K ≤ b ∧ some b ≠ (Value.slice (some ⟨g, 0, none⟩) cap' cap').ownBlock) w3 (.slice oo ol oc) L) := hr3.mono fun b _ hb => by
              rcases hb with hb | hb
              · exact hb
              · refine ⟨Nat.le_trans HI.out.2.2.2 hb, fun e => ?_⟩
                have := (HRW.out.lt b e.symm).2
                omega
            clear hr3 hb3
            obtain ⟨w4, hw4⟩ : ∃ w4, w4 = w3.alloc (.cells #[.slice oo ol oc] 75) := ⟨_, rfl⟩
            have HB4 : Hid (Below wr.heap.size wr w4 ∧ Below K w1 w4 ∧ (w4.heap.size = w3.heap.size + 1 ∧ K ≤ w4.heap.size)) := by
              have b : Below w3.heap.size w3 w4 := by rw [hw4]; exact below_alloc1 _ _
              exact ⟨HB3.out.1.trans (b.mono HB3.out.1.size), HB3.out.2.1.trans (b.mono HB3.out.2.2), by rw [hw4]; simp, by have := b.size; have := HB3.out.2.2; omega⟩
            have HR4 : Hid (RS2 (fun b => K ≤ b ∧ some b ≠ (Value.slice (some ⟨g, 0, none⟩) cap' cap').ownBlock) w4 (.slice oo ol oc) L) := HR3.out.kept (Kept.of_below (by rw [hw4]; exact below_alloc1 _ _))
            have HRW4 : Hid (w4.ownsRow K 75 1 (Value.slice (some ⟨g, 0, none⟩) cap' cap') cap' (xs)) := ownsRow_same HRW.out HB4.out.1.block
            have HX4 : Hid (∀ (j : Nat) t, (p)[j]? = some t → ∃ u, (xs)[j]? = some u ∧ RS2 (fun b => K ≤ b ∧ some b ≠ (Value.slice (some ⟨g, 0, none⟩) cap' cap').ownBlock) w4 u t) := fun j t hj => by
              obtain ⟨u, hu, hr⟩ := HXR.out j t hj
              exact ⟨u, hu, hr.kept (Kept.of_below HB4.out.1)⟩
            have hca : w4.cell? ((⟨w3.heap.size, 0, none⟩ : Addr).add 0) = some (.slice oo ol oc) := by rw [hw4]; simp [Addr.add]
            have HCa : Hid (∀ j u, ([Value.slice oo ol oc] : List Value)[j]? = some u → w4.cell? ((⟨w3.heap.size, 0, none⟩ : Addr).add j) = some u) := fun j u hu => by
              match j, hu with
              | 0, hu => simp at hu; subst hu; exact hca
            clear hca
            go_wp2_with (first | (at_builtin; rw [← hw4]; refine wpList_append_lies _ rfl (.tmp 41) (.tmp 43) 103 rfl K 75 i0 (.slice none 0 0) 1 24 Tryz.underlying103 hi hz0 hz1 hz2 rfl (by decide) (Value.slice (some ⟨g, 0, none⟩) cap' cap') cap' (xs) rfl HRW4.out ⟨w3.heap.size, 0, none⟩ 1 1 [.slice oo ol oc] rfl rfl HCa.out (by intro y hy; simp at hy; subst hy; rfl) (by decide) ?d3 ?d4 HB4.out.2.2.2 w4.heap.size rfl ?_))
            case d3 => unfold maxLen; omega
            case d4 => omega
            intro g5 cap5 w5 hown5 hgrow5 hat5 hlt5
            have HG5 : Hid (w4.grownBy w5 (Value.slice (some ⟨g, 0, none⟩) cap' cap').ownBlock) := by first | exact hgrow5 | (rw [hw4]; exact hgrow5)
            have HA5 : Hid ((Value.slice (some ⟨g, 0, none⟩) cap' cap').ownBlock = some g5 ∨ g5 = w4.heap.size) := by first | exact hat5 | (rw [HB4.out.2.2.1]; exact hat5)
            have HN5 : Hid (pileC (c.take (k + 1)) [] = some (p ++ [L]) ∧ Own3 K w5 (.slice (some ⟨g5, 0, none⟩) (cap' + 1) cap5) (p ++ [L]) ∧ Below K w1 w5 ∧ K ≤ w5.heap.size) := by
              refine ⟨HSt.out, ?_, HB4.out.2.1.grown HG5.out HB4.out.2.2.2 (fun j hj => (HRW4.out.lt j hj).1), by have := HG5.out.size; have := HB4.out.2.2.2; omega⟩
              have e := HLr.out
              have h := Own3.push (P := p) (L := L) (g := g5) (cap := cap5) HXr.out HX4.out HR4.out (by rw [← e]; simpa using hown5) HG5.out HA5.out
              rw [← e] at h
              exact h
            clear hown5 hgrow5 hat5 hlt5 hw4
            go_wp2
            go_roundw
            case rel => exact ⟨k + 1, _, by omega, by go_num, HN5.out.1, HN5.out.2.1, HN5.out.2.2.1, HN5.out.2.2.2⟩
            case measure => simp [intOf]; omega
          · go_wp2_with (first | (go_at_call 55; refine (HT.out _).mono ?_; rintro e w' ⟨rfl, rfl⟩))
            go_at_call 64
            refine (HMs.out _).mono ?_
            rintro e w3 ⟨oo, ol, oc, rfl, hr3, hb3⟩
            have HB3 : Hid (Below wr.heap.size wr w3 ∧ Below K w1 w3 ∧ K ≤ w3.heap.size) := ⟨hb3, HI.out.2.2.1.trans (hb3.mono HI.out.2.2.2), by have := hb3.size; have := HI.out.2.2.2; omega⟩
            have HR3 : Hid (RS2 (fun b => K ≤ b ∧ some b ≠ (Value.slice (some ⟨g, 0, none⟩) q cap').ownBlock) w3 (.slice oo ol oc) L) := hr3.mono fun b _ hb => by
              rcases hb with hb | hb
              · exact hb
              · refine ⟨Nat.le_trans HI.out.2.2.2 hb, fun e => ?_⟩
                have := (HRW.out.lt b e.symm).2
                omega
            clear hr3 hb3
            obtain ⟨w4, hw4⟩ : ∃ w4, w4 = w3.alloc (.cells #[.slice oo ol oc] 75) := ⟨_, rfl⟩
            have HB4 : Hid (Below wr.heap.size wr w4 ∧ Below K w1 w4 ∧ (w4.heap.size = w3.heap.size + 1 ∧ K ≤ w4.heap.size)) := by
              have b : Below w3.heap.size w3 w4 := by rw [hw4]; exact below_alloc1 _ _
              exact ⟨HB3.out.1.trans (b.mono HB3.out.1.size), HB3.out.2.1.trans (b.mono HB3.out.2.2), by rw [hw4]; simp, by have := b.size; have := HB3.out.2.2; omega⟩
            have HR4 : Hid (RS2 (fun b => K ≤ b ∧ some b ≠ (Value.slice (some ⟨g, 0, none⟩) q cap').ownBlock) w4 (.slice oo ol oc) L) := HR3.out.kept (Kept.of_below (by rw [hw4]; exact below_alloc1 _ _))
            have HRW4 : Hid (w4.ownsRow K 75 1 (Value.slice (some ⟨g, 0, none⟩) q cap') q (xs)) := ownsRow_same HRW.out HB4.out.1.block
            have HX4 : Hid (∀ (j : Nat) t, (p)[j]? = some t → ∃ u, (xs)[j]? = some u ∧ RS2 (fun b => K ≤ b ∧ some b ≠ (Value.slice (some ⟨g, 0, none⟩) q cap').ownBlock) w4 u t) := fun j t hj => by
              obtain ⟨u, hu, hr⟩ := HXR.out j t hj
              exact ⟨u, hu, hr.kept (Kept.of_below HB4.out.1)⟩
            have hca : w4.cell? ((⟨w3.heap.size, 0, none⟩ : Addr).add 0) = some (.slice oo ol oc) := by rw [hw4]; simp [Addr.add]
            have HCa : Hid (∀ j u, ([Value.slice oo ol oc] : List Value)[j]? = some u → w4.cell? ((⟨w3.heap.size, 0, none⟩ : Addr).add j) = some u) := fun j u hu => by
              match j, hu with
              | 0, hu => simp at hu; subst hu; exact hca
            clear hca
            go_wp2_with (first | (at_builtin; rw [← hw4]; refine wpList_append_lies _ rfl (.tmp 41) (.tmp 43) 103 rfl K 75 i0 (.slice none 0 0) 1 24 Tryz.underlying103 hi hz0 hz1 hz2 rfl (by decide) (Value.slice (some ⟨g, 0, none⟩) q cap') q (xs) rfl HRW4.out ⟨w3.heap.size, 0, none⟩ 1 1 [.slice oo ol oc] rfl rfl HCa.out (by intro y hy; simp at hy; subst hy; rfl) (by decide) ?d3 ?d4 HB4.out.2.2.2 w4.heap.size rfl ?_))
            case d3 => unfold maxLen; omega
            case d4 => omega
            intro g5 cap5 w5 hown5 hgrow5 hat5 hlt5
            have HG5 : Hid (w4.grownBy w5 (Value.slice (some ⟨g, 0, none⟩) q cap').ownBlock) := by first | exact hgrow5 | (rw [hw4]; exact hgrow5)
            have HA5 : Hid ((Value.slice (some ⟨g, 0, none⟩) q cap').ownBlock = some g5 ∨ g5 = w4.heap.size) := by first | exact hat5 | (rw [HB4.out.2.2.1]; exact hat5)
            have HN5 : Hid (pileC (c.take (k + 1)) [] = some (p ++ [L]) ∧ Own3 K w5 (.slice (some ⟨g5, 0, none⟩) (q + 1) cap5) (p ++ [L]) ∧ Below K w1 w5 ∧ K ≤ w5.heap.size) := by
              refine ⟨HSt.out, ?_, HB4.out.2.1.grown HG5.out HB4.out.2.2.2 (fun j hj => (HRW4.out.lt j hj).1), by have := HG5.out.size; have := HB4.out.2.2.2; omega⟩
              have e := HLr.out
              have h := Own3.push (P := p) (L := L) (g := g5) (cap := cap5) HXr.out HX4.out HR4.out (by rw [← e]; simpa using hown5) HG5.out HA5.out
              rw [← e] at h
              exact h
            clear hown5 hgrow5 hat5 hlt5 hw4
            go_wp2
            go_roundw
            case rel => exact ⟨k + 1, _, by omega, by go_num, HN5.out.1, HN5.out.2.1, HN5.out.2.2.1, HN5.out.2.2.2⟩
            case measure => simp [intOf]; omega
      by_cases h8 : s = 12
      · subst h8
        have HT : Hid (∀ W, Calls Tryz.prog 55 #[.int .i64 12] W fun e w' => e = .returned (.int .i64 1) ∧ W = w') := fun W => ftakes_any 12 W
        rw [show takesF 12 = 1 from rfl] at htk
        rcases hrow.2 with ⟨rfl, hp0⟩ | ⟨g, cap', cur, rfl, hg, hh, hmc, hmax, _, _⟩
        · omega
        · obtain ⟨r, hr⟩ : ∃ r, p.length = r + 1 := ⟨p.length - 1, by omega⟩
          have cell : ∀ j, j < p.length → ∃ u, wr.cell? ⟨g, j, none⟩ = some u ∧ GoodC (fun b => K ≤ b ∧ some b ≠ some g) m wr u (p.getD j []) := fun j hj => by
            obtain ⟨u, hu, hr⟩ := HXS.out j _ (List.getElem?_eq_getElem hj)
            have hm := HPo.out _ (List.getElem_mem hj)
            refine ⟨u, by rw [hrow.cellAt j (by omega)]; exact hu, ?_⟩
            rw [List.getD_eq_getElem?_getD, List.getElem?_eq_getElem hj]
            exact ⟨hr, hm⟩
          obtain ⟨y0, hc0, hg0⟩ := cell r (by omega)
          have HM0 : Hid (Calls Tryz.prog 64 #[.int .i64 12, .slice (some ⟨g, r, none⟩) 1 (cap' - r)] wr fun e w' => OutC (fun b => K ≤ b ∧ some b ≠ some g) wr.heap.size w' e (madeC 12 [p.getD r []]) ∧ Below wr.heap.size wr w') := by
            exact cmade_12 (fun b => K ≤ b ∧ some b ≠ some g) m hm6 g r _ wr y0 _ hc0 hg0
          have HXR : Hid (∀ (j : Nat) t, (p.take r)[j]? = some t → ∃ u, (xs.take r)[j]? = some u ∧ RS2 (fun b => K ≤ b ∧ some b ≠ (Value.slice (some ⟨g, 0, none⟩) r cap').ownBlock) wr u t) := take_get HXS.out r
          have HXr : Hid ((xs.take r).length = (p.take r).length) := by have := HXL.out; unfold Hid; simp; omega
          have HLr : Hid (r = (p.take r).length) := by unfold Hid; simp; omega
          have HRW : Hid (wr.ownsRow K 75 1 (.slice (some ⟨g, 0, none⟩) r cap') r (xs.take r)) := ownsRow_take hrow (by omega)
          have HSr : Hid (pileC (c.take (k + 1)) [] = (madeC 12 [p.getD r []]).map (fun x => p.take r ++ [x])) := by unfold Hid; rw [HS.out, stepC_one p hr]
          have hcap : ¬ cap' = r := by omega
          have hcap2 : r < cap' := by omega
          have hcap3 : (r : Int) ≤ (cap' : Int) := by omega
          have hr0 : (0 : Int) ≤ (r : Int) := by omega
          have hle : (r : Int) ≤ (r : Int) + 1 := by omega
          obtain ⟨q, hq⟩ : ∃ q, q = p.length := ⟨_, rfl⟩
          rw [← hq] at hmc hpl ⊢
          have hqr : q = r + 1 := by rw [hq]; exact hr
          subst hqr
          clear hrow hh hq hr htk hsg HS h4
          cases hmd : madeC 12 [p.getD r []] with
          | none =>
            have HMn : Hid (Calls Tryz.prog 64 #[.int .i64 12, .slice (some ⟨g, r, none⟩) 1 (cap' - r)] wr fun e w' => e = .returned (.tuple #[.slice none 0 0, .iface 61 (.int .i64 4)]) ∧ Below wr.heap.size wr w') := by
              have h := HM0.out
              rw [hmd] at h
              exact h
            have HNo : Hid (cubesC c = none) := by
              have h := HSr.out
              rw [hmd] at h
              unfold Hid cubesC
              rw [pileC_none c [] (k + 1) h]; rfl
            clear hmd HM0
            go_wp2_with (first | (go_at_call 55; refine (HT.out _).mono ?_; rintro e w' ⟨rfl, rfl⟩))
            go_at_call 64
            refine HMn.out.mono ?_
            rintro e w3 ⟨rfl, hb3⟩
            have HB3 : Hid (Below w.heap.size w w3) := HB1.out.1.trans ((HI.out.2.2.1.trans (hb3.mono HI.out.2.2.2)).mono HKe.out.2)
            clear hb3
            go_wp2
            go_ret2
            refine ⟨?_, HB3.out⟩
            rw [HNo.out]; rfl
          | some L =>
            have HMs : Hid (Calls Tryz.prog 64 #[.int .i64 12, .slice (some ⟨g, r, none⟩) 1 (cap' - r)] wr fun e w' => ∃ oo ol oc, e = .returned (.tuple #[.slice oo ol oc, .nilIface]) ∧ RS2 (fun b => (K ≤ b ∧ some b ≠ some g) ∨ wr.heap.size ≤ b) w' (.slice oo ol oc) L ∧ Below wr.heap.size wr w') := by
              refine HM0.out.mono ?_
              rintro e w' ⟨he, hb⟩
              rw [hmd] at he
              obtain ⟨v, rfl, hr⟩ : ∃ v, e = .returned (.tuple #[v, .nilIface]) ∧ RS2 (fun b => (K ≤ b ∧ some b ≠ some g) ∨ wr.heap.size ≤ b) w' v L := he
              obtain ⟨oo, oc, rfl, _⟩ := hr.slice
              exact ⟨oo, _, oc, rfl, hr, hb⟩
            have HSt : Hid (pileC (c.take (k + 1)) [] = some (p.take r ++ [L])) := by
              have h := HSr.out
              rw [hmd] at h
              exact h
            clear hmd HM0
            go_wp2_with (first | (go_at_call 55; refine (HT.out _).mono ?_; rintro e w' ⟨rfl, rfl⟩))
            go_at_call 64
            refine HMs.out.mono ?_
            rintro e w3 ⟨oo, ol, oc, rfl, hr3, hb3⟩
            have HB3 : Hid (Below wr.heap.size wr w3 ∧ Below K w1 w3 ∧ K ≤ w3.heap.size) := ⟨hb3, HI.out.2.2.1.trans (hb3.mono HI.out.2.2.2), by have := hb3.size; have := HI.out.2.2.2; omega⟩
            have HR3 : Hid (RS2 (fun b => K ≤ b ∧ some b ≠ (Value.slice (some ⟨g, 0, none⟩) r cap').ownBlock) w3 (.slice oo ol oc) L) := hr3.mono fun b _ hb => by
              rcases hb with hb | hb
              · exact hb
              · refine ⟨Nat.le_trans HI.out.2.2.2 hb, fun e => ?_⟩
                have := (HRW.out.lt b e.symm).2
                omega
            clear hr3 hb3
            obtain ⟨w4, hw4⟩ : ∃ w4, w4 = w3.alloc (.cells #[.slice oo ol oc] 75) := ⟨_, rfl⟩
            have HB4 : Hid (Below wr.heap.size wr w4 ∧ Below K w1 w4 ∧ (w4.heap.size = w3.heap.size + 1 ∧ K ≤ w4.heap.size)) := by
              have b : Below w3.heap.size w3 w4 := by rw [hw4]; exact below_alloc1 _ _
              exact ⟨HB3.out.1.trans (b.mono HB3.out.1.size), HB3.out.2.1.trans (b.mono HB3.out.2.2), by rw [hw4]; simp, by have := b.size; have := HB3.out.2.2; omega⟩
            have HR4 : Hid (RS2 (fun b => K ≤ b ∧ some b ≠ (Value.slice (some ⟨g, 0, none⟩) r cap').ownBlock) w4 (.slice oo ol oc) L) := HR3.out.kept (Kept.of_below (by rw [hw4]; exact below_alloc1 _ _))
            have HRW4 : Hid (w4.ownsRow K 75 1 (Value.slice (some ⟨g, 0, none⟩) r cap') r (xs.take r)) := ownsRow_same HRW.out HB4.out.1.block
            have HX4 : Hid (∀ (j : Nat) t, (p.take r)[j]? = some t → ∃ u, (xs.take r)[j]? = some u ∧ RS2 (fun b => K ≤ b ∧ some b ≠ (Value.slice (some ⟨g, 0, none⟩) r cap').ownBlock) w4 u t) := fun j t hj => by
              obtain ⟨u, hu, hr⟩ := HXR.out j t hj
              exact ⟨u, hu, hr.kept (Kept.of_below HB4.out.1)⟩
            have hca : w4.cell? ((⟨w3.heap.size, 0, none⟩ : Addr).add 0) = some (.slice oo ol oc) := by rw [hw4]; simp [Addr.add]
            have HCa : Hid (∀ j u, ([Value.slice oo ol oc] : List Value)[j]? = some u → w4.cell? ((⟨w3.heap.size, 0, none⟩ : Addr).add j) = some u) := fun j u hu => by
              match j, hu with
              | 0, hu => simp at hu; subst hu; exact hca
            clear hca
            go_wp2_with (first | (at_builtin; rw [← hw4]; refine wpList_append_lies _ rfl (.tmp 41) (.tmp 43) 103 rfl K 75 i0 (.slice none 0 0) 1 24 Tryz.underlying103 hi hz0 hz1 hz2 rfl (by decide) (Value.slice (some ⟨g, 0, none⟩) r cap') r (xs.take r) rfl HRW4.out ⟨w3.heap.size, 0, none⟩ 1 1 [.slice oo ol oc] rfl rfl HCa.out (by intro y hy; simp at hy; subst hy; rfl) (by decide) ?d3 ?d4 HB4.out.2.2.2 w4.heap.size rfl ?_))
            case d3 => unfold maxLen; omega
            case d4 => omega
            intro g5 cap5 w5 hown5 hgrow5 hat5 hlt5
            have HG5 : Hid (w4.grownBy w5 (Value.slice (some ⟨g, 0, none⟩) r cap').ownBlock) := by first | exact hgrow5 | (rw [hw4]; exact hgrow5)
            have HA5 : Hid ((Value.slice (some ⟨g, 0, none⟩) r cap').ownBlock = some g5 ∨ g5 = w4.heap.size) := by first | exact hat5 | (rw [HB4.out.2.2.1]; exact hat5)
            have HN5 : Hid (pileC (c.take (k + 1)) [] = some (p.take r ++ [L]) ∧ Own3 K w5 (.slice (some ⟨g5, 0, none⟩) (r + 1) cap5) (p.take r ++ [L]) ∧ Below K w1 w5 ∧ K ≤ w5.heap.size) := by
              refine ⟨HSt.out, ?_, HB4.out.2.1.grown HG5.out HB4.out.2.2.2 (fun j hj => (HRW4.out.lt j hj).1), by have := HG5.out.size; have := HB4.out.2.2.2; omega⟩
              have e := HLr.out
              have h := Own3.push (P := p.take r) (L := L) (g := g5) (cap := cap5) HXr.out HX4.out HR4.out (by rw [← e]; simpa using hown5) HG5.out HA5.out
              rw [← e] at h
              exact h
            clear hown5 hgrow5 hat5 hlt5 hw4
            go_wp2
            go_roundw
            case rel => exact ⟨k + 1, _, by omega, by go_num, HN5.out.1, HN5.out.2.1, HN5.out.2.2.1, HN5.out.2.2.2⟩
            case measure => simp [intOf]; omega
      · have hs3 : s = 10 ∨ s = 11 ∨ s = 13 := by
          by_cases h3 : s = 10 ∨ s = 11 ∨ s = 13
          · exact h3
          · exact absurd (show takesF s = 0 by unfold takesF; rw [if_neg h3, if_neg h8]) h4
        have ht2 : takesF s = 2 := by unfold takesF; rw [if_pos hs3]
        have HT : Hid (∀ W, Calls Tryz.prog 55 #[.int .i64 s] W fun e w' => e = .returned (.int .i64 2) ∧ W = w') := fun W => by
          have := ftakes_any s W
          rw [ht2] at this; exact this
        rw [ht2] at htk
        rcases hrow.2 with ⟨rfl, hp0⟩ | ⟨g, cap', cur, rfl, hg, hh, hmc, hmax, _, _⟩
        · omega
        · obtain ⟨r, hr⟩ : ∃ r, p.length = r + 2 := ⟨p.length - 2, by omega⟩
          have cell : ∀ j, j < p.length → ∃ u, wr.cell? ⟨g, j, none⟩ = some u ∧ GoodC (fun b => K ≤ b ∧ some b ≠ some g) m wr u (p.getD j []) := fun j hj => by
            obtain ⟨u, hu, hr⟩ := HXS.out j _ (List.getElem?_eq_getElem hj)
            have hm := HPo.out _ (List.getElem_mem hj)
            refine ⟨u, by rw [hrow.cellAt j (by omega)]; exact hu, ?_⟩
            rw [List.getD_eq_getElem?_getD, List.getElem?_eq_getElem hj]
            exact ⟨hr, hm⟩
          obtain ⟨y0, hc0, hg0⟩ := cell r (by omega)
          obtain ⟨y1, hc1, hg1⟩ := cell (r + 1) (by omega)
          have HM0 : Hid (Calls Tryz.prog 64 #[.int .i64 s, .slice (some ⟨g, r, none⟩) 2 (cap' - r)] wr fun e w' => OutC (fun b => K ≤ b ∧ some b ≠ some g) wr.heap.size w' e (madeC s [p.getD r [], p.getD (r + 1) []]) ∧ Below wr.heap.size wr w') := by
            rcases hs3 with rfl | rfl | rfl
            · exact cmade_10 (fun b => K ≤ b ∧ some b ≠ some g) m hm6 g r _ wr y0 _ hc0 hg0 y1 _ hc1 hg1
            · exact cmade_11 (fun b => K ≤ b ∧ some b ≠ some g) m hm6 g r _ wr y0 _ hc0 hg0 y1 _ hc1 hg1
            · exact cmade_13 (fun b => K ≤ b ∧ some b ≠ some g) m hm6 g r _ wr y0 _ hc0 hg0 y1 _ hc1 hg1 (Array.getElem?_eq_some_iff.1 hh).1
          have HXR : Hid (∀ (j : Nat) t, (p.take r)[j]? = some t → ∃ u, (xs.take r)[j]? = some u ∧ RS2 (fun b => K ≤ b ∧ some b ≠ (Value.slice (some ⟨g, 0, none⟩) r cap').ownBlock) wr u t) := take_get HXS.out r
          have HXr : Hid ((xs.take r).length = (p.take r).length) := by have := HXL.out; unfold Hid; simp; omega
          have HLr : Hid (r = (p.take r).length) := by unfold Hid; simp; omega
          have HRW : Hid (wr.ownsRow K 75 1 (.slice (some ⟨g, 0, none⟩) r cap') r (xs.take r)) := ownsRow_take hrow (by omega)
          have HSr : Hid (pileC (c.take (k + 1)) [] = (madeC s [p.getD r [], p.getD (r + 1) []]).map (fun x => p.take r ++ [x])) := by unfold Hid; rw [HS.out, stepC_two p ht2 hr]
          have hcap : ¬ cap' = r := by omega
          have hcap2 : r < cap' := by omega
          have hcap3 : (r : Int) ≤ (cap' : Int) := by omega
          have hr0 : (0 : Int) ≤ (r : Int) := by omega
          have hle : (r : Int) ≤ (r : Int) + 2 := by omega
          obtain ⟨q, hq⟩ : ∃ q, q = p.length := ⟨_, rfl⟩
          rw [← hq] at hmc hpl ⊢
          have hqr : q = r + 2 := by rw [hq]; exact hr
          subst hqr
          clear hrow hh hq hr htk hsg HS h4
          cases hmd : madeC s [p.getD r [], p.getD (r + 1) []] with
          | none =>
            have HMn : Hid (Calls Tryz.prog 64 #[.int .i64 s, .slice (some ⟨g, r, none⟩) 2 (cap' - r)] wr fun e w' => e = .returned (.tuple #[.slice none 0 0, .iface 61 (.int .i64 4)]) ∧ Below wr.heap.size wr w') := by
              have h := HM0.out
              rw [hmd] at h
              exact h
            have HNo : Hid (cubesC c = none) := by
              have h := HSr.out
              rw [hmd] at h
              unfold Hid cubesC
              rw [pileC_none c [] (k + 1) h]; rfl
            clear hmd HM0
            go_wp2_with (first | (go_at_call 55; refine (HT.out _).mono ?_; rintro e w' ⟨rfl, rfl⟩))
            go_at_call 64
            refine HMn.out.mono ?_
            rintro e w3 ⟨rfl, hb3⟩
            have HB3 : Hid (Below w.heap.size w w3) := HB1.out.1.trans ((HI.out.2.2.1.trans (hb3.mono HI.out.2.2.2)).mono HKe.out.2)
            clear hb3
            go_wp2
            go_ret2
            refine ⟨?_, HB3.out⟩
            rw [HNo.out]; rfl
          | some L =>
            have HMs : Hid (Calls Tryz.prog 64 #[.int .i64 s, .slice (some ⟨g, r, none⟩) 2 (cap' - r)] wr fun e w' => ∃ oo ol oc, e = .returned (.tuple #[.slice oo ol oc, .nilIface]) ∧ RS2 (fun b => (K ≤ b ∧ some b ≠ some g) ∨ wr.heap.size ≤ b) w' (.slice oo ol oc) L ∧ Below wr.heap.size wr w') := by
              refine HM0.out.mono ?_
              rintro e w' ⟨he, hb⟩
              rw [hmd] at he
              obtain ⟨v, rfl, hr⟩ : ∃ v, e = .returned (.tuple #[v, .nilIface]) ∧ RS2 (fun b => (K ≤ b ∧ some b ≠ some g) ∨ wr.heap.size ≤ b) w' v L := he
              obtain ⟨oo, oc, rfl, _⟩ := hr.slice
              exact ⟨oo, _, oc, rfl, hr, hb⟩
            have HSt : Hid (pileC (c.take (k + 1)) [] = some (p.take r ++ [L])) := by
              have h := HSr.out
              rw [hmd] at h
              exact h
            clear hmd HM0
            go_wp2_with (first | (go_at_call 55; refine (HT.out _).mono ?_; rintro e w' ⟨rfl, rfl⟩))
            go_at_call 64
            refine HMs.out.mono ?_
            rintro e w3 ⟨oo, ol, oc, rfl, hr3, hb3⟩
            have HB3 : Hid (Below wr.heap.size wr w3 ∧ Below K w1 w3 ∧ K ≤ w3.heap.size) := ⟨hb3, HI.out.2.2.1.trans (hb3.mono HI.out.2.2.2), by have := hb3.size; have := HI.out.2.2.2; omega⟩
            have HR3 : Hid (RS2 (fun b => K ≤ b ∧ some b ≠ (Value.slice (some ⟨g, 0, none⟩) r cap').ownBlock) w3 (.slice oo ol oc) L) := hr3.mono fun b _ hb => by
              rcases hb with hb | hb
              · exact hb
              · refine ⟨Nat.le_trans HI.out.2.2.2 hb, fun e => ?_⟩
                have := (HRW.out.lt b e.symm).2
                omega
            clear hr3 hb3
            obtain ⟨w4, hw4⟩ : ∃ w4, w4 = w3.alloc (.cells #[.slice oo ol oc] 75) := ⟨_, rfl⟩
            have HB4 : Hid (Below wr.heap.size wr w4 ∧ Below K w1 w4 ∧ (w4.heap.size = w3.heap.size + 1 ∧ K ≤ w4.heap.size)) := by
              have b : Below w3.heap.size w3 w4 := by rw [hw4]; exact below_alloc1 _ _
              exact ⟨HB3.out.1.trans (b.mono HB3.out.1.size), HB3.out.2.1.trans (b.mono HB3.out.2.2), by rw [hw4]; simp, by have := b.size; have := HB3.out.2.2; omega⟩
            have HR4 : Hid (RS2 (fun b => K ≤ b ∧ some b ≠ (Value.slice (some ⟨g, 0, none⟩) r cap').ownBlock) w4 (.slice oo ol oc) L) := HR3.out.kept (Kept.of_below (by rw [hw4]; exact below_alloc1 _ _))
            have HRW4 : Hid (w4.ownsRow K 75 1 (Value.slice (some ⟨g, 0, none⟩) r cap') r (xs.take r)) := ownsRow_same HRW.out HB4.out.1.block
            have HX4 : Hid (∀ (j : Nat) t, (p.take r)[j]? = some t → ∃ u, (xs.take r)[j]? = some u ∧ RS2 (fun b => K ≤ b ∧ some b ≠ (Value.slice (some ⟨g, 0, none⟩) r cap').ownBlock) w4 u t) := fun j t hj => by
              obtain ⟨u, hu, hr⟩ := HXR.out j t hj
              exact ⟨u, hu, hr.kept (Kept.of_below HB4.out.1)⟩
            have hca : w4.cell? ((⟨w3.heap.size, 0, none⟩ : Addr).add 0) = some (.slice oo ol oc) := by rw [hw4]; simp [Addr.add]
            have HCa : Hid (∀ j u, ([Value.slice oo ol oc] : List Value)[j]? = some u → w4.cell? ((⟨w3.heap.size, 0, none⟩ : Addr).add j) = some u) := fun j u hu => by
              match j, hu with
              | 0, hu => simp at hu; subst hu; exact hca
            clear hca
            go_wp2_with (first | (at_builtin; rw [← hw4]; refine wpList_append_lies _ rfl (.tmp 41) (.tmp 43) 103 rfl K 75 i0 (.slice none 0 0) 1 24 Tryz.underlying103 hi hz0 hz1 hz2 rfl (by decide) (Value.slice (some ⟨g, 0, none⟩) r cap') r (xs.take r) rfl HRW4.out ⟨w3.heap.size, 0, none⟩ 1 1 [.slice oo ol oc] rfl rfl HCa.out (by intro y hy; simp at hy; subst hy; rfl) (by decide) ?d3 ?d4 HB4.out.2.2.2 w4.heap.size rfl ?_))
            case d3 => unfold maxLen; omega
            case d4 => omega
            intro g5 cap5 w5 hown5 hgrow5 hat5 hlt5
            have HG5 : Hid (w4.grownBy w5 (Value.slice (some ⟨g, 0, none⟩) r cap').ownBlock) := by first | exact hgrow5 | (rw [hw4]; exact hgrow5)
            have HA5 : Hid ((Value.slice (some ⟨g, 0, none⟩) r cap').ownBlock = some g5 ∨ g5 = w4.heap.size) := by first | exact hat5 | (rw [HB4.out.2.2.1]; exact hat5)
            have HN5 : Hid (pileC (c.take (k + 1)) [] = some (p.take r ++ [L]) ∧ Own3 K w5 (.slice (some ⟨g5, 0, none⟩) (r + 1) cap5) (p.take r ++ [L]) ∧ Below K w1 w5 ∧ K ≤ w5.heap.size) := by
              refine ⟨HSt.out, ?_, HB4.out.2.1.grown HG5.out HB4.out.2.2.2 (fun j hj => (HRW4.out.lt j hj).1), by have := HG5.out.size; have := HB4.out.2.2.2; omega⟩
              have e := HLr.out
              have h := Own3.push (P := p.take r) (L := L) (g := g5) (cap := cap5) HXr.out HX4.out HR4.out (by rw [← e]; simpa using hown5) HG5.out HA5.out
              rw [← e] at h
              exact h
            clear hown5 hgrow5 hat5 hlt5 hw4
            go_wp2
            go_roundw
            case rel => exact ⟨k + 1, _, by omega, by go_num, HN5.out.1, HN5.out.2.1, HN5.out.2.2.1, HN5.out.2.2.2⟩
            case measure => simp [intOf]; omega
    · have hkn : k = n := by omega
      have hall : c.take k = c := List.take_of_length_le (by have := HN.out; omega)
      rw [hall] at hcn hp
      have h1 : p.length = 1 := by
        have := HOne.out.symm.trans hcn
        have := Option.some.inj this
        omega
      have HE : Hid (cubesC c = some (p.getD 0 [])) := by unfold Hid cubesC; rw [hp]; rfl
      obtain ⟨xs, hrow, hxs⟩ := hown0
      rw [h1] at hrow
      rcases hrow.2 with ⟨_, hz⟩ | ⟨g, cap', cur, rfl, hg, hh, hmc, hmax, _, _⟩
      · omega
      · obtain ⟨u, hu, hr⟩ := hxs 0 _ (List.getElem?_eq_getElem (show 0 < p.length by omega))
        obtain ⟨oo, oc, rfl, _⟩ := hr.slice
        have hcell : wr.cell? ⟨g, 0, none⟩ = some (.slice oo p[0].length oc) := by rw [hrow.cellAt 0 (by omega)]; exact hu
        have HR : Hid (RS2 (fun b => False ∨ w.heap.size ≤ b) wr (.slice oo p[0].length oc) (p.getD 0 [])) := by
          unfold Hid
          rw [List.getD_eq_getElem?_getD, List.getElem?_eq_getElem (show 0 < p.length by omega)]
          exact hr.mono fun b _ hb => Or.inr (Nat.le_trans HKe.out.2 hb.1)
        have HB3 : Hid (Below w.heap.size w wr) := HB1.out.1.trans (hbel.mono HKe.out.2)
        obtain ⟨ol, hol⟩ : ∃ ol, ol = p[0].length := ⟨_, rfl⟩
        rw [← hol] at hcell HR
        have hltz : ¬ (k : Int) < (n : Int) := by omega
        clear hrow hxs hr hu hh hol hp hcn hall hbel hKw HI
        go_wp2
        go_ret2
        refine ⟨?_, HB3.out⟩
        rw [HE.out]
        exact ⟨_, rfl, HR.out⟩

set_option maxHeartbeats 4000000 in
theorem of_bad (va vc : Value) (ats : List At) (c : List Int) (w : World) (hA : ReadsA w va ats) (hC : Reads w vc c) (hK : KindsLaid w) (hf : ¬ formFault ats c = 0) :
    Calls Tryz.prog 36 #[.agg #[va, vc]] w fun e w' => e = .returned (.tuple #[.slice none 0 0, .iface 61 (.int .i64 (formFault ats c))]) ∧ Below w.heap.size w w' := by
  obtain ⟨ao, acap, rfl, _⟩ := hA.slice
  obtain ⟨co, ccap, rfl, _⟩ := hC.slice
  obtain ⟨w1, hw1⟩ : ∃ w1, w1 = w.alloc (.cells #[.slice ao ats.length acap, .slice co c.length ccap] 29) := ⟨_, rfl⟩
  have HB1 : Hid (Below w.heap.size w w1 ∧ w1.heap.size = w.heap.size + 1) := by unfold Hid; rw [hw1]; exact ⟨below_alloc1 _ _, by simp⟩
  have HCk : Hid (Calls Tryz.prog 30 #[.agg #[.slice ao ats.length acap, .slice co c.length ccap]] w1 fun e w' => e = .returned (.iface 61 (.int .i64 (formFault ats c))) ∧ Below w1.heap.size w1 w') := by
    have := fcheck_any _ _ ats c w1 (hA.below HB1.out.1) (hC.below HB1.out.1) (hK.below HB1.out.1)
    rw [errV_no hf] at this; exact this
  obtain ⟨F, hF⟩ : ∃ F, F = formFault ats c := ⟨_, rfl⟩
  rw [← hF] at HCk ⊢
  obtain ⟨m, hm⟩ : ∃ m, m = ats.length := ⟨_, rfl⟩
  obtain ⟨n, hn⟩ : ∃ n, n = c.length := ⟨_, rfl⟩
  rw [← hm] at HCk hw1 ⊢
  rw [← hn] at HCk hw1 ⊢
  clear hA hC hK hF hf hm hn
  have x0 : w1.cell? ⟨w.heap.size, 0, none⟩ = some (.slice ao m acap) := by rw [hw1]; simp
  have x1 : w1.cell? ⟨w.heap.size, 1, none⟩ = some (.slice co n ccap) := by rw [hw1]; simp
  rw [hw1] at x0 x1
  go_enter Tryz.func36, Tryz.ntmps36
  go_wp2_with fail
  rw [← hw1]
  clear hw1 x0 x1
  go_at_call 30
  refine HCk.out.mono ?_
  rintro e w2 ⟨rfl, hb⟩
  have HB2 : Hid (Below w.heap.size w w2) := HB1.out.1.trans (hb.mono HB1.out.1.size)
  clear hb HCk
  go_wp2
  go_ret2
  exact ⟨rfl, HB2.out⟩
end Go.Proofs.YtpdpnlpepfgknafGreatDoor

namespace Go.Proofs.YtpdpnlpepfgknafGreatDoor
open Go.RowKit

theorem has_do {what u a b : Int} (hl : 5 ≤ what) (hm : what ≤ 8) (ha : okB u a = true) (hb : okB u b = true) (i : Nat) (hi : (i : Int) < u) : hasB (doN what u a b) i = inB what (hasB a i) (hasB b i) := by
  have hd : what = 5 ∨ what = 6 ∨ what = 7 ∨ what = 8 := by omega
  have hj : i < u.toNat := by omega
  rcases hd with rfl | rfl | rfl | rfl
  · exact uptoSets (P := fun u a b => ∀ i < u.toNat, hasB (doN 5 u a b) i = inB 5 (hasB a i) (hasB b i)) (by decide +kernel) u a b ha hb i hj
  · exact uptoSets (P := fun u a b => ∀ i < u.toNat, hasB (doN 6 u a b) i = inB 6 (hasB a i) (hasB b i)) (by decide +kernel) u a b ha hb i hj
  · exact uptoSets (P := fun u a b => ∀ i < u.toNat, hasB (doN 7 u a b) i = inB 7 (hasB a i) (hasB b i)) (by decide +kernel) u a b ha hb i hj
  · exact uptoSets (P := fun u a b => ∀ i < u.toNat, hasB (doN 8 u a b) i = inB 8 (hasB a i) (hasB b i)) (by decide +kernel) u a b ha hb i hj
theorem has_none (i : Nat) : hasB 0 i = false := by simp [hasB]

theorem has_opp {w : Wd} (h : w.ok = true) {n : Nat} {t : List Int} (ht : isTm n t) (i : Nat) (hi : (i : Int) < w.u) : hasB (w.val (t ++ [8])) i = !hasB (w.val t) i := by
  rw [val_opp w ht]
  exact has_do (by omega) (by omega) (ok_val h t) (ok_val h t) i hi
theorem has_two {w : Wd} (h : w.ok = true) {s : Int} (h5 : 5 ≤ s) (h7 : s ≤ 7) {n m : Nat} {a b : List Int} (ha : isTm n a) (hb : isTm m b) (i : Nat) (hi : (i : Int) < w.u) : hasB (w.val (a ++ (b ++ [s]))) i = inB s (hasB (w.val a) i) (hasB (w.val b) i) := by
  rw [val_bin w h5 h7 ha hb]
  exact has_do (by omega) (by omega) (ok_val h a) (ok_val h b) i hi
theorem has_leaf {w : Wd} (h : w.ok = true) (s : Int) (h0 : 0 ≤ s) (h4 : s ≤ 4) (i : Nat) (hi : (i : Int) < w.u) : hasB (w.val [s]) i = if s < 3 then hasB (w.name s) i else s == 4 := by
  have z := ok_zero (ok_u h).1 (ok_u h).2
  rw [val_leaf w s h4]
  unfold Wd.made
  by_cases h3 : s < 3
  · rw [if_pos h3, if_pos h3]
  rw [if_neg h3, if_neg h3]
  by_cases h3' : s = 3
  · subst h3'; rw [if_pos rfl]; exact has_none i
  obtain rfl : s = 4 := by omega
  rw [if_neg h3', if_pos rfl, has_do (by omega) (by omega) z z i hi, has_none]; rfl

/-- the value of a set, thing by thing, of the first k. -/
def sumTo (v : Int) : Nat → Int
  | 0 => 0
  | k + 1 => sumTo v k + if hasB v k = true then pw k else 0
theorem sumTo_le (v : Int) (k : Nat) : 0 ≤ sumTo v k ∧ sumTo v k < pw k := by
  induction k with
  | zero => exact ⟨Int.le_refl _, show (0 : Int) < pw 0 by decide⟩
  | succ k ih =>
    have := pw_pos k
    unfold sumTo
    rw [pw_succ]
    split <;> omega
theorem sumTo_all {u v : Int} (h : okB u v = true) : sumTo v u.toNat = v :=
  uptoSets (P := fun u v _ => sumTo v u.toNat = v) (by decide +kernel) u v v h h

/-! ### the letters -/
/-- the bytes of the signs, one by one. -/
def letterL : List UInt8 := [65, 66, 67, 48, 49, 43, 42, 45, 126]
def letterB : ByteArray := ⟨#[65, 66, 67, 48, 49, 43, 42, 45, 126]⟩
/-- which sign a byte is; -1: none. -/
def signOf (b : UInt8) : Int := if b = 65 then 0 else if b = 66 then 1 else if b = 67 then 2 else if b = 48 then 3 else if b = 49 then 4 else if b = 43 then 5 else if b = 42 then 6 else if b = 45 then 7 else if b = 126 then 8 else -1
/-- the byte of a sign. -/
def byteOf (s : Int) : UInt8 := if s = 0 then 65 else if s = 1 then 66 else if s = 2 then 67 else if s = 3 then 48 else if s = 4 then 49 else if s = 5 then 43 else if s = 6 then 42 else if s = 7 then 45 else 126
theorem nine {s : Int} (h : signB s = true) : s = 0 ∨ s = 1 ∨ s = 2 ∨ s = 3 ∨ s = 4 ∨ s = 5 ∨ s = 6 ∨ s = 7 ∨ s = 8 := by
  have := signB_iff.1 h; omega
theorem sign_byte {s : Int} (h : signB s = true) : signOf (byteOf s) = s := by
  rcases nine h with rfl | rfl | rfl | rfl | rfl | rfl | rfl | rfl | rfl <;> decide
theorem byte_all : ∀ b : UInt8, (signOf b = -1 ∨ (signB (signOf b) = true ∧ byteOf (signOf b) = b)) := by
  intro b
  have h : ∀ n : Fin 256, (signOf ⟨⟨n⟩⟩ = -1 ∨ (signB (signOf ⟨⟨n⟩⟩) = true ∧ byteOf (signOf ⟨⟨n⟩⟩) = ⟨⟨n⟩⟩)) := by decide +kernel
  exact h b.toBitVec.toFin
theorem byte_sign {b : UInt8} (h : signOf b ≠ -1) : signB (signOf b) = true ∧ byteOf (signOf b) = b := (byte_all b).resolve_left h
/-- a term as a text; a text as signs. -/
def textN (t : List Int) : List UInt8 := t.map byteOf
def readN (l : List UInt8) : List Int := l.map signOf
def lettersB (l : List UInt8) : Bool := l.all fun b => signOf b != -1
/-- what is wrong with a text. -/
def textFault (l : List UInt8) : Int := if lettersB l = true then faultN (readN l) else 2
theorem read_text {t : List Int} (h : t.all signB = true) : readN (textN t) = t := by
  induction t with
  | nil => rfl
  | cons s l ih =>
    simp only [List.all_cons, Bool.and_eq_true] at h
    simp only [textN, readN, List.map_cons, sign_byte h.1]
    exact congrArg _ (ih h.2)
theorem letters_text {t : List Int} (h : t.all signB = true) : lettersB (textN t) = true := by
  induction t with
  | nil => rfl
  | cons s l ih =>
    simp only [List.all_cons, Bool.and_eq_true] at h
    have := signB_iff.1 h.1
    simp only [lettersB, textN, List.map_cons, List.all_cons, sign_byte h.1, Bool.and_eq_true, bne_iff_ne, ne_eq]
    exact ⟨by omega, ih h.2⟩
theorem text_read {l : List UInt8} (h : lettersB l = true) : textN (readN l) = l := by
  induction l with
  | nil => rfl
  | cons b l ih =>
    simp only [lettersB, List.all_cons, Bool.and_eq_true, bne_iff_ne, ne_eq] at h
    simp only [textN, readN, List.map_cons, (byte_sign h.1).2]
    exact congrArg _ (ih h.2)
theorem read_signs {l : List UInt8} (h : lettersB l = true) : (readN l).all signB = true := by
  induction l with
  | nil => rfl
  | cons b l ih =>
    simp only [lettersB, List.all_cons, Bool.and_eq_true, bne_iff_ne, ne_eq] at h
    simp only [readN, List.map_cons, List.all_cons, (byte_sign h.1).1, Bool.true_and]
    exact ih h.2
end Go.Proofs.YtpdpnlpepfgknafGreatDoor
