/-
  Proved: what cubes.with returns: one cube more, unless that has an atom both ways, or was there ahead; what else was in memory is as it was (a contract that the statements lean on).
  Proved: what cubes.both returns: each cube of the first with each of the second, or that they are too many; what was in memory is as it was (a contract that the statements lean on).
  Proved: what cubes.turned and cubes.none return: of each member a cube, turned round; the cubes of No of some, or that they are too many; what was in memory is as it was (contracts that the statements lean on).
-/
import Derived.Test.YtjaedfjfcghgcabGreatDoorLibT21
import Derived.Test.YtjaedfjfcghgcabGreatDoorLibT22
namespace Go.Proofs.YtjaedfjfcghgcabGreatDoor
open Go.ChangeShapes Go.WideShapes Go.ChangeAt Go.RowKit
set_option maxRecDepth 100000

/-- a cube more. -/
def withC (L : List (List Int)) (c : List Int) : List (List Int) := if (bothWays c || L.contains c) = true then L else L ++ [c]
theorem any_beq (L : List (List Int)) (c : List Int) : L.any (fun t => t == c) = L.contains c := by
  rw [Bool.eq_iff_iff]; simp
theorem grown_of_below {w w' : World} {r : Option Nat} (h : Below w.heap.size w w') : w.grownBy w' r := ⟨h.os, h.tape, h.output, h.size, fun k hk _ => h.block k hk⟩
theorem grown_trans {w w' w'' : World} {r : Option Nat} (h : w.grownBy w' r) (k : w'.grownBy w'' r) : w.grownBy w'' r :=
  ⟨k.os.trans h.os, k.tape.trans h.tape, k.output.trans h.output, Nat.le_trans h.size k.size, fun b hb hr => (k.block b (Nat.lt_of_lt_of_le hb h.size) hr).trans (h.block b hb hr)⟩

set_option maxHeartbeats 4000000 in
theorem with_any (S : Nat → Prop) (K : Nat) (v u : Value) (L : List (List Int)) (c : List Int) (w : World) (hK : K ≤ w.heap.size) (hown : Own2 S K w v L) (hu : RS (fun b => (S b ∨ K ≤ b) ∧ some b ≠ v.ownBlock) w u c) (hL : L.length ≤ 200) (hm : ∀ m ∈ c, m.natAbs ≤ 6) :
    Calls Tryz.prog 104 #[v, u] w fun e w' => ∃ v', e = .returned v' ∧ Own2 S K w' v' (withC L c) ∧ w.grownBy w' v.ownBlock := by
  obtain ⟨i0, hi, hz0, hz1, hz2⟩ := info_parts infoS
  obtain ⟨ao, acap, rfl, _⟩ := hu.slice
  obtain ⟨w1, hw1⟩ : ∃ w1, w1 = w.alloc (.cells #[.slice ao c.length acap] 23) := ⟨_, rfl⟩
  have HB1 : Hid (Below w.heap.size w w1 ∧ w.heap.size < w1.heap.size) := by unfold Hid; rw [hw1]; exact ⟨below_alloc1 _ _, by simp⟩
  have HP : Hid (∀ W, Below w1.heap.size w1 W → W.cell? ⟨w.heap.size, 0, none⟩ = some (.slice ao c.length acap)) := fun W hW => by
    rw [hW.cell (show (⟨w.heap.size, 0, none⟩ : Addr).block < _ from HB1.out.2), hw1]; simp
  have HRu : Hid (∀ W, Below w1.heap.size w1 W → RS (fun b => (S b ∨ K ≤ b) ∧ some b ≠ v.ownBlock) W (.slice ao c.length acap) c) := fun W hW => (hu.kept (Kept.of_below HB1.out.1)).kept (Kept.of_below hW)
  have HO : Hid (∀ W, Below w1.heap.size w1 W → Own2 S K W v L) := fun W hW => (hown.below HB1.out.1).below hW
  have e1 : ∀ args w, (callFunc 133 args).run Tryz.prog w = .ok (.enter 133 args) w := enters_of Tryz.func133 (by kernel_rfl) rfl
  have e2 : ∀ args w, (callFunc 135 args).run Tryz.prog w = .ok (.enter 135 args) w := enters_of Tryz.func135 (by kernel_rfl) rfl
  have HA1 : Hid (∀ W, Below w1.heap.size w1 W → Calls Tryz.prog 45 #[.slice ao c.length acap, .func (.func 133) #[] #[.pointer (some ⟨w.heap.size, 0, none⟩)]] W fun e w' => e = .returned (.bool (bothWays c)) ∧ Below W.heap.size W w') := fun W hW =>
    anyI c _ w.heap.size _ (fun m => c.contains (-m)) W (HRu.out W hW).reads e1 (fun W' m hW' hmc => turns_any c _ w.heap.size m W' (hm m hmc) (HP.out W' (hW.trans (hW'.mono hW.size))) (HRu.out W' (hW.trans (hW'.mono hW.size))).reads)
  have HA2 : Hid (∀ W, Below w1.heap.size w1 W → Calls Tryz.prog 137 #[v, .func (.func 135) #[] #[.pointer (some ⟨w.heap.size, 0, none⟩)]] W fun e w' => e = .returned (.bool (L.contains c)) ∧ Below W.heap.size W w') := fun W hW => by
    rw [← any_beq]
    exact anyL _ L v w.heap.size _ (fun t => t == c) W ((HO.out W hW).reads (by omega)) e2 (fun W' x t hW' _ hx => sameC_any t c x _ w.heap.size W' (HP.out W' (hW.trans (hW'.mono hW.size))) hx (HRu.out W' (hW.trans (hW'.mono hW.size))).reads)
  clear e1 e2 hm hu
  obtain ⟨vo, vcap, hvf⟩ : ∃ vo vcap, v = .slice vo L.length vcap := by
    obtain ⟨xs, h1, _⟩ := hown
    rcases h1.2 with ⟨rfl, h0⟩ | ⟨g, cap, cur, rfl, _⟩
    · exact ⟨none, 0, by rw [h0]⟩
    · exact ⟨_, cap, rfl⟩
  clear hown
  obtain ⟨n, hn⟩ : ∃ n, n = c.length := ⟨_, rfl⟩
  rw [← hn] at hw1 HP HRu HA1 ⊢
  clear hn
  obtain ⟨B1, hB1⟩ : ∃ B1, B1 = bothWays c := ⟨_, rfl⟩
  obtain ⟨B2, hB2⟩ : ∃ B2, B2 = L.contains c := ⟨_, rfl⟩
  have HWC : Hid (withC L c = if (B1 || B2) = true then L else L ++ [c]) := by unfold Hid withC; rw [hB1, hB2]
  rw [← hB1] at HA1
  rw [← hB2] at HA2
  clear hB1 hB2
  obtain ⟨l, hl⟩ : ∃ l, l = L.length := ⟨_, rfl⟩
  have HLl : Hid (l = L.length ∧ l ≤ 200) := ⟨hl, by omega⟩
  rw [← hl] at hvf
  clear hl hL
  subst hvf
  have p0 := HP.out w1 (Below.refl _ _)
  rw [hw1] at p0
  go_enter Tryz.func104, Tryz.ntmps104
  go_wp2_with fail
  rw [← hw1]
  clear hw1 p0
  go_at_call 45
  refine (HA1.out w1 (Below.refl _ _)).mono ?_
  rintro e w2 ⟨rfl, hb⟩
  have HB2 : Hid (Below w1.heap.size w1 w2) := hb
  clear hb
  cases B1 with
  | true =>
    have HE : Hid (withC L c = L) := by unfold Hid; rw [HWC.out]; rfl
    go_wp2
    go_ret
    exact ⟨_, rfl, by rw [HE.out]; exact HO.out w2 HB2.out, grown_of_below (HB1.out.1.trans (HB2.out.mono HB1.out.1.size))⟩
  | false =>
    go_wp2_with fail
    go_at_call 137
    refine (HA2.out w2 HB2.out).mono ?_
    rintro e w3 ⟨rfl, hb⟩
    have HB3 : Hid (Below w1.heap.size w1 w3) := HB2.out.trans (hb.mono HB2.out.size)
    clear hb HA1 HA2
    cases B2 with
    | true =>
      have HE : Hid (withC L c = L) := by unfold Hid; rw [HWC.out]; rfl
      go_wp2
      go_ret
      exact ⟨_, rfl, by rw [HE.out]; exact HO.out w3 HB3.out, grown_of_below (HB1.out.1.trans (HB3.out.mono HB1.out.1.size))⟩
    | false =>
      have HE : Hid (withC L c = L ++ [c]) := by unfold Hid; rw [HWC.out]; rfl
      have p0 := HP.out w3 HB3.out
      obtain ⟨w4, hw4⟩ : ∃ w4, w4 = w3.alloc (.cells #[.slice ao n acap] 23) := ⟨_, rfl⟩
      have HB4 : Hid (Below w1.heap.size w1 w4 ∧ Below w.heap.size w w4) := by
        have : Below w1.heap.size w1 w4 := by rw [hw4]; exact HB3.out.trans ((below_alloc1 _ _).mono HB3.out.size)
        exact ⟨this, HB1.out.1.trans (this.mono HB1.out.1.size)⟩
      obtain ⟨xs, ho, hx⟩ := HO.out w4 HB4.out.1
      rw [← HLl.out.1] at ho
      have HOx : Hid (w4.ownsRow K 23 1 (.slice vo l vcap) l xs) := ho
      have HX : Hid (∀ (k : Nat) t, L[k]? = some t → ∃ u, xs[k]? = some u ∧ RS (fun b => (S b ∨ K ≤ b) ∧ some b ≠ (Value.slice vo l vcap).ownBlock) w4 u t) := hx
      have hca : w4.cell? ((⟨w3.heap.size, 0, none⟩ : Addr).add 0) = some (.slice ao n acap) := by rw [hw4]; simp [Addr.add]
      have HCa : Hid (∀ j u, ([Value.slice ao n acap] : List Value)[j]? = some u → w4.cell? ((⟨w3.heap.size, 0, none⟩ : Addr).add j) = some u) := fun j u hu => by
        match j, hu with
        | 0, hu => simp at hu; subst hu; exact hca
      have HS4 : Hid (w4.heap.size = w3.heap.size + 1 ∧ K ≤ w4.heap.size) := ⟨by rw [hw4]; simp, by have := HB4.out.2.size; omega⟩
      clear ho hx hca
      go_wp2_with (first | (at_builtin; rw [← hw4]; refine wpList_append_lies _ rfl (.tmp 18) (.tmp 20) 27 rfl K 23 i0 (.slice none 0 0) 1 24 Tryz.underlying27 hi hz0 hz1 hz2 rfl (by decide) (.slice vo l vcap) l xs rfl HOx.out ⟨w3.heap.size, 0, none⟩ 1 1 [.slice ao n acap] rfl rfl HCa.out (by intro y hy; simp at hy; subst hy; rfl) (by decide) ?d3 ?d4 HS4.out.2 w4.heap.size rfl ?_))
      case d3 => have := HLl.out.2; unfold maxLen; omega
      case d4 => have := HLl.out.2; omega
      intro g cap w5 hown hgrow hat hlt
      have HG : Hid (w4.grownBy w5 (Value.slice vo l vcap).ownBlock) := by first | exact hgrow | (rw [hw4]; exact hgrow)
      have HAt : Hid ((Value.slice vo l vcap).ownBlock = some g ∨ g = w4.heap.size) := by first | exact hat | (rw [HS4.out.1]; exact hat)
      have HRr : Hid (Own2 S K w5 (.slice (some ⟨g, 0, none⟩) (l + 1) cap) (L ++ [c])) := by
        have h1 := HOx.out
        have e := HLl.out.1
        unfold Hid
        subst e
        exact Own2.push h1 HX.out (HRu.out w4 HB4.out.1) (by simpa using hown) HG.out HAt.out
      clear hown hgrow hat hlt
      go_wp2
      go_ret
      exact ⟨_, rfl, by rw [HE.out]; exact HRr.out, grown_trans (grown_of_below HB4.out.2) HG.out⟩
end Go.Proofs.YtjaedfjfcghgcabGreatDoor


namespace Go.Proofs.YtjaedfjfcghgcabGreatDoor
open Go.ChangeShapes Go.WideShapes Go.ChangeAt Go.RowKit
set_option maxRecDepth 100000

/-- cubes in new memory, or that they are too many. -/
def OutC (S : Nat → Prop) (K : Nat) (w : World) (e : Ending) (o : Option (List (List Int))) : Prop :=
  match o with
  | none => e = .returned (.tuple #[.slice none 0 0, .iface 75 (.int .i64 4)])
  | some L => ∃ v, e = .returned (.tuple #[v, .nilIface]) ∧ RS2 (fun b => S b ∨ K ≤ b) w v L
theorem RS2.cellAt {S : Nat → Prop} {w : World} {v : Value} {L : List (List Int)} (h : RS2 S w v L) {b off n cap : Nat} (hv : v = .slice (some ⟨b, off, none⟩) n cap) {k : Nat} (hk : k < L.length) : ∃ o l cp, w.cell? ⟨b, off + k, none⟩ = some (.slice o l cp) ∧ RS S w (.slice o l cp) (L.getD k []) := by
  rcases h with ⟨_, _, _, rfl⟩ | ⟨b', off', cap', hv', _, _, _, hc⟩
  · simp at hk
  · rw [hv] at hv'
    cases hv'
    obtain ⟨u, hu, hr⟩ := hc k _ (List.getElem?_eq_getElem hk)
    obtain ⟨o, cp, rfl, _⟩ := hr.slice
    refine ⟨o, _, cp, hu, ?_⟩
    rw [List.getD_eq_getElem?_getD, List.getElem?_eq_getElem hk]; exact hr
theorem RS2.always {S : Nat → Prop} {w : World} {v : Value} {L : List (List Int)} {K : Nat} (h : RS2 S w v L) (hK : K = w.heap.size) {b off n cap : Nat} (hv : v = .slice (some ⟨b, off, none⟩) n cap) {k : Nat} (hk : k < L.length) : ∃ o l cp, ∀ W, Below K w W → W.cell? ⟨b, off + k, none⟩ = some (.slice o l cp) ∧ Reads W (.slice o l cp) (L.getD k []) := by
  obtain ⟨o, l, cp, hc, hr⟩ := h.cellAt hv hk
  subst hK
  refine ⟨o, l, cp, fun W hW => ⟨?_, hr.reads.below hW⟩⟩
  have hb : b < w.heap.size := by
    rcases h with ⟨_, _, _, rfl⟩ | ⟨b', off', cap', hv', hB, _⟩
    · simp at hk
    · rw [hv] at hv'; cases hv'; exact hB.2
  rw [hW.cell (show (⟨b, off + k, none⟩ : Addr).block < _ from hb)]; exact hc
theorem RS2.form {S : Nat → Prop} {w : World} {v : Value} {L : List (List Int)} (h : RS2 S w v L) (h0 : 0 < L.length) : ∃ b off cap, v = .slice (some ⟨b, off, none⟩) L.length cap := by
  rcases h with ⟨_, _, _, rfl⟩ | ⟨b', off', cap', hv', _⟩
  · simp at h0
  · exact ⟨_, _, _, hv'⟩
theorem Own2.form {S : Nat → Prop} {K : Nat} {w : World} {v : Value} {L : List (List Int)} (h : Own2 S K w v L) : ∃ o cap, v = .slice o L.length cap := by
  obtain ⟨xs, h1, _⟩ := h
  rcases h1.2 with ⟨rfl, h0⟩ | ⟨g, cap, cur, rfl, _⟩
  · exact ⟨none, 0, by rw [h0]⟩
  · exact ⟨_, cap, rfl⟩
theorem takeL_succ (t : List (List Int)) {k : Nat} (h : k < t.length) : t.take (k + 1) = t.take k ++ [t.getD k []] := by
  rw [List.take_add_one]; simp [List.getElem?_eq_getElem h]
theorem dropL (t : List (List Int)) {k : Nat} (h : k < t.length) : t.drop k = t.getD k [] :: t.drop (k + 1) := by
  rw [List.drop_eq_getElem_cons h]; simp [List.getElem?_eq_getElem h]
/-- what there is behind i cubes of the first. -/
def rowsC (A B : List (List Int)) (i : Nat) : List (List Int) := (A.take i).foldl (andR B) []
/-- .. and k of the second with the next. -/
def rowC (A B : List (List Int)) (i k : Nat) : List (List Int) := (B.take k).foldl (andS (A.getD i [])) (rowsC A B i)
theorem rowC_succ (A B : List (List Int)) (i : Nat) {k : Nat} (h : k < B.length) : rowC A B i (k + 1) = andS (A.getD i []) (rowC A B i k) (B.getD k []) := by
  unfold rowC; rw [takeL_succ B h, List.foldl_append]; rfl
theorem rowsC_succ (A B : List (List Int)) {i : Nat} (h : i < A.length) : rowsC A B (i + 1) = rowC A B i B.length := by
  unfold rowsC rowC; rw [takeL_succ A h, List.foldl_append, List.take_length]; rfl
theorem rowsC_all (A B : List (List Int)) : rowsC A B A.length = andC A B := by unfold rowsC andC; rw [List.take_length]
theorem rowC_len (A B : List (List Int)) {i k : Nat} (hi : i < A.length) : (rowC A B i k).length ≤ (andC A B).length := by
  have e1 : andR B (rowsC A B i) (A.getD i []) = (B.drop k).foldl (andS (A.getD i [])) (rowC A B i k) := by
    unfold andR rowC
    rw [← List.foldl_append, List.take_append_drop]
  have e2 : andC A B = (A.drop (i + 1)).foldl (andR B) (andR B (rowsC A B i) (A.getD i [])) := by
    unfold andC rowsC
    rw [← List.foldl_cons (f := andR B), ← dropL A hi, ← List.foldl_append, List.take_append_drop]
  rw [e2, e1]
  exact Nat.le_trans (andR_len (B.drop k) _ _) (andF_len _ _ _)
theorem capC_big {L : List (List Int)} (h : 40 < L.length) : capC L = none := by unfold capC; rw [if_pos h]
theorem capC_small {L : List (List Int)} (h : L.length ≤ 40) : capC L = some L := by unfold capC; rw [if_neg (by omega)]
theorem mem_getD {A : List (List Int)} {k : Nat} (h : k < A.length) : A.getD k [] ∈ A := by
  rw [List.getD_eq_getElem?_getD, List.getElem?_eq_getElem h]; exact List.getElem_mem h

set_option maxHeartbeats 8000000 in
theorem both_cubes (S : Nat → Prop) (va vb : Value) (A B : List (List Int)) (M : Nat) (hM : M ≤ 6) (w : World) (hA : ∀ c ∈ A, cubeOk M c) (hB : ∀ c ∈ B, cubeOk M c) (hRA : RS2 S w va A) (hRB : RS2 S w vb B) :
    Calls Tryz.prog 66 #[va, vb] w fun e w' => OutC S w.heap.size w' e (capC (andC A B)) ∧ Below w.heap.size w w' := by
  obtain ⟨ao, acap, hav, ha63⟩ := hRA.slice
  obtain ⟨bo, bcap, hbv, hb63⟩ := hRB.slice
  obtain ⟨K, hK⟩ : ∃ K, K = w.heap.size := ⟨_, rfl⟩
  have HK : Hid (K = w.heap.size) := hK
  have HA : Hid (∀ k b off, k < A.length → ao = some ⟨b, off, none⟩ → ∃ o l cp, ∀ W, Below K w W → W.cell? ⟨b, off + k, none⟩ = some (.slice o l cp) ∧ Reads W (.slice o l cp) (A.getD k [])) := fun k b off hk e => hRA.always hK (by rw [hav, e]) hk
  have HB : Hid (∀ k b off, k < B.length → bo = some ⟨b, off, none⟩ → ∃ o l cp, ∀ W, Below K w W → W.cell? ⟨b, off + k, none⟩ = some (.slice o l cp) ∧ Reads W (.slice o l cp) (B.getD k [])) := fun k b off hk e => hRB.always hK (by rw [hbv, e]) hk
  have HAf : Hid (0 < A.length → ∃ b off, ao = some ⟨b, off, none⟩) := fun h0 => by
    obtain ⟨b, off, cap, e⟩ := hRA.form h0
    rw [hav] at e; cases e; exact ⟨b, off, rfl⟩
  have HBf : Hid (0 < B.length → ∃ b off, bo = some ⟨b, off, none⟩) := fun h0 => by
    obtain ⟨b, off, cap, e⟩ := hRB.form h0
    rw [hbv] at e; cases e; exact ⟨b, off, rfl⟩
  have HJ : Hid (∀ i k W vc vd, i < A.length → k < B.length → Reads W vc (A.getD i []) → Reads W vd (B.getD k []) → Calls Tryz.prog 105 #[vc, vd] W fun e w' => ∃ v r, e = .returned v ∧ RS (fun b => W.heap.size ≤ b) w' v r ∧ ((∀ m, m ∈ r ↔ m ∈ A.getD i [] ++ B.getD k []) ∧ (bothWays (A.getD i [] ++ B.getD k []) = false → r = joinC (A.getD i []) (B.getD k []))) ∧ Below W.heap.size W w') := fun i k W vc vd hi hk h1 h2 => joined_any vc vd (A.getD i []) (B.getD k []) M hM W (hA _ (mem_getD hi)) (hB _ (mem_getD hk)) h1 h2
  have HMm : Hid (∀ i k, i < A.length → k < B.length → ∀ m ∈ A.getD i [] ++ B.getD k [], m.natAbs ≤ 6) := fun i k hi hk m hm => by
    rcases List.mem_append.1 hm with h | h
    · have := (hA _ (mem_getD hi)).1 m h; omega
    · have := (hB _ (mem_getD hk)).1 m h; omega
  subst hav hbv
  rw [← hK]
  clear hRA hRB hA hB hK
  obtain ⟨na, hna⟩ : ∃ na, na = A.length := ⟨_, rfl⟩
  obtain ⟨nb, hnb⟩ : ∃ nb, nb = B.length := ⟨_, rfl⟩
  rw [← hna] at ha63 ⊢
  rw [← hnb] at hb63 ⊢
  have HN : Hid (na = A.length ∧ nb = B.length) := ⟨hna, hnb⟩
  clear hna hnb
  go_enter Tryz.func66, Tryz.ntmps66
  go_wp2_with fail
  go_loopw [6, 8, 10, 13] (fun v _ _ i wr => ∃ k : Nat, k ≤ na ∧ i = .int .i64 k ∧ Own2 S K wr v (rowsC A B k) ∧ (rowsC A B k).length ≤ 40 ∧ Below K w wr ∧ K ≤ wr.heap.size) (fun _ _ _ i _ => na - (intOf i).toNat)
  case atStart => exact ⟨0, Nat.zero_le _, rfl, Own2.nil _ _ _, by simp [rowsC], Below.refl _ _, by rw [HK.out]; exact Nat.le_refl _⟩
  case round =>
    obtain ⟨i, hi, rfl, hown, hlen, hbel, hKw⟩ := hrel
    have HO : Hid (Own2 S K wr u6 (rowsC A B i) ∧ (rowsC A B i).length ≤ 40 ∧ Below K w wr ∧ K ≤ wr.heap.size) := ⟨hown, hlen, hbel, hKw⟩
    clear hown hlen hbel hKw
    by_cases hlt : i < na
    · have hiA : i < A.length := by rw [← HN.out.1]; exact hlt
      obtain ⟨ab, aoff, rfl⟩ := HAf.out (by omega)
      obtain ⟨co, cl, ccp, hall⟩ := HA.out i ab aoff hiA rfl
      have hcell := (hall wr HO.out.2.2.1).1
      have hltz : (i : Int) < (na : Int) := by omega
      have HCr : Hid (∀ W, Below K w W → Reads W (.slice co cl ccp) (A.getD i [])) := fun W hW => (hall W hW).2
      have HIA : Hid (i < A.length) := hiA
      clear hall hiA
      go_wp2_with fail
      go_loopw [6, 10, 19] (fun v _ j wq => ∃ k : Nat, k ≤ nb ∧ j = .int .i64 k ∧ Own2 S K wq v (rowC A B i k) ∧ (rowC A B i k).length ≤ 40 ∧ Below K w wq ∧ K ≤ wq.heap.size) (fun _ _ j _ => nb - (intOf j).toNat)
      case atStart => exact ⟨0, Nat.zero_le _, rfl, HO.out.1, HO.out.2.1, HO.out.2.2.1, HO.out.2.2.2⟩
      case round =>
        obtain ⟨k, hk, rfl, hown, hlen, hbel, hKw⟩ := hrel
        have HI : Hid (Own2 S K wr u6 (rowC A B i k) ∧ (rowC A B i k).length ≤ 40 ∧ Below K w wr ∧ K ≤ wr.heap.size) := ⟨hown, hlen, hbel, hKw⟩
        clear hown hlen hbel hKw
        by_cases hltb : k < nb
        · have hkB : k < B.length := by rw [← HN.out.2]; exact hltb
          obtain ⟨bb, boff, rfl⟩ := HBf.out (by omega)
          obtain ⟨eo, el, ecp, hall⟩ := HB.out k bb boff hkB rfl
          obtain ⟨hcell2, hdr⟩ := hall wr HI.out.2.2.1
          have hltz2 : (k : Int) < (nb : Int) := by omega
          have HJ1 : Hid (Calls Tryz.prog 105 #[.slice co cl ccp, .slice eo el ecp] wr fun e w' => ∃ v r, e = .returned v ∧ RS (fun b => wr.heap.size ≤ b) w' v r ∧ ((∀ m, m ∈ r ↔ m ∈ A.getD i [] ++ B.getD k []) ∧ (bothWays (A.getD i [] ++ B.getD k []) = false → r = joinC (A.getD i []) (B.getD k []))) ∧ Below wr.heap.size wr w') := HJ.out i k wr (.slice co cl ccp) (.slice eo el ecp) HIA.out hkB (HCr.out wr HI.out.2.2.1) hdr
          have HKB : Hid (k < B.length) := hkB
          clear hdr hkB hall
          go_wp2_with fail
          go_at_call 105
          refine HJ1.out.mono ?_
          rintro e w2 ⟨v2, r, rfl, hr, hjr, hb2⟩
          obtain ⟨ro, rcp, rfl, _⟩ := hr.slice
          have HW : Hid (Calls Tryz.prog 104 #[u6, .slice ro r.length rcp] w2 fun e w' => ∃ v', e = .returned v' ∧ Own2 S K w' v' (rowC A B i (k + 1)) ∧ w2.grownBy w' u6.ownBlock) := by
            have h := with_any S K u6 (.slice ro r.length rcp) (rowC A B i k) r w2 (by have := hb2.size; have := HI.out.2.2.2; omega) (HI.out.1.below hb2) (hr.mono fun b _ hb => ⟨Or.inr (Nat.le_trans HI.out.2.2.2 hb), fun e => by have := (HI.out.1.lt b e.symm).2; omega⟩) (by have := HI.out.2.1; omega) (fun m hm => HMm.out i k HIA.out HKB.out m ((hjr.1 m).1 hm))
            have e1 : withC (rowC A B i k) r = rowC A B i (k + 1) := by
              rw [rowC_succ A B i HKB.out]
              exact with_is hjr.1 hjr.2
            rw [e1] at h
            exact h
          have HB2 : Hid (Below K w w2 ∧ Below wr.heap.size wr w2 ∧ K ≤ w2.heap.size) := ⟨HI.out.2.2.1.trans (hb2.mono HI.out.2.2.2), hb2, by have := hb2.size; have := HI.out.2.2.2; omega⟩
          obtain ⟨rl, hrl⟩ : ∃ rl, rl = r.length := ⟨_, rfl⟩
          rw [← hrl] at HW ⊢
          clear hr hjr hb2 HJ1 hrl
          go_wp2_with fail
          go_at_call 104
          refine HW.out.mono ?_
          rintro e w3 ⟨v3, rfl, hown3, hgr⟩
          have HB3 : Hid (Below K w w3 ∧ K ≤ w3.heap.size) := ⟨HB2.out.1.grown hgr HB2.out.2.2 (fun j hj => (HI.out.1.lt j hj).1), by have := hgr.size; have := HB2.out.2.2; omega⟩
          obtain ⟨o3, c3, rfl⟩ := hown3.form
          have HO3 : Hid (Own2 S K w3 (.slice o3 (rowC A B i (k + 1)).length c3) (rowC A B i (k + 1))) := hown3
          have HLe : Hid ((rowC A B i (k + 1)).length ≤ (andC A B).length) := rowC_len A B HIA.out
          obtain ⟨l3, hl3⟩ : ∃ l3, l3 = (rowC A B i (k + 1)).length := ⟨_, rfl⟩
          rw [← hl3] at HO3 HLe ⊢
          have HL3 : Hid (l3 = (rowC A B i (k + 1)).length) := hl3
          clear hown3 hgr HW hl3
          by_cases h40 : 40 < l3
          · have h40z : (40 : Int) < (l3 : Int) := by omega
            have HE : Hid (capC (andC A B) = none) := capC_big (by have := HLe.out; omega)
            go_wp2
            go_ret2
            refine ⟨?_, HB3.out.1⟩
            rw [HE.out]; rfl
          · have h40z : ¬ (40 : Int) < (l3 : Int) := by omega
            go_wp2
            go_roundw
            case rel => exact ⟨k + 1, by omega, by go_num, HO3.out, by have := HL3.out; omega, HB3.out.1, HB3.out.2⟩
            case measure => simp [intOf]; omega
        · have hltz2 : ¬ (k : Int) < (nb : Int) := by omega
          have HE : Hid (rowsC A B (i + 1) = rowC A B i k) := by
            unfold Hid
            rw [rowsC_succ A B HIA.out, show B.length = k by have := HN.out.2; omega]
          go_wp2
          go_roundw
          case rel => exact ⟨i + 1, by omega, by go_num, by rw [HE.out]; exact HI.out.1, by rw [HE.out]; exact HI.out.2.1, HI.out.2.2.1, HI.out.2.2.2⟩
          case measure => simp [intOf]; omega
    · have hltz : ¬ (i : Int) < (na : Int) := by omega
      have HE : Hid (rowsC A B i = andC A B) := by
        unfold Hid
        rw [← rowsC_all, show A.length = i by have := HN.out.1; omega]
      go_wp2
      go_ret2
      refine ⟨?_, HO.out.2.2.1⟩
      have h1 := HO.out.1
      have h2 := HO.out.2.1
      rw [HE.out] at h1 h2
      rw [capC_small h2]
      exact ⟨_, rfl, h1.reads (by omega)⟩
end Go.Proofs.YtjaedfjfcghgcabGreatDoor


namespace Go.Proofs.YtjaedfjfcghgcabGreatDoor
open Go.ChangeShapes Go.WideShapes Go.ChangeAt Go.RowKit
set_option maxRecDepth 100000

theorem turnC_succ (c : List Int) {k : Nat} (h : k < c.length) : turnC (c.take (k + 1)) = turnC (c.take k) ++ [[-(c.getD k 0)]] := by
  unfold turnC; rw [takeF_succ c h]; simp

set_option maxHeartbeats 4000000 in
theorem turned_any (v : Value) (c : List Int) (M : Nat) (hM : M ≤ 6) (w : World) (hc : cubeOk M c) (hv : Reads w v c) :
    Calls Tryz.prog 107 #[v] w fun e w' => ∃ v', e = .returned v' ∧ RS2 (fun b => w.heap.size ≤ b) w' v' (turnC c) ∧ Below w.heap.size w w' := by
  obtain ⟨i0, hi, hz0, hz1, hz2⟩ := info_parts infoS
  have hl := cube_len hc
  have HM : Hid (∀ k, k < c.length → (c.getD k 0).natAbs ≤ 6) := fun k hk => by
    have := (hc.1 (c.getD k 0) (by rw [List.getD_eq_getElem?_getD, List.getElem?_eq_getElem hk]; exact List.getElem_mem hk)).2
    omega
  obtain ⟨ao, acap, rfl, _⟩ := (hv.rs (S := fun _ => True) (fun _ _ => trivial)).slice
  obtain ⟨K, hK⟩ : ∃ K, K = w.heap.size := ⟨_, rfl⟩
  have HK : Hid (K = w.heap.size) := hK
  have HC : Hid (∀ W, Below K w W → ∀ k, k < c.length → ∃ b off, ao = some ⟨b, off, none⟩ ∧ W.cell? ⟨b, off + k, none⟩ = some (.int .i64 (c.getD k 0))) := fun W hW k hk => by
    rcases hv with ⟨_, _, hv, rfl⟩ | ⟨b, off, cap, hv, hB, _, _, hcs⟩
    · simp at hk
    · cases hv
      exact ⟨b, off, rfl, by rw [hW.cell (show (⟨b, off + k, none⟩ : Addr).block < _ by rw [hK]; exact hB)]; exact hcs k hk⟩
  rw [← hK]
  clear hv hK
  obtain ⟨n, hn⟩ : ∃ n, n = c.length := ⟨_, rfl⟩
  rw [← hn] at hl ⊢
  have HN : Hid (n = c.length) := hn
  clear hn hc
  go_enter Tryz.func107, Tryz.ntmps107
  go_wp2_with fail
  go_loopw [3, 5, 8] (fun v _ i wr => ∃ k : Nat, k ≤ n ∧ i = .int .i64 k ∧ Own2 (fun _ => False) K wr v (turnC (c.take k)) ∧ Below K w wr ∧ K ≤ wr.heap.size) (fun _ _ i _ => n - (intOf i).toNat)
  case atStart => exact ⟨0, Nat.zero_le _, rfl, Own2.nil _ _ _, Below.refl _ _, by rw [HK.out]; exact Nat.le_refl _⟩
  case round =>
    obtain ⟨k, hk, rfl, hown, hbel, hKw⟩ := hrel
    have HI : Hid (Own2 (fun _ => False) K wr u3 (turnC (c.take k)) ∧ Below K w wr ∧ K ≤ wr.heap.size) := ⟨hown, hbel, hKw⟩
    clear hown hbel hKw
    by_cases hlt : k < n
    · have hkc : k < c.length := by rw [← HN.out]; exact hlt
      obtain ⟨b, off, rfl, hcell⟩ := HC.out wr HI.out.2.1 k hkc
      have hm := HM.out k hkc
      have HE : Hid (turnC (c.take (k + 1)) = turnC (c.take k) ++ [[-(c.getD k 0)]]) := turnC_succ c hkc
      obtain ⟨m, hmd⟩ : ∃ m, m = c.getD k 0 := ⟨_, rfl⟩
      rw [← hmd] at hcell hm HE
      clear hmd hkc
      have m1 : -9223372036854775808 ≤ -m := by omega
      have m2 : -m ≤ 9223372036854775807 := by omega
      have hltz : (k : Int) < (n : Int) := by omega
      obtain ⟨w2, hw2⟩ : ∃ w2, w2 = wr.alloc (.cells #[.int .i64 (-m)] 3) := ⟨_, rfl⟩
      obtain ⟨w3, hw3⟩ : ∃ w3, w3 = w2.alloc (.cells #[.slice (some ⟨wr.heap.size, 0, none⟩) 1 1] 23) := ⟨_, rfl⟩
      have hs2 : w2.heap.size = wr.heap.size + 1 := by rw [hw2]; simp
      have HB3 : Hid (Below wr.heap.size wr w3 ∧ w3.heap.size = wr.heap.size + 2) := by
        refine ⟨?_, by rw [hw3]; simp [hs2]⟩
        rw [hw3]
        exact (by rw [hw2]; exact below_alloc1 _ _ : Below wr.heap.size wr w2).trans ((below_alloc1 _ _).mono (by omega))
      have HU : Hid (RS (fun b => ((fun _ => False) b ∨ K ≤ b) ∧ some b ≠ u3.ownBlock) w3 (.slice (some ⟨wr.heap.size, 0, none⟩) 1 1) [-m]) := by
        refine Or.inr ⟨wr.heap.size, 0, 1, rfl, ⟨⟨Or.inr HI.out.2.2, fun e => by have := (HI.out.1.lt _ e.symm).2; omega⟩, by have := HB3.out.2; omega⟩, by simp, ⟨by simp, by simp⟩, fun j hj => ?_⟩
        have hj0 : j = 0 := by simpa using hj
        subst hj0
        rw [hw3, World.cell?_alloc_lt _ _ ⟨wr.heap.size, 0 + 0, none⟩ (by simp; omega), hw2]
        simp
      obtain ⟨xs, ho, hx⟩ := HI.out.1.below HB3.out.1
      obtain ⟨l, hl'⟩ : ∃ l, l = (turnC (c.take k)).length := ⟨_, rfl⟩
      have HLl : Hid (l = (turnC (c.take k)).length ∧ l ≤ 6) := ⟨hl', by rw [hl']; unfold turnC; simp; omega⟩
      obtain ⟨vo, vcap, hvf⟩ := HI.out.1.form
      rw [← hl'] at ho hvf
      clear hl'
      subst hvf
      have HOx : Hid (w3.ownsRow K 23 1 (.slice vo l vcap) l xs) := ho
      have HX : Hid (∀ (j : Nat) t, (turnC (c.take k))[j]? = some t → ∃ u, xs[j]? = some u ∧ RS (fun b => ((fun _ => False) b ∨ K ≤ b) ∧ some b ≠ (Value.slice vo l vcap).ownBlock) w3 u t) := hx
      have hca : w3.cell? ((⟨w2.heap.size, 0, none⟩ : Addr).add 0) = some (.slice (some ⟨wr.heap.size, 0, none⟩) 1 1) := by rw [hw3]; simp [Addr.add]
      have HCa : Hid (∀ j u, ([Value.slice (some ⟨wr.heap.size, 0, none⟩) 1 1] : List Value)[j]? = some u → w3.cell? ((⟨wr.heap.size + 1, 0, none⟩ : Addr).add j) = some u) := fun j u hu => by
        match j, hu with
        | 0, hu => simp at hu; subst hu; rw [← hs2]; exact hca
      have HS3 : Hid (K ≤ w3.heap.size) := by have := HB3.out.2; have := HI.out.2.2; unfold Hid; omega
      have HW3 : Hid ((wr.alloc (.cells #[.int .i64 (-m)] 3)).alloc (.cells #[.slice (some ⟨wr.heap.size, 0, none⟩) 1 1] 23) = w3) := by unfold Hid; rw [hw3, hw2]
      clear ho hx hca hw2 hw3
      go_wp2_with (first | (at_builtin; rw [HW3.out]; refine wpList_append_lies _ rfl (.tmp 12) (.tmp 16) 27 rfl K 23 i0 (.slice none 0 0) 1 24 Tryz.underlying27 hi hz0 hz1 hz2 rfl (by decide) (.slice vo l vcap) l xs rfl HOx.out ⟨wr.heap.size + 1, 0, none⟩ 1 1 [.slice (some ⟨wr.heap.size, 0, none⟩) 1 1] rfl rfl HCa.out (by intro y hy; simp at hy; subst hy; rfl) (by decide) ?d3 ?d4 HS3.out w3.heap.size rfl ?_))
      case d3 => have := HLl.out.2; unfold maxLen; omega
      case d4 => have := HLl.out.2; omega
      intro g cap w5 hown hgrow hat hlt5
      have HR : Hid (Own2 (fun _ => False) K w5 (.slice (some ⟨g, 0, none⟩) (l + 1) cap) (turnC (c.take (k + 1)))) := by
        unfold Hid
        rw [HE.out]
        have h1 := HOx.out
        have h2 := HX.out
        have h3 := HU.out
        have e := HLl.out.1
        subst e
        exact Own2.push h1 h2 h3 (by simpa using hown) hgrow hat
      have HB5 : Hid (Below K w w5 ∧ K ≤ w5.heap.size) := by
        refine ⟨(HI.out.2.1.trans (HB3.out.1.mono HI.out.2.2)).grown hgrow HS3.out (fun j hj => (HOx.out.lt j hj).1), ?_⟩
        have := hgrow.size; have := HS3.out; omega
      clear hown hgrow hat hlt5
      go_wp2
      go_roundw
      case rel => exact ⟨k + 1, by omega, by go_num, HR.out, HB5.out.1, HB5.out.2⟩
      case measure => simp [intOf]; omega
    · have hltz : ¬ (k : Int) < (n : Int) := by omega
      have HE : Hid (c.take k = c) := List.take_of_length_le (by have := HN.out; omega)
      go_wp2
      go_ret
      refine ⟨_, rfl, ?_, HI.out.2.1⟩
      have h := HI.out.1
      rw [HE.out] at h
      exact (h.reads (by unfold turnC; simp; have := HN.out; omega)).mono fun b _ hb => hb.resolve_left id
theorem noC_append (a b out : List (List Int)) : noC (a ++ b) out = (noC a out).bind (noC b) := by
  induction a generalizing out with
  | nil => rfl
  | cons c l ih =>
    show (capC (andC out (turnC c))).bind (noC (l ++ b)) = ((capC (andC out (turnC c))).bind (noC l)).bind (noC b)
    cases capC (andC out (turnC c)) with
    | none => rfl
    | some x => exact ih x
theorem noC_succ (L : List (List Int)) {k : Nat} (h : k < L.length) {O : List (List Int)} (hO : noC (L.take k) [[]] = some O) : noC (L.take (k + 1)) [[]] = capC (andC O (turnC (L.getD k []))) := by
  rw [takeL_succ L h, noC_append, hO]
  show (capC (andC O (turnC (L.getD k [])))).bind (noC []) = _
  cases capC (andC O (turnC (L.getD k []))) <;> rfl
theorem noC_none {L : List (List Int)} {k : Nat} (h : noC (L.take k) [[]] = none) : noC L [[]] = none := by
  have : noC (L.take k ++ L.drop k) [[]] = none := by rw [noC_append, h]; rfl
  rwa [List.take_append_drop] at this

set_option maxHeartbeats 4000000 in
theorem none_cubes (S : Nat → Prop) (va : Value) (A : List (List Int)) (M : Nat) (hM : M ≤ 6) (w : World) (hA : ∀ c ∈ A, cubeOk M c) (hRA : RS2 S w va A) :
    Calls Tryz.prog 68 #[va] w fun e w' => OutC S w.heap.size w' e (noC A [[]]) ∧ Below w.heap.size w w' := by
  obtain ⟨ao, acap, hav, ha63⟩ := hRA.slice
  obtain ⟨K, hK⟩ : ∃ K, K = w.heap.size := ⟨_, rfl⟩
  have HK : Hid (K = w.heap.size) := hK
  have HA : Hid (∀ k b off, k < A.length → ao = some ⟨b, off, none⟩ → ∃ o l cp, ∀ W, Below K w W → W.cell? ⟨b, off + k, none⟩ = some (.slice o l cp) ∧ Reads W (.slice o l cp) (A.getD k [])) := fun k b off hk e => hRA.always hK (by rw [hav, e]) hk
  have HAf : Hid (0 < A.length → ∃ b off, ao = some ⟨b, off, none⟩) := fun h0 => by
    obtain ⟨b, off, cap, e⟩ := hRA.form h0
    rw [hav] at e; cases e; exact ⟨b, off, rfl⟩
  have HOk : Hid (∀ k O, noC (A.take k) [[]] = some O → okL M O ∧ O.length ≤ 40) := fun k O h => no_ok hM _ _ _ (fun c hc => hA c (List.mem_of_mem_take hc)) (okL_one M) (by simp) h
  have HT : Hid (∀ k W v, k < A.length → Reads W v (A.getD k []) → Calls Tryz.prog 107 #[v] W fun e w' => ∃ v', e = .returned v' ∧ RS2 (fun b => W.heap.size ≤ b) w' v' (turnC (A.getD k [])) ∧ Below W.heap.size W w') := fun k W v hk hv => turned_any v _ M hM W (hA _ (mem_getD hk)) hv
  have HBo : Hid (∀ k O W v v', k < A.length → noC (A.take k) [[]] = some O → RS2 (fun b => K ≤ b) W v O → RS2 (fun b => K ≤ b) W v' (turnC (A.getD k [])) → Calls Tryz.prog 66 #[v, v'] W fun e w' => OutC (fun b => K ≤ b) W.heap.size w' e (capC (andC O (turnC (A.getD k [])))) ∧ Below W.heap.size W w') := fun k O W v v' hk hO h1 h2 => both_cubes (fun b => K ≤ b) v v' O _ M hM W (HOk.out k O hO).1.1 (turn_ok (hA _ (mem_getD hk))) h1 h2
  subst hav
  rw [← hK]
  clear hRA hA hK
  obtain ⟨na, hna⟩ : ∃ na, na = A.length := ⟨_, rfl⟩
  rw [← hna] at ha63 ⊢
  have HN : Hid (na = A.length) := hna
  clear hna
  obtain ⟨w1, hw1⟩ : ∃ w1, w1 = w.alloc (.cells #[.slice none 0 0] 23) := ⟨_, rfl⟩
  have HB1 : Hid (Below K w w1 ∧ w1.heap.size = K + 1) := by
    rw [HK.out, hw1]; exact ⟨below_alloc1 _ _, by simp⟩
  have HO1 : Hid (RS2 (fun b => K ≤ b) w1 (.slice (some ⟨w.heap.size, 0, none⟩) 1 1) [[]]) := by
    refine Or.inr ⟨w.heap.size, 0, 1, rfl, ⟨by rw [HK.out]; exact Nat.le_refl _, by have := HB1.out.2; rw [← HK.out]; omega⟩, by simp, ⟨by simp, by simp⟩, fun k t hk => ?_⟩
    have hk0 : k = 0 := by have := (List.getElem?_eq_some_iff.1 hk).1; simpa using this
    subst hk0
    simp at hk; subst hk
    exact ⟨.slice none 0 0, by rw [hw1]; simp, Or.inl ⟨none, 0, rfl, rfl⟩⟩
  go_enter Tryz.func68, Tryz.ntmps68
  go_wp2_with fail
  rw [← hw1]
  clear hw1
  go_loopw [4, 6, 7, 11] (fun v _ _ i wr => ∃ (k : Nat) (O : List (List Int)), k ≤ na ∧ i = .int .i64 k ∧ noC (A.take k) [[]] = some O ∧ RS2 (fun b => K ≤ b) wr v O ∧ Below K w wr ∧ K ≤ wr.heap.size) (fun _ _ _ i _ => na - (intOf i).toNat)
  case atStart => exact ⟨0, [[]], Nat.zero_le _, rfl, rfl, HO1.out, HB1.out.1, by have := HB1.out.2; omega⟩
  case round =>
    obtain ⟨k, O, hk, rfl, hO, hR, hbel, hKw⟩ := hrel
    have HI : Hid (noC (A.take k) [[]] = some O ∧ RS2 (fun b => K ≤ b) wr u4 O ∧ Below K w wr ∧ K ≤ wr.heap.size) := ⟨hO, hR, hbel, hKw⟩
    obtain ⟨oo, ocap, rfl, _⟩ := hR.slice
    obtain ⟨ol, hol⟩ : ∃ ol, ol = O.length := ⟨_, rfl⟩
    rw [← hol] at HI ⊢
    clear hO hR hbel hKw hol
    by_cases hlt : k < na
    · have hkA : k < A.length := by rw [← HN.out]; exact hlt
      obtain ⟨ab, aoff, rfl⟩ := HAf.out (by omega)
      obtain ⟨co, cl, ccp, hall⟩ := HA.out k ab aoff hkA rfl
      obtain ⟨hcell, hcr⟩ := hall wr HI.out.2.2.1
      have hltz : (k : Int) < (na : Int) := by omega
      have HT1 : Hid (Calls Tryz.prog 107 #[.slice co cl ccp] wr fun e w' => ∃ v', e = .returned v' ∧ RS2 (fun b => wr.heap.size ≤ b) w' v' (turnC (A.getD k [])) ∧ Below wr.heap.size wr w') := HT.out k wr _ hkA hcr
      have HKA : Hid (k < A.length) := hkA
      clear hall hcr hkA
      go_wp2_with fail
      go_at_call 107
      refine HT1.out.mono ?_
      rintro e w2 ⟨v2, rfl, hr2, hb2⟩
      have HB2 : Hid (Below K w w2 ∧ K ≤ w2.heap.size) := ⟨HI.out.2.2.1.trans (hb2.mono HI.out.2.2.2), by have := hb2.size; have := HI.out.2.2.2; omega⟩
      have HBo1 : Hid (Calls Tryz.prog 66 #[.slice oo ol ocap, v2] w2 fun e w' => OutC (fun b => K ≤ b) w2.heap.size w' e (capC (andC O (turnC (A.getD k [])))) ∧ Below w2.heap.size w2 w') := HBo.out k O w2 _ _ HKA.out HI.out.1 (HI.out.2.1.kept (Kept.of_below hb2)) (hr2.mono fun b _ hb => Nat.le_trans HI.out.2.2.2 hb)
      have HS : Hid (noC (A.take (k + 1)) [[]] = capC (andC O (turnC (A.getD k [])))) := noC_succ A HKA.out HI.out.1
      obtain ⟨too, tcap, rfl, _⟩ := hr2.slice
      obtain ⟨tl, htl⟩ : ∃ tl, tl = (turnC (A.getD k [])).length := ⟨_, rfl⟩
      rw [← htl] at HBo1 ⊢
      clear hr2 hb2 HT1 htl
      go_wp2_with fail
      go_at_call 66
      refine HBo1.out.mono ?_
      rintro e w3 ⟨hout, hb3⟩
      have HB3 : Hid (Below K w w3 ∧ K ≤ w3.heap.size) := ⟨HB2.out.1.trans (hb3.mono HB2.out.2), by have := hb3.size; have := HB2.out.2; omega⟩
      clear hb3 HBo1
      cases hcap : capC (andC O (turnC (A.getD k []))) with
      | none =>
        rw [hcap] at hout
        have he : e = .returned (.tuple #[.slice none 0 0, .iface 75 (.int .i64 4)]) := hout
        subst he
        have HE : Hid (noC A [[]] = none) := noC_none (HS.out.trans hcap)
        clear hcap hout
        go_wp2
        go_ret2
        refine ⟨?_, HB3.out.1⟩
        rw [HE.out]; rfl
      | some O' =>
        rw [hcap] at hout
        obtain ⟨v3, rfl, hr3⟩ : ∃ v, e = .returned (.tuple #[v, .nilIface]) ∧ RS2 (fun b => K ≤ b ∨ w2.heap.size ≤ b) w3 v O' := hout
        have HR3 : Hid (noC (A.take (k + 1)) [[]] = some O' ∧ RS2 (fun b => K ≤ b) w3 v3 O') := ⟨HS.out.trans hcap, hr3.mono fun b _ hb => hb.elim id (fun h => Nat.le_trans HB2.out.2 h)⟩
        clear hcap hr3
        go_wp2
        go_roundw
        case rel => exact ⟨k + 1, O', by omega, by go_num, HR3.out.1, HR3.out.2, HB3.out.1, HB3.out.2⟩
        case measure => simp [intOf]; omega
    · have hltz : ¬ (k : Int) < (na : Int) := by omega
      have HE : Hid (noC A [[]] = some O) := by
        have h := HI.out.1
        rw [List.take_of_length_le (by have := HN.out; omega)] at h
        exact h
      go_wp2
      go_ret2
      refine ⟨?_, HI.out.2.2.1⟩
      rw [HE.out]
      exact ⟨_, rfl, HI.out.2.1.mono fun b _ hb => Or.inr hb⟩
end Go.Proofs.YtjaedfjfcghgcabGreatDoor

