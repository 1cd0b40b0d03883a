/-
  Proved: what cubes.with returns: one cube more, unless that has an atom both ways, or was there ahead; what else was in memory is as it was (a contract that the statements lean on).
-/
import Derived.Test.YtenmheenieifpacGreatDoorCubesWith
namespace Go.Proofs.YtenmheenieifpacGreatDoor
open Go.ChangeShapes Go.WideShapes Go.ChangeAt Go.RowKit
set_option maxRecDepth 100000

/-- a cube more. -/
def withC (L : List (List Int)) (c : List Int) : List (List Int) := if (bothWays c || L.contains c) = true then L else L ++ [c]
theorem any_beq (L : List (List Int)) (c : List Int) : L.any (fun t => t == c) = L.contains c := by
  rw [Bool.eq_iff_iff]; simp
theorem grown_of_below {w w' : World} {r : Option Nat} (h : Below w.heap.size w w') : w.grownBy w' r := ⟨h.os, h.tape, h.output, h.size, fun k hk _ => h.block k hk⟩
theorem grown_trans {w w' w'' : World} {r : Option Nat} (h : w.grownBy w' r) (k : w'.grownBy w'' r) : w.grownBy w'' r :=
  ⟨k.os.trans h.os, k.tape.trans h.tape, k.output.trans h.output, Nat.le_trans h.size k.size, fun b hb hr => (k.block b (Nat.lt_of_lt_of_le hb h.size) hr).trans (h.block b hb hr)⟩

set_option maxHeartbeats 4000000 in
theorem with_any (S : Nat → Prop) (K : Nat) (v u : Value) (L : List (List Int)) (c : List Int) (w : World) (hK : K ≤ w.heap.size) (hown : Own2 S K w v L) (hu : RS (fun b => (S b ∨ K ≤ b) ∧ some b ≠ v.ownBlock) w u c) (hL : L.length ≤ 200) (hm : ∀ m ∈ c, m.natAbs ≤ 6) :
    Calls Tryz.prog 52 #[v, u] w fun e w' => ∃ v', e = .returned v' ∧ Own2 S K w' v' (withC L c) ∧ w.grownBy w' v.ownBlock := by
  obtain ⟨i0, hi, hz0, hz1, hz2⟩ := info_parts infoS
  obtain ⟨ao, acap, rfl, _⟩ := hu.slice
  obtain ⟨w1, hw1⟩ : ∃ w1, w1 = w.alloc (.cells #[.slice ao c.length acap] 23) := ⟨_, rfl⟩
  have HB1 : Hid (Below w.heap.size w w1 ∧ w.heap.size < w1.heap.size) := by unfold Hid; rw [hw1]; exact ⟨below_alloc1 _ _, by simp⟩
  have HP : Hid (∀ W, Below w1.heap.size w1 W → W.cell? ⟨w.heap.size, 0, none⟩ = some (.slice ao c.length acap)) := fun W hW => by
    rw [hW.cell (show (⟨w.heap.size, 0, none⟩ : Addr).block < _ from HB1.out.2), hw1]; simp
  have HRu : Hid (∀ W, Below w1.heap.size w1 W → RS (fun b => (S b ∨ K ≤ b) ∧ some b ≠ v.ownBlock) W (.slice ao c.length acap) c) := fun W hW => (hu.kept (Kept.of_below HB1.out.1)).kept (Kept.of_below hW)
  have HO : Hid (∀ W, Below w1.heap.size w1 W → Own2 S K W v L) := fun W hW => (hown.below HB1.out.1).below hW
  have e1 : ∀ args w, (callFunc 65 args).run Tryz.prog w = .ok (.enter 65 args) w := enters_of Tryz.func65 (by kernel_rfl) rfl
  have e2 : ∀ args w, (callFunc 67 args).run Tryz.prog w = .ok (.enter 67 args) w := enters_of Tryz.func67 (by kernel_rfl) rfl
  have HA1 : Hid (∀ W, Below w1.heap.size w1 W → Calls Tryz.prog 29 #[.slice ao c.length acap, .func (.func 65) #[] #[.pointer (some ⟨w.heap.size, 0, none⟩)]] W fun e w' => e = .returned (.bool (bothWays c)) ∧ Below W.heap.size W w') := fun W hW =>
    anyI c _ w.heap.size _ (fun m => c.contains (-m)) W (HRu.out W hW).reads e1 (fun W' m hW' hmc => turns_any c _ w.heap.size m W' (hm m hmc) (HP.out W' (hW.trans (hW'.mono hW.size))) (HRu.out W' (hW.trans (hW'.mono hW.size))).reads)
  have HA2 : Hid (∀ W, Below w1.heap.size w1 W → Calls Tryz.prog 27 #[v, .func (.func 67) #[] #[.pointer (some ⟨w.heap.size, 0, none⟩)]] W fun e w' => e = .returned (.bool (L.contains c)) ∧ Below W.heap.size W w') := fun W hW => by
    rw [← any_beq]
    exact anyL _ L v w.heap.size _ (fun t => t == c) W ((HO.out W hW).reads (by omega)) e2 (fun W' x t hW' _ hx => sameC_any t c x _ w.heap.size W' (HP.out W' (hW.trans (hW'.mono hW.size))) hx (HRu.out W' (hW.trans (hW'.mono hW.size))).reads)
  clear e1 e2 hm hu
  obtain ⟨vo, vcap, hvf⟩ : ∃ vo vcap, v = .slice vo L.length vcap := by
    obtain ⟨xs, h1, _⟩ := hown
    rcases h1.2 with ⟨rfl, h0⟩ | ⟨g, cap, cur, rfl, _⟩
    · exact ⟨none, 0, by rw [h0]⟩
    · exact ⟨_, cap, rfl⟩
  clear hown
  obtain ⟨n, hn⟩ : ∃ n, n = c.length := ⟨_, rfl⟩
  rw [← hn] at hw1 HP HRu HA1 ⊢
  clear hn
  obtain ⟨B1, hB1⟩ : ∃ B1, B1 = bothWays c := ⟨_, rfl⟩
  obtain ⟨B2, hB2⟩ : ∃ B2, B2 = L.contains c := ⟨_, rfl⟩
  have HWC : Hid (withC L c = if (B1 || B2) = true then L else L ++ [c]) := by unfold Hid withC; rw [hB1, hB2]
  rw [← hB1] at HA1
  rw [← hB2] at HA2
  clear hB1 hB2
  obtain ⟨l, hl⟩ : ∃ l, l = L.length := ⟨_, rfl⟩
  have HLl : Hid (l = L.length ∧ l ≤ 200) := ⟨hl, by omega⟩
  rw [← hl] at hvf
  clear hl hL
  subst hvf
  have p0 := HP.out w1 (Below.refl _ _)
  rw [hw1] at p0
  go_enter Tryz.func52, Tryz.ntmps52
  go_wp2_with fail
  rw [← hw1]
  clear hw1 p0
  go_at_call 29
  refine (HA1.out w1 (Below.refl _ _)).mono ?_
  rintro e w2 ⟨rfl, hb⟩
  have HB2 : Hid (Below w1.heap.size w1 w2) := hb
  clear hb
  cases B1 with
  | true =>
    have HE : Hid (withC L c = L) := by unfold Hid; rw [HWC.out]; rfl
    go_wp2
    go_ret
    exact ⟨_, rfl, by rw [HE.out]; exact HO.out w2 HB2.out, grown_of_below (HB1.out.1.trans (HB2.out.mono HB1.out.1.size))⟩
  | false =>
    go_wp2_with fail
    go_at_call 27
    refine (HA2.out w2 HB2.out).mono ?_
    rintro e w3 ⟨rfl, hb⟩
    have HB3 : Hid (Below w1.heap.size w1 w3) := HB2.out.trans (hb.mono HB2.out.size)
    clear hb HA1 HA2
    cases B2 with
    | true =>
      have HE : Hid (withC L c = L) := by unfold Hid; rw [HWC.out]; rfl
      go_wp2
      go_ret
      exact ⟨_, rfl, by rw [HE.out]; exact HO.out w3 HB3.out, grown_of_below (HB1.out.1.trans (HB3.out.mono HB1.out.1.size))⟩
    | false =>
      have HE : Hid (withC L c = L ++ [c]) := by unfold Hid; rw [HWC.out]; rfl
      have p0 := HP.out w3 HB3.out
      obtain ⟨w4, hw4⟩ : ∃ w4, w4 = w3.alloc (.cells #[.slice ao n acap] 23) := ⟨_, rfl⟩
      have HB4 : Hid (Below w1.heap.size w1 w4 ∧ Below w.heap.size w w4) := by
        have : Below w1.heap.size w1 w4 := by rw [hw4]; exact HB3.out.trans ((below_alloc1 _ _).mono HB3.out.size)
        exact ⟨this, HB1.out.1.trans (this.mono HB1.out.1.size)⟩
      obtain ⟨xs, ho, hx⟩ := HO.out w4 HB4.out.1
      rw [← HLl.out.1] at ho
      have HOx : Hid (w4.ownsRow K 23 1 (.slice vo l vcap) l xs) := ho
      have HX : Hid (∀ (k : Nat) t, L[k]? = some t → ∃ u, xs[k]? = some u ∧ RS (fun b => (S b ∨ K ≤ b) ∧ some b ≠ (Value.slice vo l vcap).ownBlock) w4 u t) := hx
      have hca : w4.cell? ((⟨w3.heap.size, 0, none⟩ : Addr).add 0) = some (.slice ao n acap) := by rw [hw4]; simp [Addr.add]
      have HCa : Hid (∀ j u, ([Value.slice ao n acap] : List Value)[j]? = some u → w4.cell? ((⟨w3.heap.size, 0, none⟩ : Addr).add j) = some u) := fun j u hu => by
        match j, hu with
        | 0, hu => simp at hu; subst hu; exact hca
      have HS4 : Hid (w4.heap.size = w3.heap.size + 1 ∧ K ≤ w4.heap.size) := ⟨by rw [hw4]; simp, by have := HB4.out.2.size; omega⟩
      clear ho hx hca
      go_wp2_with (first | (at_builtin; rw [← hw4]; refine wpList_append_lies _ rfl (.tmp 18) (.tmp 20) 26 rfl K 23 i0 (.slice none 0 0) 1 24 Tryz.underlying26 hi hz0 hz1 hz2 rfl (by decide) (.slice vo l vcap) l xs rfl HOx.out ⟨w3.heap.size, 0, none⟩ 1 1 [.slice ao n acap] rfl rfl HCa.out (by intro y hy; simp at hy; subst hy; rfl) (by decide) ?d3 ?d4 HS4.out.2 w4.heap.size rfl ?_))
      case d3 => have := HLl.out.2; unfold maxLen; omega
      case d4 => have := HLl.out.2; omega
      intro g cap w5 hown hgrow hat hlt
      have HG : Hid (w4.grownBy w5 (Value.slice vo l vcap).ownBlock) := by first | exact hgrow | (rw [hw4]; exact hgrow)
      have HAt : Hid ((Value.slice vo l vcap).ownBlock = some g ∨ g = w4.heap.size) := by first | exact hat | (rw [HS4.out.1]; exact hat)
      have HRr : Hid (Own2 S K w5 (.slice (some ⟨g, 0, none⟩) (l + 1) cap) (L ++ [c])) := by
        have h1 := HOx.out
        have e := HLl.out.1
        unfold Hid
        subst e
        exact Own2.push h1 HX.out (HRu.out w4 HB4.out.1) (by simpa using hown) HG.out HAt.out
      clear hown hgrow hat hlt
      go_wp2
      go_ret
      exact ⟨_, rfl, by rw [HE.out]; exact HRr.out, grown_trans (grown_of_below HB4.out.2) HG.out⟩
end Go.Proofs.YtenmheenieifpacGreatDoor
