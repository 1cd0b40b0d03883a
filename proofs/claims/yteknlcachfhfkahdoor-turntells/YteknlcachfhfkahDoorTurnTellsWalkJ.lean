/-
  Proved: vennlaw2.TurnTells returns true where what it calls answers as chapters 1, 2, 4 and 16 say; what was in memory is as it was (the walk that the statement leans on). Written by program.
-/
import Derived.Test.YteknlcachfhfkahDoorLibTU8
import Derived.Test.YteknlcachfhfkahDoorLibTU9
import Derived.Deep.RegionHeld3
import Derived.Deep.RegionWith
import Derived.Deep.CutRange
import Derived.Deep.CutBlock
namespace Go.Proofs.YteknlcachfhfkahDoor
open Go.ChangeShapes Go.WideShapes Go.ChangeAt Go.RowKit
set_option maxRecDepth 100000

theorem reads_sliceM {w : World} {v : Value} {t : List Int} (h : Reads w v t) : ∃ ao cap, v = .slice ao t.length cap ∧ t.length ≤ 9223372036854775807 := by
  rcases h with ⟨ao, cap, rfl, rfl⟩ | ⟨b, off, cap, rfl, _, _, h, _⟩
  · exact ⟨ao, cap, rfl, by decide⟩
  · exact ⟨_, cap, rfl, h.1⟩
/-- the three arguments that lie in memory, and what was there before them. -/
def Held (w W : World) (cf : Array Value) (p : Nat → Int) (D : Wd) : Prop :=
  Below w.heap.size w W ∧ Blk W w.heap.size 25 cf ∧ Blk W (w.heap.size + 1) 36 (arr3 p) ∧ Blk W (w.heap.size + 1 + 1) 38 (arrW D)
theorem Held.size {w W : World} {cf : Array Value} {p : Nat → Int} {D : Wd} (h : Held w W cf p D) : w.heap.size + 3 ≤ W.heap.size := h.2.2.2.lt
theorem Held.step {w W W' : World} {cf : Array Value} {p : Nat → Int} {D : Wd} {G : Nat} (h : Held w W cf p D) (hb : Below G W W') (hG : w.heap.size + 3 ≤ G) : Held w W' cf p D := by
  obtain ⟨h1, h2, h3, h4⟩ := h
  refine ⟨h1.trans (hb.mono (by omega)), ?_, ?_, ?_⟩
  · unfold Blk; rw [hb.block _ (by omega)]; exact h2
  · unfold Blk; rw [hb.block _ (by omega)]; exact h3
  · unfold Blk; rw [hb.block _ (by omega)]; exact h4
theorem Held.below {w W W' : World} {cf : Array Value} {p : Nat → Int} {D : Wd} (h : Held w W cf p D) (hb : Below W.heap.size W W') : Held w W' cf p D := h.step hb h.size
theorem Held.three {w W : World} {cf : Array Value} {p : Nat → Int} {D : Wd} (h : Held w W cf p D) : Reads W (.slice (some ⟨w.heap.size + 1, 0, none⟩) 3 3) (listP p) := by
  obtain ⟨_, _, h3, _⟩ := h
  refine Or.inr ⟨w.heap.size + 1, 0, 3, rfl, h3.lt, by simp [listP], ⟨by simp [listP], by simp [listP]⟩, fun k hk => ?_⟩
  have hk3 : k < 3 := hk
  rw [Nat.zero_add, h3.cell k]
  have hd : k = 0 ∨ k = 1 ∨ k = 2 := by omega
  rcases hd with rfl | rfl | rfl <;> rfl

/-! ### the other world -/
def setN (W : Wd) (j x : Int) : Wd := if j = 0 then ⟨W.u, x, W.b, W.c⟩ else if j = 1 then ⟨W.u, W.a, x, W.c⟩ else ⟨W.u, W.a, W.b, x⟩
def turnTo (p : Nat → Int) (D : Wd) : Nat → Wd
  | 0 => ⟨D.u, 0, 0, 0⟩
  | k + 1 => setN (turnTo p D k) (p k) (D.name k)
theorem turnTo_all {p : Nat → Int} (h : onceB (listP p) = true) (D : Wd) : turnTo p D 3 = turnW p D := by
  rcases perm_six h with ⟨h0, h1, h2⟩ | ⟨h0, h1, h2⟩ | ⟨h0, h1, h2⟩ | ⟨h0, h1, h2⟩ | ⟨h0, h1, h2⟩ | ⟨h0, h1, h2⟩ <;> simp [turnTo, setN, turnW, pickN, Wd.name, h0, h1, h2]
theorem arrW_set (W : Wd) (j : Nat) (hj : j < 3) (x : Int) : (arrW W).setIfInBounds (1 + j) (.int .i64 x) = arrW (setN W j x) := by
  have hd : j = 0 ∨ j = 1 ∨ j = 2 := by omega
  rcases hd with rfl | rfl | rfl <;> simp [arrW, setN]
theorem arrW_get (W : Wd) (j : Nat) (hj : j < 3) : (arrW W)[1 + j]? = some (.int .i64 (W.name j)) := by
  have hd : j = 0 ∨ j = 1 ∨ j = 2 := by omega
  rcases hd with rfl | rfl | rfl <;> rfl
/-! ### other things: of the first k names the next thing is moved -/
def mixW (q : List Int) (D : Wd) (i k : Nat) : Wd := ⟨D.u, movedN q D.a (if 0 < k then i + 1 else i), movedN q D.b (if 1 < k then i + 1 else i), movedN q D.c (if 2 < k then i + 1 else i)⟩
theorem mixW_next (q : List Int) (D : Wd) (i : Nat) : mixW q D i 3 = mixW q D (i + 1) 0 := rfl
theorem mixW_set (q : List Int) (D : Wd) (i k : Nat) (hk : k < 3) : setN (mixW q D i k) k ((mixW q D i k).name k + if hasB (D.name k) i = true then pw (q.getD i 0).toNat else 0) = mixW q D i (k + 1) := by
  have hd : k = 0 ∨ k = 1 ∨ k = 2 := by omega
  rcases hd with rfl | rfl | rfl <;> rfl
theorem mixW_keep (q : List Int) (D : Wd) (i k : Nat) (hk : k < 3) (h : hasB (D.name k) i = false) : mixW q D i k = mixW q D i (k + 1) := by
  have hd : k = 0 ∨ k = 1 ∨ k = 2 := by omega
  rcases hd with rfl | rfl | rfl
  all_goals
    have h' := h
    simp only [Wd.name] at h'
    simp at h'
    simp [mixW, movedN, h']
theorem moved_le {q : List Int} (hq : ∀ x ∈ q, 0 ≤ x ∧ x ≤ 5) (x : Int) : ∀ n : Nat, 0 ≤ movedN q x n ∧ movedN q x n ≤ 32 * n := by
  intro n
  induction n with
  | zero => exact ⟨Int.le_refl _, by simp [movedN]⟩
  | succ n ih =>
    have hp : 0 ≤ pw (q.getD n 0).toNat ∧ pw (q.getD n 0).toNat ≤ 32 := by
      have h5 : (q.getD n 0).toNat ≤ 5 := by
        rw [List.getD_eq_getElem?_getD]
        cases h : q[n]? with
        | none => simp
        | some y => have := hq y (List.mem_of_getElem? h); simp; omega
      have all : ∀ m : Nat, m ≤ 5 → 0 ≤ pw m ∧ pw m ≤ 32 := by decide
      exact all _ h5
    unfold movedN
    split <;> omega
theorem mixW_le {q : List Int} (hq : ∀ x ∈ q, 0 ≤ x ∧ x ≤ 5) (D : Wd) {i : Nat} (hi : i ≤ 6) (k j : Nat) : 0 ≤ (mixW q D i k).name j ∧ (mixW q D i k).name j ≤ 300 := by
  have h : ∀ x (j : Nat), 0 ≤ movedN q x (if j < k then i + 1 else i) ∧ movedN q x (if j < k then i + 1 else i) ≤ 300 := fun x j => by
    have h1 := moved_le hq x i
    have h2 := moved_le hq x (i + 1)
    split <;> omega
  unfold Wd.name
  split
  · exact h D.a 0
  split
  · exact h D.b 1
  · exact h D.c 2

set_option maxHeartbeats 64000000 in
theorem turnTells_in (ao : Option Addr) (M acap : Nat) (co : Option Addr) (nc ccap : Nat) (ats : List At) (c : List Int) (p : Nat → Int) (D : Wd) (qo : Option Addr) (nq qcap : Nat) (q : List Int) (ob oq : Bool) (ef e1 ew e2 e3 : Int) (O2 O3 : Wd) (wantA : List At) (wantC : List Int) (w : World)
    (HA : Hid (ReadsA w (.slice ao M acap) ats)) (HC : Hid (Reads w (.slice co nc ccap) c)) (HQ : Hid (Reads w (.slice qo nq qcap) q)) (HNq : Hid (nq = q.length))
    (h63 : nq ≤ 9223372036854775807) (HMa : Hid (M = ats.length))
    (HF1 : Hid (e1 = if ef = 0 then (if ob = true then 0 else 1) else ef))
    (HF2 : Hid (e2 = if ob = true then ew else 1))
    (HF3 : Hid (e3 = if ew = 0 then (if (nq : Int) = D.u then (if oq = true then 0 else 1) else 3) else ew))
    (HWa : Hid ((e1 = 0 → wantA = renL p ats ∧ wantC = c) ∧ (¬ e1 = 0 → wantA = [] ∧ wantC = [])))
    (HO2 : Hid ((e2 = 0 → O2 = turnTo p D 3) ∧ (¬ e2 = 0 → O2 = ⟨0, 0, 0, 0⟩)))
    (HO3 : Hid ((e3 = 0 → O3 = mixW q D nq 0) ∧ (¬ e3 = 0 → O3 = ⟨0, 0, 0, 0⟩)))
    (HP3 : Hid (e2 = 0 → ∀ k, k < 3 → ∃ j : Nat, j < 3 ∧ p k = j))
    (HM6 : Hid (e1 = 0 → M ≤ 6))
    (HQ6 : Hid (e3 = 0 → nq ≤ 6 ∧ ∀ x ∈ q, 0 ≤ x ∧ x ≤ 5))
    (HOp : Hid (∀ W v, Reads W v (listP p) → Calls Tryd.prog 22 #[v] W fun r w' => r = .returned (.bool ob) ∧ W = w'))
    (HOq : Hid (∀ W, Below w.heap.size w W → Calls Tryd.prog 22 #[.slice qo nq qcap] W fun r w' => r = .returned (.bool oq) ∧ W = w'))
    (HFo : Hid (∀ W, Below w.heap.size w W → Calls Tryd.prog 12 #[.agg #[.slice ao M acap, .slice co nc ccap]] W fun r w' => r = .returned (.int .i64 ef) ∧ Below W.heap.size W w'))
    (HWo : Hid (∀ W, Calls Tryd.prog 13 #[.agg #[.int .i64 D.u, .int .i64 D.a, .int .i64 D.b, .int .i64 D.c]] W fun r w' => r = .returned (.int .i64 ew) ∧ Below W.heap.size W w'))
    (HRe : Hid (e1 = 0 → ∀ (i : Nat) (a : At), ats[i]? = some a → (∀ W v, Reads W v a.s → Calls Tryd.prog 23 #[v, .agg #[.int .i64 (p 0), .int .i64 (p 1), .int .i64 (p 2)]] W fun r w' => ∃ v' K, r = .returned v' ∧ W.heap.size ≤ K ∧ w'.ownsRow K 3 1 v' a.s.length ((renT p a.s).map (Value.int .i64)) ∧ Below W.heap.size W w') ∧ ∀ W v, Reads W v a.t → Calls Tryd.prog 23 #[v, .agg #[.int .i64 (p 0), .int .i64 (p 1), .int .i64 (p 2)]] W fun r w' => ∃ v' K, r = .returned v' ∧ W.heap.size ≤ K ∧ w'.ownsRow K 3 1 v' a.t.length ((renT p a.t).map (Value.int .i64)) ∧ Below W.heap.size W w'))
    (HHa : Hid (e3 = 0 → ∀ (k : Nat) (i : Nat), k < 3 → i < nq → ∀ W, Calls Tryd.prog 27 #[.int .i64 (D.name k), .int .i64 i] W fun r w' => r = .returned (.bool (hasB (D.name k) i)) ∧ W = w'))
    (HPo : Hid (e3 = 0 → ∀ n : Nat, n ≤ 5 → ∀ W, Calls Tryd.prog 14 #[.int .i64 n] W fun r w' => r = .returned (.int .i64 (pw n)) ∧ W = w'))
    (HEr : Hid (∀ n W, Below w.heap.size w W → Calls Tryd.prog 17 #[errV n, .int .i64 n] W fun r w' => r = .returned (.bool true) ∧ Below W.heap.size W w'))
    (HNm : Hid (∀ W, Below w.heap.size w W → Calls Tryd.prog 24 #[.agg #[.slice ao M acap, .slice co nc ccap], .agg #[.int .i64 (p 0), .int .i64 (p 1), .int .i64 (p 2)]] W fun r w' => (∃ o1 l1 q1 o2 l2 q2, r = .returned (.tuple #[.agg #[.slice o1 l1 q1, .slice o2 l2 q2], errV e1]) ∧ ∀ W' va vc, Below w'.heap.size w' W' → ReadsA W' va wantA → Reads W' vc wantC → Calls Tryd.prog 25 #[.agg #[.slice o1 l1 q1, .slice o2 l2 q2], .agg #[va, vc]] W' fun r w'' => r = .returned (.bool true) ∧ Below W'.heap.size W' w'') ∧ Below W.heap.size W w'))
    (HTw : Hid (∀ W, Below w.heap.size w W → Calls Tryd.prog 26 #[.agg #[.int .i64 D.u, .int .i64 D.a, .int .i64 D.b, .int .i64 D.c], .agg #[.int .i64 (p 0), .int .i64 (p 1), .int .i64 (p 2)]] W fun r w' => r = .returned (.tuple #[.agg #[.int .i64 O2.u, .int .i64 O2.a, .int .i64 O2.b, .int .i64 O2.c], errV e2]) ∧ Below W.heap.size W w'))
    (HTh : Hid (∀ W, Below w.heap.size w W → Calls Tryd.prog 28 #[.agg #[.int .i64 D.u, .int .i64 D.a, .int .i64 D.b, .int .i64 D.c], .slice qo nq qcap] W fun r w' => r = .returned (.tuple #[.agg #[.int .i64 O3.u, .int .i64 O3.a, .int .i64 O3.b, .int .i64 O3.c], errV e3]) ∧ Below W.heap.size W w')) :
    Calls Tryd.prog 7 #[.agg #[.slice ao M acap, .slice co nc ccap], .agg #[.int .i64 (p 0), .int .i64 (p 1), .int .i64 (p 2)], .agg #[.int .i64 D.u, .int .i64 D.a, .int .i64 D.b, .int .i64 D.c], .slice qo nq qcap] w fun e w' => e = .returned (.bool true) ∧ Below w.heap.size w w' := by
  obtain ⟨b0, b1, b2, hB0⟩ := three_blocks w (.cells #[.slice ao M acap, .slice co nc ccap] 25) (.cells #[.int .i64 (p 0), .int .i64 (p 1), .int .i64 (p 2)] 36) (.cells #[.int .i64 D.u, .int .i64 D.a, .int .i64 D.b, .int .i64 D.c] 38)
  obtain ⟨w1, hw1⟩ : ∃ x, x = (((w.alloc (.cells #[.slice ao M acap, .slice co nc ccap] 25)).alloc (.cells #[.int .i64 (p 0), .int .i64 (p 1), .int .i64 (p 2)] 36)).alloc (.cells #[.int .i64 D.u, .int .i64 D.a, .int .i64 D.b, .int .i64 D.c] 38)) := ⟨_, rfl⟩
  rw [← hw1] at b0 b1 b2 hB0
  have H1 : Hid (Held w w1 #[.slice ao M acap, .slice co nc ccap] p D) := ⟨hB0, b0, b1, b2⟩
  clear b0 b1 b2 hB0
  go_enter Tryd.func7, Tryd.ntmps7
  go_upto_region 1 with fail
  rw [← hw1]
  clear hw1
  go_wp2_with fail
  go_at_call 22
  refine (HOp.out _ _ H1.out.three).mono ?_
  rintro e w' ⟨rfl, rfl⟩
  have x0 : w1.cell? ⟨w.heap.size, 0, none⟩ = some (.slice ao M acap) := H1.out.2.1.cell 0
  have x1 : w1.cell? ⟨w.heap.size, 1, none⟩ = some (.slice co nc ccap) := H1.out.2.1.cell 1
  go_wp2_with fail
  go_at_call 12
  refine (HFo.out _ H1.out.1).mono ?_
  rintro e w2 ⟨rfl, hb⟩
  have H2 : Hid (Held w w2 #[.slice ao M acap, .slice co nc ccap] p D) := H1.out.below hb
  clear hb x0 x1
  go_upto_region 3 with fail
  go_cut [9, 10, 28, 30, 36] from 31 (fun a s _ _ t wx => a = .bool ob ∧ s = .int .i64 ef ∧ (∃ b : Bool, t = .bool b ∧ ((b = true ∧ e1 = 1) ∨ (b = false ∧ e1 = ef))) ∧ w2 = wx)
  case first =>
    by_cases h0 : ef = 0
    · have H0 : Hid (ef = 0) := h0
      rcases (Bool.eq_false_or_eq_true ob).symm with hob | hob
      · have HE : Hid (e1 = 1) := by unfold Hid; rw [HF1.out, if_pos h0, if_neg (by rw [hob]; decide)]
        have HB : Hid (ob = false) := hob
        clear h0 hob
        rw [H0.out, HB.out]
        go_wp2_with fail
        go_meet
        case rel => exact ⟨by rw [HB.out], by rw [H0.out], ⟨true, rfl, Or.inl ⟨rfl, HE.out⟩⟩, rfl⟩
      · have HE : Hid (e1 = ef) := by unfold Hid; rw [HF1.out, if_pos h0, if_pos hob, h0]
        have HB : Hid (ob = true) := hob
        clear h0 hob
        rw [H0.out, HB.out]
        go_wp2_with fail
        go_meet
        case rel => exact ⟨by rw [HB.out], by rw [H0.out], ⟨false, rfl, Or.inr ⟨rfl, HE.out⟩⟩, rfl⟩
    · have HE : Hid (e1 = ef) := by unfold Hid; rw [HF1.out, if_neg h0]
      have d0 : (ef == 0) = false := by simp [h0]
      clear h0
      go_wp2_with fail
      go_meet
      case rel => exact ⟨rfl, rfl, ⟨false, rfl, Or.inr ⟨rfl, HE.out⟩⟩, rfl⟩
  case rest =>
  obtain ⟨rfl, rfl, ⟨tb, rfl, htb⟩, rfl⟩ := hcut
  have HTb : Hid ((tb = true ∧ e1 = 1) ∨ (tb = false ∧ e1 = ef)) := htb
  clear htb
  go_upto_if 36 with fail
  go_cut [10] from 31 (fun s wx => s = .int .i64 e1 ∧ w2 = wx)
  case first =>
    rcases HTb.out with ⟨rfl, h1⟩ | ⟨rfl, h1⟩
    · have HE : Hid (e1 = 1) := h1
      clear h1 HTb
      go_wp2_with fail
      go_meet
      case rel => exact ⟨by rw [HE.out], rfl⟩
    · have HE : Hid (e1 = ef) := h1
      clear h1 HTb
      go_wp2_with fail
      go_meet
      case rel => exact ⟨by rw [HE.out], rfl⟩
  case rest =>
  obtain ⟨rfl, rfl⟩ := hcut
  clear HTb
  obtain ⟨GW, hGW⟩ : ∃ G, G = w2.heap.size := ⟨_, rfl⟩
  obtain ⟨w3, hw3⟩ : ∃ x, x = w2.alloc (.cells #[.slice none 0 0, .slice none 0 0] 25) := ⟨_, rfl⟩
  have hI3 : InM GW w2 w3 (.slice none 0 0) (.slice none 0 0) := by rw [hw3, hGW]; exact ⟨Blk.new _ _ _, below_alloc1 _ _, by simp⟩
  have HI3 : Hid (InM GW w2 w3 (.slice none 0 0) (.slice none 0 0)) := hI3
  have HGs : Hid (w.heap.size + 3 ≤ GW) := by unfold Hid; rw [hGW]; exact H2.out.size
  have H3 : Hid (Held w w3 #[.slice ao M acap, .slice co nc ccap] p D) := H2.out.step hI3.2.1 HGs.out
  clear hI3
  go_upto_region 6 with fail
  rw [← hw3, ← hGW]
  clear hw3 hGW
  go_upto_if 38 with fail
  go_cut [10, 12, 13] from 37 (fun a _ _ wx => a = .int .i64 e1 ∧ ∃ va vc, InM GW w2 wx va vc ∧ ReadsA wx va wantA ∧ Reads wx vc wantC)
  case first =>
    by_cases h0 : e1 = 0
    · have HE : Hid (e1 = 0) := h0
      have HWs : Hid (wantA = renL p ats ∧ wantC = c) := HWa.out.1 h0
      have hM6 : M ≤ 6 := HM6.out h0
      have HRe0 : Hid _ := HRe.out h0
      have z1 : ((0 : Int) == 0) = true := rfl
      clear h0
      obtain ⟨iA, hiA, hA0, hA1, hA2⟩ := info_parts infoAtM
      have x1 : w3.cell? ⟨w.heap.size, 1, none⟩ = some (.slice co nc ccap) := H3.out.2.1.cell 1
      have g1 : w3.cell? ⟨GW, 1, none⟩ = some (.slice none 0 0) := HI3.out.1.cell 1
      have f1 : w3.frozen? ⟨GW, 1, none⟩ = false := HI3.out.1.frozen 1
      rw [HE.out, z1]
      clear z1
      go_wp2_with fail
      go_loopw [12, 13] (fun i _ wr => ∃ (k : Nat) (va : Value) (xs : List Value), k ≤ M ∧ i = .int .i64 k ∧ InM GW w2 wr va (.slice co nc ccap) ∧ wr.ownsRow (GW + 1) 49 4 va k xs ∧ ∀ (i : Nat) (a : At), (renL p (ats.take k))[i]? = some a → AtM (GW + 1) wr xs i a va) (fun i _ _ => M - (intOf i).toNat)
      case atStart => exact ⟨0, .slice none 0 0, [], Nat.zero_le _, rfl, HI3.out.set1 _, World.ownsRow_nil _ _ _ _, fun i a h => by simp [renL] at h⟩
      case round =>
        clear x1 g1 f1
        obtain ⟨k, va, xs, hk, rfl, hI, hO, hAt⟩ := hrel
        have HI : Hid (InM GW w2 wr va (.slice co nc ccap)) := hI
        have HO : Hid (wr.ownsRow (GW + 1) 49 4 va k xs) := hO
        have HAt : Hid (∀ (i : Nat) (a : At), (renL p (ats.take k))[i]? = some a → AtM (GW + 1) wr xs i a va) := hAt
        have Hr : Hid (Held w wr #[.slice ao M acap, .slice co nc ccap] p D) := H2.out.step hI.2.1 HGs.out
        clear hI hO hAt
        obtain ⟨oA, nA, cA, rfl⟩ := own_sliceM HO.out
        have x0 : wr.cell? ⟨w.heap.size, 0, none⟩ = some (.slice ao M acap) := Hr.out.2.1.cell 0
        by_cases hlt : k < M
        · obtain ⟨a, ha⟩ : ∃ a, ats[k]? = some a := ⟨_, List.getElem?_eq_getElem (by rw [← HMa.out]; exact hlt)⟩
          have hAr := HA.out.below Hr.out.1
          obtain ⟨bs, os, hao, hat⟩ : ∃ bs os, ao = some ⟨bs, os, none⟩ ∧ AtomAt wr bs (os + k * 4) a := by
            rcases hAr with ⟨_, _, hv, h0⟩ | ⟨b, off, cap, hv, _, _, _, h⟩
            · rw [h0] at ha; cases ha
            · obtain ⟨h1, _, _⟩ := Value.slice.inj hv
              exact ⟨b, off, h1, h k a ha⟩
          subst hao
          obtain ⟨vs, vt, c0, c1, c2, c3, r1, r2⟩ := hat
          obtain ⟨sao, scap, rfl, _⟩ := reads_sliceM r1
          obtain ⟨tao, tcap, rfl, _⟩ := reads_sliceM r2
          obtain ⟨HR1, HR2⟩ := HRe0.out k a ha
          have HR1 : Hid _ := HR1
          have HR2 : Hid _ := HR2
          have Hr1 : Hid (Reads wr (.slice sao a.s.length scap) a.s) := r1
          have Hr2 : Hid (Reads wr (.slice tao a.t.length tcap) a.t) := r2
          have HTk : Hid (renL p (ats.take (k + 1)) = renL p (ats.take k) ++ [renA p a]) := by
            have hkl : k < ats.length := by rw [← HMa.out]; exact hlt
            have e : ats[k] = a := Option.some.inj ((List.getElem?_eq_getElem hkl).symm.trans ha)
            unfold Hid renL
            rw [List.take_succ_eq_append_getElem hkl, List.map_append, e]
            rfl
          clear r1 r2 ha hAr
          obtain ⟨ak, hak⟩ : ∃ x, x = a.k := ⟨_, rfl⟩
          obtain ⟨an, han⟩ : ∃ x, x = a.n := ⟨_, rfl⟩
          obtain ⟨ls, hls⟩ : ∃ x, x = a.s.length := ⟨_, rfl⟩
          obtain ⟨lt, hlt2⟩ : ∃ x, x = a.t.length := ⟨_, rfl⟩
          rw [← hak] at c0
          rw [← han] at c3
          rw [← hls] at c1 Hr1
          rw [← hlt2] at c2 Hr2
          have HEq : Hid (a.k = ak ∧ a.n = an) := ⟨hak.symm, han.symm⟩
          clear hak han hls hlt2
          obtain ⟨GA, hGA⟩ : ∃ G, G = wr.heap.size := ⟨_, rfl⟩
          obtain ⟨w5, hw5⟩ : ∃ x, x = wr.alloc (.cells #[.int .i64 ak, .slice sao ls scap, .slice tao lt tcap, .int .i64 an] 49) := ⟨_, rfl⟩
          have B5 : Hid (Below wr.heap.size wr w5) := by unfold Hid; rw [hw5]; exact below_alloc1 _ _
          have K5 : Hid (Blk w5 GA 49 #[.int .i64 ak, .slice sao ls scap, .slice tao lt tcap, .int .i64 an]) := by unfold Hid; rw [hw5, hGA]; exact Blk.new _ _ _
          have HGA : Hid (wr.heap.size = GA) := hGA.symm
          go_upto_region 12 with fail
          rw [← hw5, ← hGA]
          clear hw5 hGA c0 c1 c2 c3 x0
          have H5 : Hid (Held w w5 #[.slice (some ⟨bs, os, none⟩) M acap, .slice co nc ccap] p D) := Hr.out.below B5.out
          have k1 : w5.cell? ⟨GA, 1, none⟩ = some (.slice sao ls scap) := K5.out.cell 1
          have y0 : w5.cell? ⟨w.heap.size + 1, 0, none⟩ = some (.int .i64 (p 0)) := H5.out.2.2.1.cell 0
          have y1 : w5.cell? ⟨w.heap.size + 1, 1, none⟩ = some (.int .i64 (p 1)) := H5.out.2.2.1.cell 1
          have y2 : w5.cell? ⟨w.heap.size + 1, 2, none⟩ = some (.int .i64 (p 2)) := H5.out.2.2.1.cell 2
          go_wp2_with fail
          go_at_call 23
          refine (HR1.out _ _ (Hr1.out.below B5.out)).mono ?_
          rintro e w6 ⟨v1, K1, rfl, hK1, hO1, hb⟩
          have hv1 := own_sliceM hO1
          obtain ⟨o1, n1, q1, rfl⟩ := hv1
          have B6 : Hid (Below wr.heap.size wr w6) := B5.out.trans (hb.mono B5.out.size)
          have K6 : Hid (Blk w6 GA 49 #[.int .i64 ak, .slice sao ls scap, .slice tao lt tcap, .int .i64 an]) := K5.out.below hb
          have HK1 : Hid (GA < K1) := by unfold Hid; have := K5.out.lt; omega
          have HO1 : Hid (w6.ownsRow K1 3 1 (.slice o1 n1 q1) a.s.length ((renT p a.s).map (Value.int .i64))) := hO1
          clear hb hK1 hO1 k1 y0 y1 y2
          obtain ⟨w7, hw7⟩ : ∃ x, x = w6.setCell ⟨GA, 1, none⟩ (.slice o1 n1 q1) := ⟨_, rfl⟩
          have K7 : Hid (Blk w7 GA 49 #[.int .i64 ak, .slice o1 n1 q1, .slice tao lt tcap, .int .i64 an]) := by
            unfold Hid; rw [hw7]; have h := K6.out.set 1 (.slice o1 n1 q1); simpa using h
          have B7 : Hid (Below wr.heap.size wr w7) := by unfold Hid; rw [hw7]; exact B6.out.setCell (Nat.le_of_eq HGA.out) _
          have HO7 : Hid (w7.ownsRow K1 3 1 (.slice o1 n1 q1) a.s.length ((renT p a.s).map (Value.int .i64))) := by unfold Hid; rw [hw7]; exact ownsRow_setM HO1.out HK1.out
          have k1 : w6.cell? ⟨GA, 1, none⟩ = some (.slice sao ls scap) := K6.out.cell 1
          have f1 : w6.frozen? ⟨GA, 1, none⟩ = false := K6.out.frozen 1
          go_upto_region 13 with fail
          rw [← hw7]
          clear hw7 k1 f1 HO1
          have H7 : Hid (Held w w7 #[.slice (some ⟨bs, os, none⟩) M acap, .slice co nc ccap] p D) := Hr.out.below B7.out
          have k1 : w7.cell? ⟨GA, 2, none⟩ = some (.slice tao lt tcap) := K7.out.cell 2
          have y0 : w7.cell? ⟨w.heap.size + 1, 0, none⟩ = some (.int .i64 (p 0)) := H7.out.2.2.1.cell 0
          have y1 : w7.cell? ⟨w.heap.size + 1, 1, none⟩ = some (.int .i64 (p 1)) := H7.out.2.2.1.cell 1
          have y2 : w7.cell? ⟨w.heap.size + 1, 2, none⟩ = some (.int .i64 (p 2)) := H7.out.2.2.1.cell 2
          go_wp2_with fail
          go_at_call 23
          refine (HR2.out _ _ (Hr2.out.below B7.out)).mono ?_
          rintro e w8 ⟨v2, K2, rfl, hK2, hO2, hb⟩
          have hv2 := own_sliceM hO2
          obtain ⟨o2, n2, q2, rfl⟩ := hv2
          have B8 : Hid (Below wr.heap.size wr w8) := B7.out.trans (hb.mono B7.out.size)
          have K8 : Hid (Blk w8 GA 49 #[.int .i64 ak, .slice o1 n1 q1, .slice tao lt tcap, .int .i64 an]) := K7.out.below hb
          have HK2 : Hid (GA < K2) := by unfold Hid; have := K7.out.lt; omega
          have HO8 : Hid (w8.ownsRow K1 3 1 (.slice o1 n1 q1) a.s.length ((renT p a.s).map (Value.int .i64))) := ownsRow_belowM HO7.out hb
          have HP8 : Hid (w8.ownsRow K2 3 1 (.slice o2 n2 q2) a.t.length ((renT p a.t).map (Value.int .i64))) := hO2
          clear hb hK2 hO2 k1 y0 y1 y2
          obtain ⟨w9, hw9⟩ : ∃ x, x = w8.setCell ⟨GA, 2, none⟩ (.slice o2 n2 q2) := ⟨_, rfl⟩
          have K9 : Hid (Blk w9 GA 49 #[.int .i64 ak, .slice o1 n1 q1, .slice o2 n2 q2, .int .i64 an]) := by
            unfold Hid; rw [hw9]; have h := K8.out.set 2 (.slice o2 n2 q2); simpa using h
          have B9 : Hid (Below wr.heap.size wr w9) := by unfold Hid; rw [hw9]; exact B8.out.setCell (Nat.le_of_eq HGA.out) _
          have HO9 : Hid (w9.ownsRow K1 3 1 (.slice o1 n1 q1) a.s.length ((renT p a.s).map (Value.int .i64))) := by unfold Hid; rw [hw9]; exact ownsRow_setM HO8.out HK1.out
          have HP9 : Hid (w9.ownsRow K2 3 1 (.slice o2 n2 q2) a.t.length ((renT p a.t).map (Value.int .i64))) := by unfold Hid; rw [hw9]; exact ownsRow_setM HP8.out HK2.out
          have k1 : w8.cell? ⟨GA, 2, none⟩ = some (.slice tao lt tcap) := K8.out.cell 2
          have f1 : w8.frozen? ⟨GA, 2, none⟩ = false := K8.out.frozen 2
          go_upto_region 14 with fail
          rw [← hw9]
          clear hw9 k1 f1 HO8 HP8
          have HI9 : Hid (InM GW w2 w9 (.slice oA nA cA) (.slice co nc ccap)) := HI.out.below B9.out
          have HA9 : Hid (w9.ownsRow (GW + 1) 49 4 (.slice oA nA cA) k xs) := ownsRow_belowM HO.out B9.out
          have HAt9 : Hid (∀ (i : Nat) (a : At), (renL p (ats.take k))[i]? = some a → AtM (GW + 1) w9 xs i a (.slice oA nA cA)) := fun i a h => (HAt.out i a h).below B9.out
          have HrA : Hid (∀ q, (Value.slice oA nA cA).ownBlock = some q → q < wr.heap.size) := fun q hq => (row_atM HO.out q hq).2
          have HGr : Hid (GW < wr.heap.size) := HI.out.2.2
          have p0 : w9.cell? ⟨GW, 0, none⟩ = some (.slice oA nA cA) := HI9.out.1.cell 0
          have y0 : w9.cell? ⟨GA, 0, none⟩ = some (.int .i64 ak) := K9.out.cell 0
          have y1 : w9.cell? ⟨GA, 1, none⟩ = some (.slice o1 n1 q1) := K9.out.cell 1
          have y2 : w9.cell? ⟨GA, 2, none⟩ = some (.slice o2 n2 q2) := K9.out.cell 2
          have y3 : w9.cell? ⟨GA, 3, none⟩ = some (.int .i64 an) := K9.out.cell 3
          obtain ⟨wa, hwa⟩ : ∃ wa, wa = w9.alloc (.cells #[.int .i64 ak, .slice o1 n1 q1, .slice o2 n2 q2, .int .i64 an] 49) := ⟨_, rfl⟩
          have HIa : Hid (InM GW w2 wa (.slice oA nA cA) (.slice co nc ccap)) := by unfold Hid; rw [hwa]; exact HI9.out.alloc _
          have HAa : Hid (wa.ownsRow (GW + 1) 49 4 (.slice oA nA cA) k xs) := by unfold Hid; rw [hwa]; exact HA9.out.alloc _
          have HWa : Hid (Below w9.heap.size w9 wa) := by unfold Hid; rw [hwa]; exact below_alloc1 _ _
          have HCa : Hid (∀ q u, ([.int .i64 ak, .slice o1 n1 q1, .slice o2 n2 q2, .int .i64 an] : List Value)[q]? = some u → wa.cell? ((⟨w9.heap.size, 0, none⟩ : Addr).add q) = some u) := by unfold Hid; rw [hwa]; exact World.news_of_block (cs := #[.int .i64 ak, .slice o1 n1 q1, .slice o2 n2 q2, .int .i64 an]) (t := 49) (fr := (0, 0)) (heap_alloc_new w9 _)
          go_wp2_with (first | (at_builtin; rw [← hwa]; refine wpList_append_own_at _ rfl (.tmp 65) (.tmp 67) 22 rfl (GW + 1) 49 iA (.agg #[.int .i64 0, .slice none 0 0, .slice none 0 0, .int .i64 0]) 4 64 Tryd.underlying22 hiA hA0 hA1 hA2 rfl (by decide) (.slice oA nA cA) k xs rfl HAa.out ⟨w9.heap.size, 0, none⟩ 1 1 [.int .i64 ak, .slice o1 n1 q1, .slice o2 n2 q2, .int .i64 an] rfl rfl HCa.out ?e2 ?e3 ?e4 ?e5 ?_))
          case e2 => intro u hu; simp at hu; rcases hu with rfl | rfl | rfl | rfl <;> rfl
          case e3 => unfold maxLen; omega
          case e4 => omega
          case e5 => have := HIa.out.2.2; omega
          intro v' w' hown hgrow _ hat
          rw [← hwa] at hgrow
          have hwas : wa.heap.size = w9.heap.size + 1 := by rw [hwa]; simp
          have hat' : v'.ownBlock = (Value.slice oA nA cA).ownBlock ∨ v'.ownBlock = some wa.heap.size := by
            rcases hat with h | h
            · exact Or.inl h
            · right; rw [h]; first | rfl | rw [hwas]
          clear hwa hat hwas
          obtain ⟨o', n', c', rfl⟩ := own_sliceM hown
          have HIb : Hid (InM GW w2 w' (.slice oA nA cA) (.slice co nc ccap)) := HIa.out.grown hgrow (fun q hq => by have := (row_atM HAa.out q hq).1; omega)
          have HIc : Hid (InM GW w2 (w'.setCell ⟨GW, 0, none⟩ (.slice o' n' c')) (.slice o' n' c') (.slice co nc ccap)) := HIb.out.set0 _
          have HAc : Hid ((w'.setCell ⟨GW, 0, none⟩ (.slice o' n' c')).ownsRow (GW + 1) 49 4 (.slice o' n' c') (k + 1) (xs ++ [.int .i64 ak, .slice o1 n1 q1, .slice o2 n2 q2, .int .i64 an])) := ownsRow_setM hown (by omega)
          have HAt2 : Hid (∀ (i : Nat) (b : At), (renL p (ats.take (k + 1)))[i]? = some b → AtM (GW + 1) (w'.setCell ⟨GW, 0, none⟩ (.slice o' n' c')) (xs ++ [.int .i64 ak, .slice o1 n1 q1, .slice o2 n2 q2, .int .i64 an]) i b (.slice o' n' c')) := by
            have hxl : xs.length = k * 4 := HAa.out.1
            have hll : (renL p (ats.take k)).length = k := by unfold renL; rw [List.length_map, List.length_take, ← HMa.out]; omega
            have keep : ∀ (v : Value) (t : List Int), Reads w9 v t → NewM (GW + 1) v → ApartM v t (.slice oA nA cA) → Reads (w'.setCell ⟨GW, 0, none⟩ (.slice o' n' c')) v t ∧ NewM (GW + 1) v ∧ ApartM v t (.slice o' n' c') := fun v t h1 h2 h3 =>
              ⟨((h1.below HWa.out).keptM hgrow h3).storeNewM h2 (by omega), h2, h3.more (h1.below HWa.out) (Nat.le_refl _) hat'⟩
            have hlen : ∀ t : List Int, (renT p t).length = t.length := fun t => by unfold renT; simp
            have g63 : ∀ (t : List Int) (W : World) (v : Value), Reads W v t → t.length ≤ 9223372036854775807 := fun t W v h => by obtain ⟨_, _, _, h⟩ := reads_sliceM h; exact h
            have R1 : Reads w9 (.slice o1 n1 q1) (renT p a.s) := own_readsM (by rw [hlen]; exact HO9.out) (by rw [hlen]; exact g63 _ _ _ Hr1.out)
            have R2 : Reads w9 (.slice o2 n2 q2) (renT p a.t) := own_readsM (by rw [hlen]; exact HP9.out) (by rw [hlen]; exact g63 _ _ _ Hr2.out)
            have N1 := newM_own HO9.out
            have N2 := newM_own HP9.out
            have hG1 : GW + 1 ≤ K1 := by have := HK1.out; have := HGA.out; have := HGr.out; omega
            have hG2 : GW + 1 ≤ K2 := by have := HK2.out; have := HGA.out; have := HGr.out; omega
            intro i b hb
            rw [HTk.out] at hb
            rcases Nat.lt_or_ge i k with hi' | hi'
            · rw [List.getElem?_append_left (by rw [hll]; exact hi')] at hb
              obtain ⟨vs, vt, ⟨e1, e2, e3, e4⟩, ⟨f1, f2, f3⟩, g1, g2, g3⟩ := HAt9.out i b hb
              exact ⟨vs, vt, ⟨by rw [List.getElem?_append_left (by omega)]; exact e1, by rw [List.getElem?_append_left (by omega)]; exact e2, by rw [List.getElem?_append_left (by omega)]; exact e3, by rw [List.getElem?_append_left (by omega)]; exact e4⟩, keep _ _ f1 f2 f3, keep _ _ g1 g2 g3⟩
            · rw [List.getElem?_append_right (by rw [hll]; exact hi'), hll] at hb
              obtain rfl : i = k := by
                rcases Nat.lt_or_ge 0 (i - k) with h | h
                · rw [List.getElem?_eq_none (by simp; omega)] at hb; cases hb
                · omega
              rw [Nat.sub_self] at hb
              have eb : renA p a = b := by simpa using hb
              subst eb
              obtain ⟨h5, h6⟩ := HEq.out
              refine ⟨.slice o1 n1 q1, .slice o2 n2 q2, ⟨?_, ?_, ?_, ?_⟩, keep _ _ R1 (newM_mono N1 hG1) (ApartM.new N1 fun q hq => by have := HrA.out q hq; have := HK1.out; have := HGA.out; omega), keep _ _ R2 (newM_mono N2 hG2) (ApartM.new N2 fun q hq => by have := HrA.out q hq; have := HK2.out; have := HGA.out; omega)⟩
              · rw [List.getElem?_append_right (by omega), hxl, Nat.sub_self]; show some (Value.int .i64 ak) = some (Value.int .i64 a.k); rw [h5]
              · rw [List.getElem?_append_right (by omega), hxl, show i * 4 + 1 - i * 4 = 1 by omega]; rfl
              · rw [List.getElem?_append_right (by omega), hxl, show i * 4 + 2 - i * 4 = 2 by omega]; rfl
              · rw [List.getElem?_append_right (by omega), hxl, show i * 4 + 3 - i * 4 = 3 by omega]; show some (Value.int .i64 an) = some (Value.int .i64 a.n); rw [h6]
          clear hown hgrow hat' p0 y0 y1 y2 y3
          have p0 : w'.cell? ⟨GW, 0, none⟩ = some (.slice oA nA cA) := HIb.out.1.cell 0
          have f0 : w'.frozen? ⟨GW, 0, none⟩ = false := HIb.out.1.frozen 0
          go_wp2_with fail
          go_roundw
          case rel => exact ⟨k + 1, .slice o' n' c', _, by omega, by go_num, HIc.out, HAc.out, HAt2.out⟩
          case measure => simp [intOf]; omega
        · obtain rfl : k = M := by omega
          have HRdA : Hid (ReadsA wr (.slice oA nA cA) wantA) := by
            unfold Hid
            rw [HWs.out.1]
            have et : ats.take k = ats := by rw [HMa.out, List.take_length]
            have h := HAt.out
            rw [et] at h
            exact own_readsA HO.out (by unfold renL; rw [List.length_map]; exact HMa.out) (fun i a h' => (h i a h').to) (by omega)
          have HRdC : Hid (Reads wr (.slice co nc ccap) wantC) := by unfold Hid; rw [HWs.out.2]; exact HC.out.below Hr.out.1
          go_wp2_with fail
          go_meet
          case rel => exact ⟨by rw [HE.out], .slice oA nA cA, .slice co nc ccap, HI.out, HRdA.out, HRdC.out⟩
    · have HWs : Hid (wantA = [] ∧ wantC = []) := HWa.out.2 h0
      have d0 : (e1 == 0) = false := by simp [h0]
      clear h0
      go_wp2_with fail
      go_meet
      case rel => exact ⟨rfl, .slice none 0 0, .slice none 0 0, HI3.out, by rw [HWs.out.1]; exact Or.inl ⟨none, 0, rfl, rfl⟩, by rw [HWs.out.2]; exact Or.inl ⟨none, 0, rfl, rfl⟩⟩
  case rest =>
  obtain ⟨rfl, ua, uc, hI4, hRA4, hRC4⟩ := hcut
  obtain ⟨w4, hw4⟩ : ∃ x, x = wc := ⟨_, rfl⟩
  subst hw4
  have H4 : Hid (Held w w4 #[.slice ao M acap, .slice co nc ccap] p D) := H2.out.step hI4.2.1 HGs.out
  have HI4 : Hid (InM GW w2 w4 ua uc) := hI4
  obtain ⟨uo1, uc1, rfl, _⟩ := hRA4.slice
  obtain ⟨uo2, uc2, rfl, _⟩ := reads_sliceM hRC4
  have HRA4 : Hid (ReadsA w4 (.slice uo1 wantA.length uc1) wantA) := hRA4
  have HRC4 : Hid (Reads w4 (.slice uo2 wantC.length uc2) wantC) := hRC4
  obtain ⟨ul1, hul1⟩ : ∃ n, n = wantA.length := ⟨_, rfl⟩
  obtain ⟨ul2, hul2⟩ : ∃ n, n = wantC.length := ⟨_, rfl⟩
  rw [← hul1] at HI4 HRA4
  rw [← hul2] at HI4 HRC4
  clear hI4 hRA4 hRC4 hul1 hul2 HI3 H3 HRe HWa HM6
  have x0 : w4.cell? ⟨w.heap.size, 0, none⟩ = some (.slice ao M acap) := H4.out.2.1.cell 0
  have x1 : w4.cell? ⟨w.heap.size, 1, none⟩ = some (.slice co nc ccap) := H4.out.2.1.cell 1
  have y0 : w4.cell? ⟨w.heap.size + 1, 0, none⟩ = some (.int .i64 (p 0)) := H4.out.2.2.1.cell 0
  have y1 : w4.cell? ⟨w.heap.size + 1, 1, none⟩ = some (.int .i64 (p 1)) := H4.out.2.2.1.cell 1
  have y2 : w4.cell? ⟨w.heap.size + 1, 2, none⟩ = some (.int .i64 (p 2)) := H4.out.2.2.1.cell 2
  go_wp2_with fail
  go_at_call 24
  refine (HNm.out _ H4.out.1).mono ?_
  rintro e w5 ⟨⟨o1, l1, q1, o2, l2, q2, rfl, hSf⟩, hb⟩
  have H5 : Hid (Held w w5 #[.slice ao M acap, .slice co nc ccap] p D) := H4.out.below hb
  have HI5 : Hid (InM GW w2 w5 (.slice uo1 ul1 uc1) (.slice uo2 ul2 uc2)) := HI4.out.below hb
  have HRA5 : Hid (ReadsA w5 (.slice uo1 ul1 uc1) wantA) := HRA4.out.below hb
  have HRC5 : Hid (Reads w5 (.slice uo2 ul2 uc2) wantC) := HRC4.out.below hb
  have HSf : Hid _ := hSf
  clear hb hSf x0 x1 y0 y1 y2 HNm HI4 HRA4 HRC4
  obtain ⟨GX, hGX⟩ : ∃ G, G = w5.heap.size := ⟨_, rfl⟩
  obtain ⟨w6, hw6⟩ : ∃ x, x = w5.alloc (.cells #[.slice o1 l1 q1, .slice o2 l2 q2] 25) := ⟨_, rfl⟩
  have B56 : Hid (Below w5.heap.size w5 w6) := by unfold Hid; rw [hw6]; exact below_alloc1 _ _
  have KX6 : Hid (Blk w6 GX 25 #[.slice o1 l1 q1, .slice o2 l2 q2]) := by unfold Hid; rw [hw6, hGX]; exact Blk.new _ _ _
  go_upto_region 16 with fail
  rw [← hw6, ← hGX]
  clear hw6 hGX
  have H6 : Hid (Held w w6 #[.slice ao M acap, .slice co nc ccap] p D) := H5.out.below B56.out
  go_wp2_with fail
  go_at_call 17
  refine (HEr.out e1 _ H6.out.1).mono ?_
  rintro e w7 ⟨rfl, hb⟩
  have H7 : Hid (Held w w7 #[.slice ao M acap, .slice co nc ccap] p D) := H6.out.below hb
  have B57 : Hid (Below w5.heap.size w5 w7) := B56.out.trans (hb.mono B56.out.size)
  have KX7 : Hid (Blk w7 GX 25 #[.slice o1 l1 q1, .slice o2 l2 q2]) := KX6.out.below hb
  clear hb
  have HI7 : Hid (InM GW w2 w7 (.slice uo1 ul1 uc1) (.slice uo2 ul2 uc2)) := HI5.out.below B57.out
  have x0 : w7.cell? ⟨GX, 0, none⟩ = some (.slice o1 l1 q1) := KX7.out.cell 0
  have x1 : w7.cell? ⟨GX, 1, none⟩ = some (.slice o2 l2 q2) := KX7.out.cell 1
  have y0 : w7.cell? ⟨GW, 0, none⟩ = some (.slice uo1 ul1 uc1) := HI7.out.1.cell 0
  have y1 : w7.cell? ⟨GW, 1, none⟩ = some (.slice uo2 ul2 uc2) := HI7.out.1.cell 1
  go_wp2_with fail
  go_at_call 25
  refine (HSf.out _ _ _ B57.out (HRA5.out.below B57.out) (HRC5.out.below B57.out)).mono ?_
  rintro e w8 ⟨rfl, hb⟩
  have H8 : Hid (Held w w8 #[.slice ao M acap, .slice co nc ccap] p D) := H7.out.below hb
  clear hb x0 x1 y0 y1 HSf HRA5 HRC5 HI5 HI7 KX6 KX7 B56 B57 H5 H6 H7 H4
  obtain ⟨z0, z1, z2, z3⟩ := H8.out.2.2.2.cells4
  go_wp2_with fail
  go_at_call 13
  refine (HWo.out _).mono ?_
  rintro e w9 ⟨rfl, hb⟩
  have H9 : Hid (Held w w9 #[.slice ao M acap, .slice co nc ccap] p D) := H8.out.below hb
  clear hb z0 z1 z2 z3 H8
  go_upto_if 87 with fail
  go_cut [9, 10] from 86 (fun a s wx => a = .bool ob ∧ s = .int .i64 e2 ∧ w9 = wx)
  case first =>
    rcases (Bool.eq_false_or_eq_true ob).symm with hob | hob
    · have HE : Hid (e2 = 1) := by unfold Hid; rw [HF2.out, if_neg (by rw [hob]; decide)]
      have HB : Hid (ob = false) := hob
      clear hob
      rw [HB.out]
      go_wp2_with fail
      go_meet
      case rel => exact ⟨by rw [HB.out], by rw [HE.out], rfl⟩
    · have HE : Hid (e2 = ew) := by unfold Hid; rw [HF2.out, if_pos hob]
      have HB : Hid (ob = true) := hob
      clear hob
      rw [HB.out]
      go_wp2_with fail
      go_meet
      case rel => exact ⟨by rw [HB.out], by rw [HE.out], rfl⟩
  case rest =>
  obtain ⟨rfl, rfl, rfl⟩ := hcut
  obtain ⟨GO, hGO⟩ : ∃ G, G = w9.heap.size := ⟨_, rfl⟩
  obtain ⟨w10, hw10⟩ : ∃ x, x = w9.alloc (.cells #[.int .i64 0, .int .i64 0, .int .i64 0, .int .i64 0] 38) := ⟨_, rfl⟩
  have KO10 : Hid (Blk w10 GO 38 (arrW ⟨0, 0, 0, 0⟩)) := by unfold Hid; rw [hw10, hGO]; exact Blk.new _ _ _
  have BO10 : Hid (Below GO w9 w10) := by unfold Hid; rw [hw10, hGO]; exact below_alloc1 _ _
  have HGo : Hid (w.heap.size + 3 ≤ GO) := by unfold Hid; rw [hGO]; exact H9.out.size
  have HG9 : Hid (GO = w9.heap.size) := hGO
  have H10 : Hid (Held w w10 #[.slice ao M acap, .slice co nc ccap] p D) := H9.out.step BO10.out HGo.out
  go_upto_region 21 with fail
  rw [← hw10, ← hGO]
  clear hw10 hGO
  go_upto_if 89 with fail
  go_cut [10, 18] from 88 (fun a _ wx => a = .int .i64 e2 ∧ Blk wx GO 38 (arrW O2) ∧ Below GO w9 wx)
  case first =>
    by_cases h0 : e2 = 0
    · have HE : Hid (e2 = 0) := h0
      have HOs : Hid (O2 = turnTo p D 3) := HO2.out.1 h0
      have HPs : Hid (∀ k, k < 3 → ∃ j : Nat, j < 3 ∧ p k = j) := HP3.out h0
      have z1 : ((0 : Int) == 0) = true := rfl
      clear h0
      have x0 : w10.cell? ⟨w.heap.size + 1 + 1, 0, none⟩ = some (.int .i64 D.u) := H10.out.2.2.2.cell 0
      have g1 : w10.cell? ⟨GO, 0, none⟩ = some (.int .i64 0) := KO10.out.cell 0
      have f1 : w10.frozen? ⟨GO, 0, none⟩ = false := KO10.out.frozen 0
      rw [HE.out, z1]
      clear z1
      go_wp2_with fail
      go_loopw [18] (fun i wr => ∃ k : Nat, k ≤ 3 ∧ i = .int .i64 k ∧ Blk wr GO 38 (arrW (turnTo p D k)) ∧ Below GO w9 wr) (fun i _ => 3 - (intOf i).toNat)
      case atStart => exact ⟨0, by omega, rfl, by have h := KO10.out.set 0 (.int .i64 D.u); simpa [arrW, turnTo] using h, BO10.out.setCell (Nat.le_refl _) _⟩
      case round =>
        clear x0 g1 f1
        obtain ⟨k, hk, rfl, hKo, hBo⟩ := hrel
        have HKo : Hid (Blk wr GO 38 (arrW (turnTo p D k))) := hKo
        have HBo : Hid (Below GO w9 wr) := hBo
        have Hr : Hid (Held w wr #[.slice ao M acap, .slice co nc ccap] p D) := H9.out.step hBo HGo.out
        clear hKo hBo
        by_cases hlt : k < 3
        · obtain ⟨j, hj, hpj⟩ := HPs.out k hlt
          obtain ⟨x, hx⟩ : ∃ x, x = D.name k := ⟨_, rfl⟩
          have hk3 : k = 0 ∨ k = 1 ∨ k = 2 := by omega
          have y : wr.cell? ⟨w.heap.size + 1, k, none⟩ = some (.int .i64 j) := by
            rw [← hpj, Hr.out.2.2.1.cell k]
            rcases hk3 with rfl | rfl | rfl <;> rfl
          have z : wr.cell? ⟨w.heap.size + 1 + 1, 1 + k, none⟩ = some (.int .i64 x) := by rw [hx, Hr.out.2.2.2.cell, arrW_get D k hlt]
          have g : wr.cell? ⟨GO, 1 + j, none⟩ = some (.int .i64 ((turnTo p D k).name j)) := by rw [HKo.out.cell, arrW_get _ j hj]
          have f : wr.frozen? ⟨GO, 1 + j, none⟩ = false := HKo.out.frozen _
          have hS : arrW (setN (turnTo p D k) j x) = arrW (turnTo p D (k + 1)) := by show _ = arrW (setN (turnTo p D k) (p k) (D.name k)); rw [hpj, hx]
          have HS : Hid (Blk (wr.setCell ⟨GO, 1 + j, none⟩ (.int .i64 x)) GO 38 (arrW (turnTo p D (k + 1)))) := by
            have h := HKo.out.set (1 + j) (.int .i64 x)
            rw [arrW_set _ j hj, hS] at h
            exact h
          have HSb : Hid (Below GO w9 (wr.setCell ⟨GO, 1 + j, none⟩ (.int .i64 x))) := HBo.out.setCell (Nat.le_refl _) _
          clear hx hpj hk3 hS
          go_wp2_with fail
          go_region
          go_wp2_with fail
          exact ⟨⟨k + 1, by omega, by go_num, HS.out.drew, HSb.out.drew⟩, by simp [intOf]; omega⟩
        · obtain rfl : k = 3 := by omega
          have HK3 : Hid (Blk wr GO 38 (arrW O2)) := by unfold Hid; rw [HOs.out]; exact HKo.out
          go_wp2_with fail
          go_meet
          case rel => exact ⟨by rw [HE.out], HK3.out, HBo.out⟩
    · have HOs : Hid (O2 = ⟨0, 0, 0, 0⟩) := HO2.out.2 h0
      have d0 : (e2 == 0) = false := by simp [h0]
      clear h0
      go_wp2_with fail
      go_meet
      case rel => exact ⟨rfl, by rw [HOs.out]; exact KO10.out, BO10.out⟩
  case rest =>
  obtain ⟨rfl, hK, hB⟩ := hcut
  obtain ⟨w11, hw11⟩ : ∃ x, x = wc := ⟨_, rfl⟩
  subst hw11
  have H11 : Hid (Held w w11 #[.slice ao M acap, .slice co nc ccap] p D) := H9.out.step hB HGo.out
  have KO11 : Hid (Blk w11 GO 38 (arrW O2)) := hK
  have BO11 : Hid (Below GO w9 w11) := hB
  clear hK hB KO10 BO10 H10 HO2 HP3
  have y0 : w11.cell? ⟨w.heap.size + 1, 0, none⟩ = some (.int .i64 (p 0)) := H11.out.2.2.1.cell 0
  have y1 : w11.cell? ⟨w.heap.size + 1, 1, none⟩ = some (.int .i64 (p 1)) := H11.out.2.2.1.cell 1
  have y2 : w11.cell? ⟨w.heap.size + 1, 2, none⟩ = some (.int .i64 (p 2)) := H11.out.2.2.1.cell 2
  obtain ⟨z0, z1, z2, z3⟩ := H11.out.2.2.2.cells4
  go_wp2_with fail
  go_at_call 26
  refine (HTw.out _ H11.out.1).mono ?_
  rintro e w12 ⟨rfl, hb⟩
  have H12 : Hid (Held w w12 #[.slice ao M acap, .slice co nc ccap] p D) := H11.out.below hb
  have KO12 : Hid (Blk w12 GO 38 (arrW O2)) := KO11.out.below hb
  have BO12 : Hid (Below GO w9 w12) := BO11.out.trans (hb.mono (Nat.le_of_lt KO11.out.lt))
  clear hb y0 y1 y2 z0 z1 z2 z3 KO11 BO11 H11 HTw
  obtain ⟨GY, hGY⟩ : ∃ G, G = w12.heap.size := ⟨_, rfl⟩
  obtain ⟨w13, hw13⟩ : ∃ x, x = w12.alloc (.cells #[.int .i64 O2.u, .int .i64 O2.a, .int .i64 O2.b, .int .i64 O2.c] 38) := ⟨_, rfl⟩
  have B13 : Hid (Below w12.heap.size w12 w13) := by unfold Hid; rw [hw13]; exact below_alloc1 _ _
  have KY13 : Hid (Blk w13 GY 38 (arrW O2)) := by unfold Hid; rw [hw13, hGY]; exact Blk.new _ _ _
  go_upto_region 28 with fail
  rw [← hw13, ← hGY]
  clear hw13 hGY
  have H13 : Hid (Held w w13 #[.slice ao M acap, .slice co nc ccap] p D) := H12.out.below B13.out
  have KO13 : Hid (Blk w13 GO 38 (arrW O2)) := KO12.out.below B13.out
  have BO13 : Hid (Below GO w9 w13) := BO12.out.trans (B13.out.mono (Nat.le_of_lt KO12.out.lt))
  go_wp2_with fail
  go_at_call 17
  refine (HEr.out e2 _ H13.out.1).mono ?_
  rintro e w14 ⟨rfl, hb⟩
  have H14 : Hid (Held w w14 #[.slice ao M acap, .slice co nc ccap] p D) := H13.out.below hb
  have KO14 : Hid (Blk w14 GO 38 (arrW O2)) := KO13.out.below hb
  have BO14 : Hid (Below GO w9 w14) := BO13.out.trans (hb.mono (Nat.le_of_lt KO13.out.lt))
  have KY14 : Hid (Blk w14 GY 38 (arrW O2)) := KY13.out.below hb
  clear hb KO13 BO13 KY13 H13 B13 KO12 BO12 H12
  obtain ⟨x0, x1, x2, x3⟩ := KO14.out.cells4
  obtain ⟨y0, y1, y2, y3⟩ := KY14.out.cells4
  obtain ⟨z0, z1, z2, z3⟩ := H14.out.2.2.2.cells4
  have hq := sameW O2.u O2.a O2.b O2.c
  go_wp2_with fail
  go_at_call 13
  refine (HWo.out _).mono ?_
  rintro e w15 ⟨rfl, hb⟩
  have H15 : Hid (Held w w15 #[.slice ao M acap, .slice co nc ccap] p D) := H14.out.below hb
  have KO15 : Hid (Blk w15 GO 38 (arrW O2)) := KO14.out.below hb
  have BO15 : Hid (Below GO w9 w15) := BO14.out.trans (hb.mono (Nat.le_of_lt KO14.out.lt))
  clear hb hq x0 x1 x2 x3 y0 y1 y2 y3 z0 z1 z2 z3 KO14 BO14 KY14 H14
  obtain ⟨em, hem⟩ : ∃ em : Int, em = if ew = 0 then (if (nq : Int) = D.u then 0 else 3) else ew := ⟨_, rfl⟩
  have HEm : Hid (em = if ew = 0 then (if (nq : Int) = D.u then 0 else 3) else ew) := hem
  clear hem
  have z0 : w15.cell? ⟨w.heap.size + 1 + 1, 0, none⟩ = some (.int .i64 D.u) := H15.out.2.2.2.cell 0
  go_upto_region 30 with fail
  go_cut [130] from 122 (fun t wx => (∃ b : Bool, t = .bool b ∧ ((b = true ∧ em = 3) ∨ (b = false ∧ em = ew))) ∧ w15 = wx)
  case first =>
    by_cases h0 : ew = 0
    · have d0 : (ew == 0) = true := by simp [h0]
      by_cases h1 : (nq : Int) = D.u
      · have HE : Hid (em = ew) := by unfold Hid; rw [HEm.out, if_pos h0, if_pos h1, h0]
        have d1 : ((nq : Int) != D.u) = false := by simp [h1]
        clear h0 h1
        go_wp2_with fail
        go_meet
        case rel => exact ⟨⟨false, rfl, Or.inr ⟨rfl, HE.out⟩⟩, rfl⟩
      · have HE : Hid (em = 3) := by unfold Hid; rw [HEm.out, if_pos h0, if_neg h1]
        have d1 : ((nq : Int) != D.u) = true := by simp [h1]
        clear h0 h1
        go_wp2_with fail
        go_meet
        case rel => exact ⟨⟨true, rfl, Or.inl ⟨rfl, HE.out⟩⟩, rfl⟩
    · have HE : Hid (em = ew) := by unfold Hid; rw [HEm.out, if_neg h0]
      have d0 : (ew == 0) = false := by simp [h0]
      clear h0
      go_wp2_with fail
      go_meet
      case rel => exact ⟨⟨false, rfl, Or.inr ⟨rfl, HE.out⟩⟩, rfl⟩
  case rest =>
  obtain ⟨⟨tb, rfl, htb⟩, rfl⟩ := hcut
  have HTb : Hid ((tb = true ∧ em = 3) ∨ (tb = false ∧ em = ew)) := htb
  clear htb z0
  go_upto_if 130 with fail
  go_cut [10] from 122 (fun s wx => s = .int .i64 em ∧ w15 = wx)
  case first =>
    rcases HTb.out with ⟨rfl, h1⟩ | ⟨rfl, h1⟩
    · have HE : Hid (em = 3) := h1
      clear h1 HTb
      go_wp2_with fail
      go_meet
      case rel => exact ⟨by rw [HE.out], rfl⟩
    · have HE : Hid (em = ew) := h1
      clear h1 HTb
      go_wp2_with fail
      go_meet
      case rel => exact ⟨by rw [HE.out], rfl⟩
  case rest =>
  obtain ⟨rfl, rfl⟩ := hcut
  clear HTb
  go_upto_if 132 with fail
  go_cut [10, 21] from 131 (fun s _ wx => s = .int .i64 e3 ∧ w15 = wx)
  case first =>
    by_cases h0 : em = 0
    · have H0 : Hid (em = 0) := h0
      obtain ⟨hw0, hu0⟩ : ew = 0 ∧ (nq : Int) = D.u := by
        have h := HEm.out
        by_cases g : ew = 0
        · rw [if_pos g] at h
          by_cases g2 : (nq : Int) = D.u
          · exact ⟨g, g2⟩
          · rw [if_neg g2] at h; omega
        · rw [if_neg g] at h; omega
      have HE3 : Hid (e3 = if oq = true then 0 else 1) := by unfold Hid; rw [HF3.out, if_pos hw0, if_pos hu0]
      have z1 : ((0 : Int) == 0) = true := rfl
      clear h0 hw0 hu0
      rw [H0.out, z1]
      clear z1
      go_wp2_with fail
      go_at_call 22
      refine (HOq.out _ H15.out.1).mono ?_
      rintro e w' ⟨rfl, rfl⟩
      rcases (Bool.eq_false_or_eq_true oq).symm with ho | ho
      · have HE : Hid (e3 = 1) := by unfold Hid; rw [HE3.out, if_neg (by rw [ho]; decide)]
        rw [ho]
        clear ho HE3
        go_wp2_with fail
        go_meet
        case rel => exact ⟨by rw [HE.out], rfl⟩
      · have HE : Hid (e3 = 0) := by unfold Hid; rw [HE3.out, if_pos ho]
        rw [ho]
        clear ho HE3
        go_wp2_with fail
        go_meet
        case rel => exact ⟨by rw [HE.out], rfl⟩
    · have HE : Hid (e3 = em) := by
        have h := HEm.out
        unfold Hid
        rw [HF3.out]
        by_cases g : ew = 0
        · rw [if_pos g] at h ⊢
          by_cases g2 : (nq : Int) = D.u
          · rw [if_pos g2] at h; exact absurd h h0
          · rw [if_neg g2] at h ⊢; exact h.symm
        · rw [if_neg g] at h ⊢; exact h.symm
      have d0 : (em == 0) = false := by simp [h0]
      clear h0
      go_wp2_with fail
      go_meet
      case rel => exact ⟨by rw [HE.out], rfl⟩
  case rest =>
  obtain ⟨rfl, rfl⟩ := hcut
  clear HEm HOq HOp HFo HWo HF1 HF2
  obtain ⟨x0, x1, x2, x3⟩ := KO15.out.cells4
  obtain ⟨f0, f1, f2, f3⟩ := KO15.out.frozen4
  obtain ⟨w16, hw16⟩ : ∃ x, x = (((w15.setCell ⟨GO, 0, none⟩ (.int .i64 0)).setCell ⟨GO, 1, none⟩ (.int .i64 0)).setCell ⟨GO, 2, none⟩ (.int .i64 0)).setCell ⟨GO, 3, none⟩ (.int .i64 0) := ⟨_, rfl⟩
  have KO16 : Hid (Blk w16 GO 38 (arrW ⟨0, 0, 0, 0⟩)) := by
    unfold Hid
    rw [hw16]
    have h := (((KO15.out.set 0 (.int .i64 0)).set 1 (.int .i64 0)).set 2 (.int .i64 0)).set 3 (.int .i64 0)
    simpa [arrW] using h
  have BO16 : Hid (Below GO w9 w16) := by unfold Hid; rw [hw16]; exact (((BO15.out.setCell (Nat.le_refl _) _).setCell (Nat.le_refl _) _).setCell (Nat.le_refl _) _).setCell (Nat.le_refl _) _
  go_upto_region 37 with fail
  rw [← hw16]
  clear hw16 x0 x1 x2 x3 f0 f1 f2 f3 KO15 BO15 H15
  have H16 : Hid (Held w w16 #[.slice ao M acap, .slice co nc ccap] p D) := H9.out.step BO16.out HGo.out
  go_upto_if 139 with fail
  go_cut [10, 22, 23, 24] from 138 (fun a _ _ _ wx => a = .int .i64 e3 ∧ Blk wx GO 38 (arrW O3) ∧ Below GO w9 wx)
  case first =>
    by_cases h0 : e3 = 0
    · have HE : Hid (e3 = 0) := h0
      have HOs : Hid (O3 = mixW q D nq 0) := HO3.out.1 h0
      have HQs : Hid (nq ≤ 6 ∧ ∀ x ∈ q, 0 ≤ x ∧ x ≤ 5) := HQ6.out h0
      have HHs : Hid _ := HHa.out h0
      have HPs : Hid _ := HPo.out h0
      have hu : (nq : Int) = D.u := by
        have h := HF3.out
        by_cases g : ew = 0
        · rw [if_pos g] at h
          by_cases g2 : (nq : Int) = D.u
          · exact g2
          · rw [if_neg g2] at h; omega
        · rw [if_neg g] at h; omega
      have HU : Hid ((nq : Int) = D.u) := hu
      have z1 : ((0 : Int) == 0) = true := rfl
      clear h0 hu
      have x0 : w16.cell? ⟨w.heap.size + 1 + 1, 0, none⟩ = some (.int .i64 D.u) := H16.out.2.2.2.cell 0
      have g1 : w16.cell? ⟨GO, 0, none⟩ = some (.int .i64 0) := KO16.out.cell 0
      have f1 : w16.frozen? ⟨GO, 0, none⟩ = false := KO16.out.frozen 0
      rw [HE.out, z1]
      clear z1
      go_wp2_with fail
      go_loopw [22, 23, 24] (fun i _ _ wr => ∃ k : Nat, k ≤ nq ∧ i = .int .i64 k ∧ Blk wr GO 38 (arrW (mixW q D k 0)) ∧ Below GO w9 wr) (fun i _ _ _ => nq - (intOf i).toNat)
      case atStart => exact ⟨0, Nat.zero_le _, rfl, by have h := KO16.out.set 0 (.int .i64 D.u); simpa [arrW, mixW, movedN] using h, BO16.out.setCell (Nat.le_refl _) _⟩
      case round =>
        clear x0 g1 f1
        obtain ⟨k, hk, rfl, hKo, hBo⟩ := hrel
        have HKo : Hid (Blk wr GO 38 (arrW (mixW q D k 0))) := hKo
        have HBo : Hid (Below GO w9 wr) := hBo
        have Hr : Hid (Held w wr #[.slice ao M acap, .slice co nc ccap] p D) := H9.out.step hBo HGo.out
        clear hKo hBo
        have z0 : wr.cell? ⟨w.heap.size + 1 + 1, 0, none⟩ = some (.int .i64 D.u) := Hr.out.2.2.2.cell 0
        by_cases hlt : k < nq
        · have hlt' : (k : Int) < D.u := by have := HU.out; omega
          go_wp2_with fail
          clear z0
          go_loopw [23, 24] (fun j _ wi => ∃ m : Nat, m ≤ 3 ∧ j = .int .i64 m ∧ Blk wi GO 38 (arrW (mixW q D k m)) ∧ Below GO w9 wi) (fun j _ _ => 3 - (intOf j).toNat)
          case atStart => exact ⟨0, by omega, rfl, HKo.out, HBo.out⟩
          case round =>
            obtain ⟨m, hm, rfl, hKi, hBi⟩ := hrel
            have HKi : Hid (Blk wr GO 38 (arrW (mixW q D k m))) := hKi
            have HBi : Hid (Below GO w9 wr) := hBi
            have Hi : Hid (Held w wr #[.slice ao M acap, .slice co nc ccap] p D) := H9.out.step hBi HGo.out
            clear hKi hBi HKo HBo Hr
            by_cases hm3 : m < 3
            · obtain ⟨x, hx⟩ : ∃ x, x = D.name m := ⟨_, rfl⟩
              have z : wr.cell? ⟨w.heap.size + 1 + 1, 1 + m, none⟩ = some (.int .i64 x) := by rw [hx, Hi.out.2.2.2.cell, arrW_get D m hm3]
              have HHm : Hid (∀ W, Calls Tryd.prog 27 #[.int .i64 x, .int .i64 k] W fun r w' => r = .returned (.bool (hasB x k)) ∧ W = w') := by rw [hx]; exact HHs.out m k hm3 hlt
              have HSet : Hid (hasB x k = true → setN (mixW q D k m) m ((mixW q D k m).name m + pw (q.getD k 0).toNat) = mixW q D k (m + 1)) := fun h => by
                have e := mixW_set q D k m hm3
                rw [hx] at h
                rw [if_pos h] at e
                exact e
              have HKeep : Hid (hasB x k = false → mixW q D k m = mixW q D k (m + 1)) := fun h => mixW_keep q D k m hm3 (by rw [hx] at h; exact h)
              clear hx
              obtain ⟨hb, hhb⟩ : ∃ b, b = hasB x k := ⟨_, rfl⟩
              rw [← hhb] at HHm HSet HKeep
              clear hhb
              go_wp2_with fail
              go_at_call 27
              refine (HHm.out _).mono ?_
              rintro e w' ⟨rfl, rfl⟩
              cases hb
              · have HN : Hid (Blk wr GO 38 (arrW (mixW q D k (m + 1)))) := by unfold Hid; rw [← HKeep.out rfl]; exact HKi.out
                go_wp2_with fail
                go_roundw
                case rel => exact ⟨m + 1, by omega, by go_num, HN.out, HBi.out⟩
                case measure => simp [intOf]; omega
              · obtain ⟨bq, sq, hqo, hcq⟩ : ∃ bq sq, qo = some ⟨bq, sq, none⟩ ∧ wr.cell? ⟨bq, sq + k, none⟩ = some (.int .i64 (q.getD k 0)) := by
                  rcases HQ.out.below Hi.out.1 with ⟨_, _, hv, h0⟩ | ⟨b, off, cap, hv, _, _, _, h⟩
                  · have := HNq.out; rw [h0] at this; simp at this; omega
                  · obtain ⟨h1, _, _⟩ := Value.slice.inj hv
                    exact ⟨b, off, h1, h k (by rw [← HNq.out]; exact hlt)⟩
                obtain ⟨h6, hq5⟩ := HQs.out
                have hn5 : 0 ≤ q.getD k 0 ∧ q.getD k 0 ≤ 5 := by
                  have hkl : k < q.length := by rw [← HNq.out]; exact hlt
                  rw [List.getD_eq_getElem?_getD, List.getElem?_eq_getElem hkl]
                  exact hq5 _ (List.getElem_mem hkl)
                obtain ⟨n, hn⟩ : ∃ n : Nat, q.getD k 0 = n := ⟨(q.getD k 0).toNat, by omega⟩
                have hnn : n ≤ 5 := by omega
                rw [hn] at hcq HSet
                rw [Int.toNat_natCast] at HSet
                have HPm : Hid (∀ W, Calls Tryd.prog 14 #[.int .i64 n] W fun r w' => r = .returned (.int .i64 (pw n)) ∧ W = w') := HPs.out n hnn
                have hPle : 0 ≤ pw n ∧ pw n ≤ 32 := by
                  have all : ∀ m : Nat, m ≤ 5 → 0 ≤ pw m ∧ pw m ≤ 32 := by decide
                  exact all n hnn
                have hYle := mixW_le hq5 D (by omega : k ≤ 6) m m
                have g : wr.cell? ⟨GO, 1 + m, none⟩ = some (.int .i64 ((mixW q D k m).name m)) := by rw [HKi.out.cell, arrW_get _ m hm3]
                have f : wr.frozen? ⟨GO, 1 + m, none⟩ = false := HKi.out.frozen _
                have HS : Hid (Blk (wr.setCell ⟨GO, 1 + m, none⟩ (.int .i64 ((mixW q D k m).name m + pw n))) GO 38 (arrW (mixW q D k (m + 1)))) := by
                  have h := HKi.out.set (1 + m) (.int .i64 ((mixW q D k m).name m + pw n))
                  rw [arrW_set _ m hm3, HSet.out rfl] at h
                  exact h
                obtain ⟨Y, hY⟩ : ∃ Y, Y = (mixW q D k m).name m := ⟨_, rfl⟩
                obtain ⟨P, hP⟩ : ∃ P, P = pw n := ⟨_, rfl⟩
                rw [← hY] at g HS hYle
                rw [← hP] at HPm HS hPle
                obtain ⟨Y0, Y1⟩ := hYle
                obtain ⟨P0, P1⟩ := hPle
                have HSb : Hid (Below GO w9 (wr.setCell ⟨GO, 1 + m, none⟩ (.int .i64 (Y + P)))) := HBi.out.setCell (Nat.le_refl _) _
                have hW : IntKind.i64.wrap (Y + P) = Y + P := by simp [IntKind.wrap, IntKind.bits, IntKind.signed]; omega
                clear hY hP hn hn5 hq5 h6 HSet HKeep HHm hnn
                subst hqo
                go_wp2_with fail
                go_region_with (go_at_call 14; refine (HPm.out _).mono ?_; rintro e w' ⟨rfl, rfl⟩)
                all_goals go_wp2_with fail
                all_goals first | exact ⟨⟨m + 1, by omega, by go_num, HS.out, HSb.out.drew⟩, by simp [intOf]; omega⟩ | (go_roundw <;> first | exact ⟨m + 1, by omega, by go_num, HS.out, HSb.out.drew⟩ | exact ⟨m + 1, by omega, by go_num, HS.out, HSb.out⟩ | (simp [intOf]; omega))
            · obtain rfl : m = 3 := by omega
              have HN : Hid (Blk wr GO 38 (arrW (mixW q D (k + 1) 0))) := by unfold Hid; rw [← mixW_next]; exact HKi.out
              go_wp2_with fail
              go_roundw
              case rel => exact ⟨k + 1, by omega, by go_num, HN.out, HBi.out⟩
              case measure => simp [intOf]; omega
        · obtain rfl : k = nq := by omega
          have hge : ¬ (k : Int) < D.u := by have := HU.out; omega
          have HK3 : Hid (Blk wr GO 38 (arrW O3)) := by unfold Hid; rw [HOs.out]; exact HKo.out
          go_wp2_with fail
          go_meet
          case rel => exact ⟨by rw [HE.out], HK3.out, HBo.out⟩
    · have HOs : Hid (O3 = ⟨0, 0, 0, 0⟩) := HO3.out.2 h0
      have d0 : (e3 == 0) = false := by simp [h0]
      clear h0
      go_wp2_with fail
      go_meet
      case rel => exact ⟨rfl, by rw [HOs.out]; exact KO16.out, BO16.out⟩
  case rest =>
  obtain ⟨rfl, hK, hB⟩ := hcut
  obtain ⟨w17, hw17⟩ : ∃ x, x = wc := ⟨_, rfl⟩
  subst hw17
  have H17 : Hid (Held w w17 #[.slice ao M acap, .slice co nc ccap] p D) := H9.out.step hB HGo.out
  have KO17 : Hid (Blk w17 GO 38 (arrW O3)) := hK
  clear hK hB KO16 BO16 H16
  obtain ⟨z0, z1, z2, z3⟩ := H17.out.2.2.2.cells4
  go_wp2_with fail
  go_at_call 28
  refine (HTh.out _ H17.out.1).mono ?_
  rintro e w18 ⟨rfl, hb⟩
  have H18 : Hid (Held w w18 #[.slice ao M acap, .slice co nc ccap] p D) := H17.out.below hb
  have KO18 : Hid (Blk w18 GO 38 (arrW O3)) := KO17.out.below hb
  clear hb z0 z1 z2 z3 KO17 H17 HTh
  obtain ⟨GZ, hGZ⟩ : ∃ G, G = w18.heap.size := ⟨_, rfl⟩
  obtain ⟨w19, hw19⟩ : ∃ x, x = w18.alloc (.cells #[.int .i64 O3.u, .int .i64 O3.a, .int .i64 O3.b, .int .i64 O3.c] 38) := ⟨_, rfl⟩
  have B19 : Hid (Below w18.heap.size w18 w19) := by unfold Hid; rw [hw19]; exact below_alloc1 _ _
  have KZ19 : Hid (Blk w19 GZ 38 (arrW O3)) := by unfold Hid; rw [hw19, hGZ]; exact Blk.new _ _ _
  go_upto_region 49 with fail
  rw [← hw19, ← hGZ]
  clear hw19 hGZ
  have H19 : Hid (Held w w19 #[.slice ao M acap, .slice co nc ccap] p D) := H18.out.below B19.out
  have KO19 : Hid (Blk w19 GO 38 (arrW O3)) := KO18.out.below B19.out
  go_wp2_with fail
  go_at_call 17
  refine (HEr.out e3 _ H19.out.1).mono ?_
  rintro e w20 ⟨rfl, hb⟩
  have H20 : Hid (Held w w20 #[.slice ao M acap, .slice co nc ccap] p D) := H19.out.below hb
  have KO20 : Hid (Blk w20 GO 38 (arrW O3)) := KO19.out.below hb
  have KZ20 : Hid (Blk w20 GZ 38 (arrW O3)) := KZ19.out.below hb
  clear hb KO19 KZ19 H19 B19 KO18 H18
  obtain ⟨x0, x1, x2, x3⟩ := KO20.out.cells4
  obtain ⟨y0, y1, y2, y3⟩ := KZ20.out.cells4
  have hq := sameW O3.u O3.a O3.b O3.c
  go_wp2
  go_ret
  exact ⟨rfl, H20.out.1⟩
end Go.Proofs.YteknlcachfhfkahDoor
