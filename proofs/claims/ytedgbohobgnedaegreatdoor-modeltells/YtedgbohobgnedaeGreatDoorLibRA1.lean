/-
  Proved: what vennref1.join returns, of two cubes: both together, by atoms, or that one is both ways; what was in memory is as it was (a contract that the statements lean on).
  Proved: what vennref1.put returns: one cube more, unless it was there ahead; what else was in memory is as it was (a contract that the statements lean on).
  Proved: what vennref1.And returns: each cube of the first with each of the second, or that they are too many; what was in memory is as it was (a contract that the statements lean on).
  Proved: what vennref1.Or returns: the cubes of the first, then those of the second that it lacks, or that they are too many; what was in memory is as it was (a contract that the statements lean on). Written by program.
  Proved: what vennref1.No returns: the cubes of what is not said, or that they are too many; what was in memory is as it was (a contract that the statements lean on).
  Proved: what vennref1.Cubes returns, of a formula that is one: its cubes, or that they are too many; what was in memory is as it was (a contract that the statements lean on). Written by program.
  Proved: what the reference's Row returns, of the kinds 1, 2 and 5; what was in memory is as it was (contracts that the statements lean on). Written by program.
-/
import Derived.Test.YtedgbohobgnedaeGreatDoorLibPA1
import Derived.Test.YtedgbohobgnedaeGreatDoorLibPA2
import Derived.Deep.RegionWith
import Derived.Deep.Cut
import Derived.Deep.CutRange
import Derived.Test.YtedgbohobgnedaeGreatDoorLibPA3
namespace Go.Proofs.YtedgbohobgnedaeGreatDoor
open Go.ChangeShapes Go.WideShapes Go.ChangeAt Go.RowKit
set_option maxRecDepth 100000

/-- is it among them? -/
def hasL (l : List Int) (n : Int) : Bool := l.any (fun x => x == n)
theorem hasL_mem {l : List Int} {n : Int} : hasL l n = true ↔ n ∈ l := by unfold hasL; simp
theorem hasL_contains (l : List Int) (n : Int) : l.contains n = hasL l n := by
  rw [Bool.eq_iff_iff, hasL_mem]; simp
theorem hasL_append (a b : List Int) (n : Int) : hasL (a ++ b) n = (hasL a n || hasL b n) := by unfold hasL; simp
theorem hasL_succ (a : List Int) (n : Int) {i : Nat} (h : i < a.length) : hasL (a.take (i + 1)) n = (hasL (a.take i) n || (a.getD i 0 == n)) := by
  rw [takeF_succ a h, hasL_append]; unfold hasL; simp
/-- what is joined of the first k atoms. -/
def prefC (c : List Int) (k : Nat) : List Int := ([1, 2, 3, 4, 5, 6].take k).flatMap (atomIn c)
theorem prefC_succ (c : List Int) {k : Nat} (h : k < 6) : prefC c (k + 1) = prefC c k ++ atomIn c ((k : Int) + 1) := by
  have e : ([1, 2, 3, 4, 5, 6] : List Int).take (k + 1) = ([1, 2, 3, 4, 5, 6] : List Int).take k ++ [((k : Int) + 1)] := by
    have : k = 0 ∨ k = 1 ∨ k = 2 ∨ k = 3 ∨ k = 4 ∨ k = 5 := by omega
    rcases this with rfl | rfl | rfl | rfl | rfl | rfl <;> rfl
  unfold prefC
  rw [e, List.flatMap_append]; simp
theorem prefC_len (c : List Int) (k : Nat) : (prefC c k).length ≤ k := by
  induction k with
  | zero => simp [prefC]
  | succ k ih =>
    by_cases h : k < 6
    · rw [prefC_succ c h, List.length_append]
      have : (atomIn c ((k : Int) + 1)).length ≤ 1 := by unfold atomIn; split <;> (try split) <;> simp
      omega
    · have e : prefC c (k + 1) = prefC c k := by
        unfold prefC
        rw [List.take_of_length_le (by simp; omega), List.take_of_length_le (by simp; omega)]
      rw [e]; omega
theorem atomIn_plus {c : List Int} {n : Int} (h : hasL c n = true) : atomIn c n = [n] := by unfold atomIn; rw [if_pos (by rw [hasL_contains]; exact h)]
theorem atomIn_minus {c : List Int} {n : Int} (h : hasL c n = false) (h2 : hasL c (-n) = true) : atomIn c n = [-n] := by unfold atomIn; rw [if_neg (by rw [hasL_contains, h]; decide), if_pos (by rw [hasL_contains]; exact h2)]
theorem atomIn_none {c : List Int} {n : Int} (h : hasL c n = false) (h2 : hasL c (-n) = false) : atomIn c n = [] := by unfold atomIn; rw [if_neg (by rw [hasL_contains, h]; decide), if_neg (by rw [hasL_contains, h2]; decide)]
theorem ways_yes {c : List Int} {n : Int} (h : hasL c n = true) (h2 : hasL c (-n) = true) : bothWays c = true := bothWays_iff.2 ⟨n, hasL_mem.1 h, hasL_mem.1 h2⟩
theorem ways_no {c : List Int} (hr : ∀ m ∈ c, 1 ≤ m.natAbs ∧ m.natAbs ≤ 6) (h : ∀ j : Nat, j < 6 → ¬ (hasL c ((j : Int) + 1) = true ∧ hasL c (-((j : Int) + 1)) = true)) : bothWays c = false := by
  rw [← Bool.not_eq_true, bothWays_iff]
  rintro ⟨m, h1, h2⟩
  have hm := hr m h1
  obtain ⟨j, hj⟩ : ∃ j : Nat, j = m.natAbs - 1 := ⟨_, rfl⟩
  have e : (j : Int) + 1 = m.natAbs := by omega
  refine h j (by omega) ?_
  rw [e]
  rcases Int.natAbs_eq m with g | g
  · rw [← g]; exact ⟨hasL_mem.2 h1, hasL_mem.2 h2⟩
  · have g2 : (m.natAbs : Int) = -m := by omega
    rw [g2, Int.neg_neg]; exact ⟨hasL_mem.2 h2, hasL_mem.2 h1⟩

/-- what join has in hand behind k atoms. -/
def OwnI (K : Nat) (w : World) (v : Value) (t : List Int) : Prop := w.ownsRow K 3 1 v t.length (t.map (Value.int .i64))

set_option maxHeartbeats 8000000 in
theorem refJoin_any (va vb : Value) (a b : List Int) (w : World) (ha : a.length ≤ 6) (hb : b.length ≤ 6) (hr : ∀ m ∈ a ++ b, 1 ≤ m.natAbs ∧ m.natAbs ≤ 6) (hA : Reads w va a) (hB : Reads w vb b) :
    Calls Tryz.prog 68 #[va, vb] w fun e w' => (bothWays (a ++ b) = true → e = .returned (.tuple #[.slice none 0 0, .bool false])) ∧ (bothWays (a ++ b) = false → ∃ v, e = .returned (.tuple #[v, .bool true]) ∧ RS (fun q => w.heap.size ≤ q) w' v (joinC a b)) ∧ Below w.heap.size w w' := by
  obtain ⟨i0, hi, hz0, hz1, hz2⟩ := info_parts infoN
  obtain ⟨ao, acap, hav, _⟩ := (hA.rs (S := fun _ => True) (fun _ _ => trivial)).slice
  obtain ⟨bo, bcap, hbv, _⟩ := (hB.rs (S := fun _ => True) (fun _ _ => trivial)).slice
  subst hav hbv
  obtain ⟨K, hK⟩ : ∃ K, K = w.heap.size := ⟨_, rfl⟩
  have HK : Hid (K = w.heap.size) := hK
  have HCa : Hid (∀ W, Below K w W → ∀ k, k < a.length → ∃ q off, ao = some ⟨q, off, none⟩ ∧ W.cell? ⟨q, off + k, none⟩ = some (.int .i64 (a.getD k 0))) := fun W hW k hk => by
    rcases hA with ⟨_, _, hv, e⟩ | ⟨q, off, cap, hv, hq, _, _, hcs⟩
    · rw [e] at hk; simp at hk
    · cases hv
      exact ⟨q, off, rfl, by rw [hW.cell (show (⟨q, off + k, none⟩ : Addr).block < _ by rw [hK]; exact hq)]; exact hcs k hk⟩
  have HCb : Hid (∀ W, Below K w W → ∀ k, k < b.length → ∃ q off, bo = some ⟨q, off, none⟩ ∧ W.cell? ⟨q, off + k, none⟩ = some (.int .i64 (b.getD k 0))) := fun W hW k hk => by
    rcases hB with ⟨_, _, hv, e⟩ | ⟨q, off, cap, hv, hq, _, _, hcs⟩
    · rw [e] at hk; simp at hk
    · cases hv
      exact ⟨q, off, rfl, by rw [hW.cell (show (⟨q, off + k, none⟩ : Addr).block < _ by rw [hK]; exact hq)]; exact hcs k hk⟩
  have HW1 : Hid ((∀ j : Nat, j < 6 → ¬ (hasL (a ++ b) ((j : Int) + 1) = true ∧ hasL (a ++ b) (-((j : Int) + 1)) = true)) → bothWays (a ++ b) = false) := ways_no hr
  have HJc : Hid (joinC a b = prefC (a ++ b) 6) := rfl
  rw [← hK]
  clear hA hB hK hr
  obtain ⟨na, hna⟩ : ∃ na, na = a.length := ⟨_, rfl⟩
  obtain ⟨nb, hnb⟩ : ∃ nb, nb = b.length := ⟨_, rfl⟩
  rw [← hna] at ha ⊢
  rw [← hnb] at hb ⊢
  have HN : Hid (na = a.length ∧ nb = b.length) := ⟨hna, hnb⟩
  clear hna hnb
  go_enter Tryz.func68, Tryz.ntmps68
  go_wp2_with fail
  go_loopw [6, 7, 8, 9, 10, 11] (fun v n _ _ _ _ wr => ∃ k : Nat, k ≤ 6 ∧ n = .int .i64 ((k : Int) + 1) ∧ OwnI K wr v (prefC (a ++ b) k) ∧ Below K w wr ∧ K ≤ wr.heap.size ∧ Hid (∀ j, j < k → ¬ (hasL (a ++ b) ((j : Int) + 1) = true ∧ hasL (a ++ b) (-((j : Int) + 1)) = true))) (fun _ n _ _ _ _ _ => 7 - (intOf n).toNat)
  case atStart => exact ⟨0, by omega, rfl, World.ownsRow_nil _ _ _ _, Below.refl _ _, by rw [HK.out]; exact Nat.le_refl _, fun j hj => absurd hj (Nat.not_lt_zero _)⟩
  case round =>
    obtain ⟨k, hk, rfl, hown, hbel, hKw, HNo⟩ := hrel
    have HI : Hid (OwnI K wr u6 (prefC (a ++ b) k) ∧ Below K w wr ∧ K ≤ wr.heap.size) := ⟨hown, hbel, hKw⟩
    clear hown hbel hKw
    by_cases hlt : k < 6
    · have kz : (k : Int) + 1 ≤ 6 := by omega
      have n1 : -9223372036854775808 ≤ -((k : Int) + 1) := by omega
      have n2 : -((k : Int) + 1) ≤ 9223372036854775807 := by omega
      go_wp2_with fail
      go_loop [8, 9, 10] (fun p q i => ∃ j : Nat, j ≤ na ∧ i = .int .i64 j ∧ p = .bool (hasL (a.take j) ((k : Int) + 1)) ∧ q = .bool (hasL (a.take j) (-((k : Int) + 1)))) (fun _ _ i => na - (intOf i).toNat)
      case atStart => exact ⟨0, Nat.zero_le _, rfl, rfl, rfl⟩
      case round =>
        obtain ⟨j, hj, rfl, rfl, rfl⟩ := hrel
        by_cases hja : j < na
        · have hja' : j < a.length := by rw [← HN.out.1]; exact hja
          obtain ⟨q, off, rfl, hcell⟩ := HCa.out wr HI.out.2.1 j hja'
          have HE1 : Hid (hasL (a.take (j + 1)) ((k : Int) + 1) = (hasL (a.take j) ((k : Int) + 1) || (a.getD j 0 == ((k : Int) + 1)))) := hasL_succ a _ hja'
          have HE2 : Hid (hasL (a.take (j + 1)) (-((k : Int) + 1)) = (hasL (a.take j) (-((k : Int) + 1)) || (a.getD j 0 == -((k : Int) + 1)))) := hasL_succ a _ hja'
          obtain ⟨x, hx⟩ : ∃ x, x = a.getD j 0 := ⟨_, rfl⟩
          obtain ⟨P, hP⟩ : ∃ P, P = hasL (a.take j) ((k : Int) + 1) := ⟨_, rfl⟩
          obtain ⟨R, hR⟩ : ∃ R, R = hasL (a.take j) (-((k : Int) + 1)) := ⟨_, rfl⟩
          rw [← hx] at hcell HE1 HE2
          rw [← hP] at HE1 ⊢
          rw [← hR] at HE2 ⊢
          clear hx hP hR hja'
          cases P <;> cases R
          all_goals
            go_wp2
            go_round
            case rel => exact ⟨j + 1, by omega, by go_num, by rw [HE1.out]; rfl, by rw [HE2.out]; rfl⟩
            case measure => simp [intOf]; omega
        · have hall : a.take j = a := List.take_of_length_le (by have := HN.out; omega)
          rw [hall]
          clear hall
          have jz : ¬ (j : Int) < (na : Int) := by omega
          go_wp2_with fail
          go_loop [8, 9, 11] (fun p q i => ∃ j : Nat, j ≤ nb ∧ i = .int .i64 j ∧ p = .bool (hasL a ((k : Int) + 1) || hasL (b.take j) ((k : Int) + 1)) ∧ q = .bool (hasL a (-((k : Int) + 1)) || hasL (b.take j) (-((k : Int) + 1)))) (fun _ _ i => nb - (intOf i).toNat)
          case atStart => exact ⟨0, Nat.zero_le _, rfl, by simp [hasL], by simp [hasL]⟩
          case round =>
            obtain ⟨j, hj, rfl, rfl, rfl⟩ := hrel
            by_cases hjb : j < nb
            · have hjb' : j < b.length := by rw [← HN.out.2]; exact hjb
              obtain ⟨q, off, rfl, hcell⟩ := HCb.out wr HI.out.2.1 j hjb'
              have HE1 : Hid (hasL (b.take (j + 1)) ((k : Int) + 1) = (hasL (b.take j) ((k : Int) + 1) || (b.getD j 0 == ((k : Int) + 1)))) := hasL_succ b _ hjb'
              have HE2 : Hid (hasL (b.take (j + 1)) (-((k : Int) + 1)) = (hasL (b.take j) (-((k : Int) + 1)) || (b.getD j 0 == -((k : Int) + 1)))) := hasL_succ b _ hjb'
              obtain ⟨x, hx⟩ : ∃ x, x = b.getD j 0 := ⟨_, rfl⟩
              obtain ⟨P0, hP0⟩ : ∃ P0, P0 = hasL a ((k : Int) + 1) := ⟨_, rfl⟩
              obtain ⟨R0, hR0⟩ : ∃ R0, R0 = hasL a (-((k : Int) + 1)) := ⟨_, rfl⟩
              obtain ⟨P1, hP1⟩ : ∃ P1, P1 = hasL (b.take j) ((k : Int) + 1) := ⟨_, rfl⟩
              obtain ⟨R1, hR1⟩ : ∃ R1, R1 = hasL (b.take j) (-((k : Int) + 1)) := ⟨_, rfl⟩
              rw [← hP0, ← hR0, ← hP1, ← hR1]
              rw [← hx] at hcell HE1 HE2
              rw [← hP1] at HE1
              rw [← hR1] at HE2
              have HP0 : Hid (P0 = hasL a ((k : Int) + 1) ∧ R0 = hasL a (-((k : Int) + 1))) := ⟨hP0, hR0⟩
              clear hx hP0 hR0 hP1 hR1 hjb'
              obtain ⟨P, hP⟩ : ∃ P, P = (P0 || P1) := ⟨_, rfl⟩
              obtain ⟨R, hR⟩ : ∃ R, R = (R0 || R1) := ⟨_, rfl⟩
              rw [← hP, ← hR]
              have HPR : Hid ((P0 || hasL (b.take (j + 1)) ((k : Int) + 1)) = (P || (x == ((k : Int) + 1))) ∧ (R0 || hasL (b.take (j + 1)) (-((k : Int) + 1))) = (R || (x == -((k : Int) + 1)))) := by
                unfold Hid
                rw [HE1.out, HE2.out, hP, hR, Bool.or_assoc, Bool.or_assoc]
                exact ⟨rfl, rfl⟩
              clear hP hR HE1 HE2 HP0
              cases P <;> cases R
              all_goals
                go_wp2
                go_round
                case rel => exact ⟨j + 1, by omega, by go_num, by rw [HPR.out.1]; rfl, by rw [HPR.out.2]; rfl⟩
                case measure => simp [intOf]; omega
            · have hall : b.take j = b := List.take_of_length_le (by have := HN.out; omega)
              rw [hall, ← hasL_append, ← hasL_append]
              clear hall
              have jz2 : ¬ (j : Int) < (nb : Int) := by omega
              obtain ⟨P, hP⟩ : ∃ P, P = hasL (a ++ b) ((k : Int) + 1) := ⟨_, rfl⟩
              obtain ⟨R, hR⟩ : ∃ R, R = hasL (a ++ b) (-((k : Int) + 1)) := ⟨_, rfl⟩
              rw [← hP, ← hR]
              have HP : Hid (hasL (a ++ b) ((k : Int) + 1) = P ∧ hasL (a ++ b) (-((k : Int) + 1)) = R) := ⟨hP.symm, hR.symm⟩
              have HPs0 : Hid (prefC (a ++ b) (k + 1) = prefC (a ++ b) k ++ atomIn (a ++ b) ((k : Int) + 1)) := prefC_succ _ hlt
              clear hP hR
              cases P
              · have HNx : Hid (∀ j, j < k + 1 → ¬ (hasL (a ++ b) ((j : Int) + 1) = true ∧ hasL (a ++ b) (-((j : Int) + 1)) = true)) := fun j hj => by
                  by_cases e : j = k
                  · rw [e]; intro h; rw [HP.out.1] at h; cases h.1
                  · exact HNo.out j (by omega)
                cases R
                · have HPs : Hid (prefC (a ++ b) (k + 1) = prefC (a ++ b) k) := by unfold Hid; rw [HPs0.out, atomIn_none HP.out.1 HP.out.2, List.append_nil]
                  go_wp2
                  go_roundw
                  case rel => exact ⟨k + 1, by omega, by go_num, by rw [HPs.out]; exact HI.out.1, HI.out.2.1, HI.out.2.2, HNx.out⟩
                  case measure => simp [intOf]; omega
                · have HPs : Hid (prefC (a ++ b) (k + 1) = prefC (a ++ b) k ++ [(-((k : Int) + 1))]) := by unfold Hid; rw [HPs0.out, atomIn_minus HP.out.1 HP.out.2]
                  obtain ⟨wa, hwa⟩ : ∃ wa, wa = wr.alloc (.cells #[.int .i64 (-((k : Int) + 1))] 3) := ⟨_, rfl⟩
                  have HBa : Hid (Below wr.heap.size wr wa ∧ (wa.heap.size = wr.heap.size + 1 ∧ K ≤ wa.heap.size)) := by
                    have bb : Below wr.heap.size wr wa := by rw [hwa]; exact below_alloc1 _ _
                    exact ⟨bb, by rw [hwa]; simp, by have := bb.size; have := HI.out.2.2; omega⟩
                  obtain ⟨lp, hlp⟩ : ∃ lp, lp = (prefC (a ++ b) k).length := ⟨_, rfl⟩
                  have HLp : Hid (lp = (prefC (a ++ b) k).length ∧ lp ≤ 6) := ⟨hlp, by rw [hlp]; exact Nat.le_trans (prefC_len _ k) (by omega)⟩
                  have HOa : Hid (wa.ownsRow K 3 1 u6 lp ((prefC (a ++ b) k).map (Value.int .i64))) := by
                    have h := ownsRow_same HI.out.1 HBa.out.1.block
                    rw [← hlp] at h; exact h
                  have hca : wa.cell? ((⟨wr.heap.size, 0, none⟩ : Addr).add 0) = some (.int .i64 (-((k : Int) + 1))) := by rw [hwa]; simp [Addr.add]
                  have HCc : Hid (∀ j u, ([Value.int .i64 (-((k : Int) + 1))] : List Value)[j]? = some u → wa.cell? ((⟨wr.heap.size, 0, none⟩ : Addr).add j) = some u) := fun j u hu => by
                    match j, hu with
                    | 0, hu => simp at hu; subst hu; exact hca
                  have HWa : Hid (wr.alloc (.cells #[.int .i64 (-((k : Int) + 1))] 3) = wa) := hwa.symm
                  clear hca hwa hlp
                  go_wp2_with (first | (at_builtin; rw [HWa.out]; refine wpList_append_own _ rfl (.tmp 76) (.tmp 79) 23 rfl K 3 i0 (.int .i64 0) 1 8 Tryz.underlying23 hi hz0 hz1 hz2 rfl (by decide) u6 lp ((prefC (a ++ b) k).map (Value.int .i64)) rfl HOa.out ⟨wr.heap.size, 0, none⟩ 1 1 [.int .i64 (-((k : Int) + 1))] rfl rfl HCc.out (by intro y hy; simp at hy; subst hy; rfl) ?d3 ?d4 HBa.out.2.2 ?_))
                  case d3 => have := HLp.out.2; unfold maxLen; omega
                  case d4 => have := HLp.out.2; omega
                  intro v5 w5 hown5 hgrow5 _
                  have HR5 : Hid (OwnI K w5 v5 (prefC (a ++ b) (k + 1)) ∧ Below K w w5 ∧ K ≤ w5.heap.size) := by
                    refine ⟨?_, (HI.out.2.1.trans (HBa.out.1.mono HI.out.2.2)).grown hgrow5 HBa.out.2.2 (fun q hq => (HOa.out.lt q hq).1), by have := hgrow5.size; have := HBa.out.2.2; omega⟩
                    unfold OwnI
                    rw [HPs.out]
                    simpa [← HLp.out.1] using hown5
                  clear hown5 hgrow5
                  go_wp2
                  go_roundw
                  case rel => exact ⟨k + 1, by omega, by go_num, HR5.out.1, HR5.out.2.1, HR5.out.2.2, HNx.out⟩
                  case measure => simp [intOf]; omega
              · cases R
                · have HNx : Hid (∀ j, j < k + 1 → ¬ (hasL (a ++ b) ((j : Int) + 1) = true ∧ hasL (a ++ b) (-((j : Int) + 1)) = true)) := fun j hj => by
                    by_cases e : j = k
                    · rw [e]; intro h; rw [HP.out.2] at h; cases h.2
                    · exact HNo.out j (by omega)
                  have HPs : Hid (prefC (a ++ b) (k + 1) = prefC (a ++ b) k ++ [((k : Int) + 1)]) := by unfold Hid; rw [HPs0.out, atomIn_plus HP.out.1]
                  obtain ⟨wa, hwa⟩ : ∃ wa, wa = wr.alloc (.cells #[.int .i64 ((k : Int) + 1)] 3) := ⟨_, rfl⟩
                  have HBa : Hid (Below wr.heap.size wr wa ∧ (wa.heap.size = wr.heap.size + 1 ∧ K ≤ wa.heap.size)) := by
                    have bb : Below wr.heap.size wr wa := by rw [hwa]; exact below_alloc1 _ _
                    exact ⟨bb, by rw [hwa]; simp, by have := bb.size; have := HI.out.2.2; omega⟩
                  obtain ⟨lp, hlp⟩ : ∃ lp, lp = (prefC (a ++ b) k).length := ⟨_, rfl⟩
                  have HLp : Hid (lp = (prefC (a ++ b) k).length ∧ lp ≤ 6) := ⟨hlp, by rw [hlp]; exact Nat.le_trans (prefC_len _ k) (by omega)⟩
                  have HOa : Hid (wa.ownsRow K 3 1 u6 lp ((prefC (a ++ b) k).map (Value.int .i64))) := by
                    have h := ownsRow_same HI.out.1 HBa.out.1.block
                    rw [← hlp] at h; exact h
                  have hca : wa.cell? ((⟨wr.heap.size, 0, none⟩ : Addr).add 0) = some (.int .i64 ((k : Int) + 1)) := by rw [hwa]; simp [Addr.add]
                  have HCc : Hid (∀ j u, ([Value.int .i64 ((k : Int) + 1)] : List Value)[j]? = some u → wa.cell? ((⟨wr.heap.size, 0, none⟩ : Addr).add j) = some u) := fun j u hu => by
                    match j, hu with
                    | 0, hu => simp at hu; subst hu; exact hca
                  have HWa : Hid (wr.alloc (.cells #[.int .i64 ((k : Int) + 1)] 3) = wa) := hwa.symm
                  clear hca hwa hlp
                  go_wp2_with (first | (at_builtin; rw [HWa.out]; refine wpList_append_own _ rfl (.tmp 71) (.tmp 73) 23 rfl K 3 i0 (.int .i64 0) 1 8 Tryz.underlying23 hi hz0 hz1 hz2 rfl (by decide) u6 lp ((prefC (a ++ b) k).map (Value.int .i64)) rfl HOa.out ⟨wr.heap.size, 0, none⟩ 1 1 [.int .i64 ((k : Int) + 1)] rfl rfl HCc.out (by intro y hy; simp at hy; subst hy; rfl) ?d3 ?d4 HBa.out.2.2 ?_))
                  case d3 => have := HLp.out.2; unfold maxLen; omega
                  case d4 => have := HLp.out.2; omega
                  intro v5 w5 hown5 hgrow5 _
                  have HR5 : Hid (OwnI K w5 v5 (prefC (a ++ b) (k + 1)) ∧ Below K w w5 ∧ K ≤ w5.heap.size) := by
                    refine ⟨?_, (HI.out.2.1.trans (HBa.out.1.mono HI.out.2.2)).grown hgrow5 HBa.out.2.2 (fun q hq => (HOa.out.lt q hq).1), by have := hgrow5.size; have := HBa.out.2.2; omega⟩
                    unfold OwnI
                    rw [HPs.out]
                    simpa [← HLp.out.1] using hown5
                  clear hown5 hgrow5
                  go_wp2
                  go_roundw
                  case rel => exact ⟨k + 1, by omega, by go_num, HR5.out.1, HR5.out.2.1, HR5.out.2.2, HNx.out⟩
                  case measure => simp [intOf]; omega
                · have HBw : Hid (bothWays (a ++ b) = true) := ways_yes HP.out.1 HP.out.2
                  go_wp2
                  go_ret2
                  refine ⟨fun _ => rfl, fun h => ?_, HI.out.2.1⟩
                  rw [HBw.out] at h; cases h
    · have kz : ¬ (k : Int) + 1 ≤ 6 := by omega
      obtain rfl : k = 6 := by omega
      have HBw : Hid (bothWays (a ++ b) = false) := HW1.out HNo.out
      go_wp2
      go_ret2
      refine ⟨fun h => ?_, fun _ => ⟨_, rfl, ?_⟩, HI.out.2.1⟩
      · rw [HBw.out] at h; cases h
      · rw [HJc.out]
        have h := HI.out.1
        rcases h.2 with ⟨e, h0⟩ | ⟨g, cap, cur, e, hg, hh, hc, _⟩
        · subst e
          exact Or.inl ⟨_, _, rfl, List.eq_nil_of_length_eq_zero (by omega)⟩
        · subst e
          rcases Nat.eq_zero_or_pos (prefC (a ++ b) 6).length with h0 | h0
          · exact Or.inl ⟨_, cap, by rw [h0]; rfl, List.eq_nil_of_length_eq_zero h0⟩
          · refine Or.inr ⟨g, 0, cap, rfl, ⟨hg, (Array.getElem?_eq_some_iff.1 hh).1⟩, h0, ⟨by have := prefC_len (a ++ b) 6; omega, hc⟩, fun j hj => ?_⟩
            rw [Nat.zero_add, World.ownsRow.cellAt h j (by omega)]
            simp [List.getElem?_eq_getElem hj]
end Go.Proofs.YtedgbohobgnedaeGreatDoor

namespace Go.Proofs.YtedgbohobgnedaeGreatDoor
open Go.ChangeShapes Go.WideShapes Go.ChangeAt Go.RowKit
set_option maxRecDepth 100000

theorem rows_ext {t c : List Int} {n : Nat} (h1 : t.length = n) (h2 : n = c.length) (h : ∀ j, j < n → t.getD j 0 = c.getD j 0) : t = c := by
  refine List.ext_getElem (by omega) fun j a b => ?_
  have := h j (by omega)
  simpa [List.getElem?_eq_getElem a, List.getElem?_eq_getElem b] using this
theorem put_there {L : List (List Int)} {c : List Int} (h : c ∈ L) : putC L c = L := by unfold putC; rw [if_pos (by simpa using h)]
theorem put_new {L : List (List Int)} {c : List Int} (h : c ∉ L) : putC L c = L ++ [c] := by unfold putC; rw [if_neg (by simpa using h)]
/-- a row's number in memory. -/
theorem RS.numAt {S : Nat → Prop} {w : World} {o : Option Addr} {l cp : Nat} {t : List Int} (h : RS S w (.slice o l cp) t) : l = t.length ∧ l ≤ 9223372036854775807 ∧ ∀ k, k < t.length → ∃ q off, o = some ⟨q, off, none⟩ ∧ w.cell? ⟨q, off + k, none⟩ = some (.int .i64 (t.getD k 0)) := by
  rcases h with ⟨_, _, hv, rfl⟩ | ⟨q, off, cap, hv, _, _, h4, hcs⟩
  · cases hv; exact ⟨rfl, by decide, fun k hk => absurd hk (Nat.not_lt_zero _)⟩
  · cases hv; exact ⟨rfl, h4.1, fun k hk => ⟨q, off, rfl, hcs k hk⟩⟩

set_option maxHeartbeats 4000000 in
theorem refPut_any (S : Nat → Prop) (K : Nat) (v u : Value) (L : List (List Int)) (c : List Int) (w : World) (hK : K ≤ w.heap.size) (hown : Own2 S K w v L) (hu : RS (fun b => (S b ∨ K ≤ b) ∧ some b ≠ v.ownBlock) w u c) (hL : L.length ≤ 2000) :
    Calls Tryz.prog 69 #[v, u] w fun e w' => ∃ v', e = .returned v' ∧ Own2 S K w' v' (putC L c) ∧ w.grownBy w' v.ownBlock := by
  obtain ⟨i0, hi, hz0, hz1, hz2⟩ := info_parts infoS
  obtain ⟨ao, acap, rfl, _⟩ := hu.slice
  obtain ⟨vo, vcap, hvf⟩ := hown.form
  have HRu : Hid (∀ W, Below w.heap.size w W → RS (fun b => (S b ∨ K ≤ b) ∧ some b ≠ v.ownBlock) W (.slice ao c.length acap) c) := fun W hW => hu.kept (Kept.of_below hW)
  have HO : Hid (∀ W, Below w.heap.size w W → Own2 S K W v L) := fun W hW => hown.below hW
  have HVf : Hid (0 < L.length → ∃ b off, vo = some ⟨b, off, none⟩) := fun h0 => by
    obtain ⟨b, off, cap, e⟩ := (hown.reads (by omega)).form h0
    rw [hvf] at e; cases e; exact ⟨b, off, rfl⟩
  have HVa : Hid (∀ k b off, k < L.length → vo = some ⟨b, off, none⟩ → ∃ o l cp, ∀ W, Below w.heap.size w W → W.cell? ⟨b, off + k, none⟩ = some (.slice o l cp) ∧ Reads W (.slice o l cp) (L.getD k [])) := fun k b off hk e => (hown.reads (by omega)).always rfl (by rw [hvf, e]) hk
  obtain ⟨n, hn⟩ : ∃ n, n = c.length := ⟨_, rfl⟩
  have hn63 := hu.numAt.2.1
  have HU : Hid (∀ W k, Below w.heap.size w W → k < n → ∃ q off, ao = some ⟨q, off, none⟩ ∧ W.cell? ⟨q, off + k, none⟩ = some (.int .i64 (c.getD k 0))) := fun W k hW hk => (HRu.out W hW).numAt.2.2 k (by rw [← hn]; exact hk)
  rw [← hn] at HRu hn63 ⊢
  have HN : Hid (n = c.length) := hn
  obtain ⟨l, hl⟩ : ∃ l, l = L.length := ⟨_, rfl⟩
  have HLl : Hid (l = L.length ∧ l ≤ 2000) := ⟨hl, by omega⟩
  rw [← hl] at hvf hL
  clear hl hn hu hown
  subst hvf
  go_enter Tryz.func69, Tryz.ntmps69
  go_wp2_with fail
  go_loopw [5, 6, 7] (fun i _ _ wr => ∃ k : Nat, k ≤ l ∧ i = .int .i64 k ∧ Below w.heap.size w wr ∧ Hid (∀ j, j < k → L.getD j [] ≠ c)) (fun i _ _ _ => l - (intOf i).toNat)
  case atStart => exact ⟨0, Nat.zero_le _, rfl, Below.refl _ _, fun j hj => absurd hj (Nat.not_lt_zero _)⟩
  case round =>
    obtain ⟨i, hi', rfl, hbel, HNo⟩ := hrel
    have HBw : Hid (Below w.heap.size w wr) := hbel
    clear hbel
    by_cases hlt : i < l
    · have hiL : i < L.length := by rw [← HLl.out.1]; exact hlt
      obtain ⟨vb, voff, rfl⟩ := HVf.out (by omega)
      obtain ⟨o, tl, cp, hall⟩ := HVa.out i vb voff hiL rfl
      have hcell := (hall wr HBw.out).1
      obtain ⟨htl, ht63, _⟩ := ((hall wr HBw.out).2.rs (S := fun _ => True) (fun _ _ => trivial)).numAt
      have HT : Hid (tl = (L.getD i []).length ∧ ∀ W k, Below w.heap.size w W → k < tl → W.cell? ⟨vb, voff + i, none⟩ = some (.slice o tl cp) ∧ ∃ q off, o = some ⟨q, off, none⟩ ∧ W.cell? ⟨q, off + k, none⟩ = some (.int .i64 ((L.getD i []).getD k 0))) := ⟨htl, fun W k hW hk => ⟨(hall W hW).1, ((hall W hW).2.rs (S := fun _ => True) (fun _ _ => trivial)).numAt.2.2 k (by rw [← htl]; exact hk)⟩⟩
      have HIL : Hid (L.getD i [] ∈ L) := mem_getD hiL
      have hltz : (i : Int) < (l : Int) := by omega
      clear htl hall hiL
      go_wp2_with fail
      go_loopw [6, 7] (fun s j wq => ∃ (k : Nat) (b : Bool), k ≤ n ∧ j = .int .i64 k ∧ s = .bool b ∧ Below w.heap.size w wq ∧ Hid (b = true → tl = n ∧ ∀ j, j < k → (L.getD i []).getD j 0 = c.getD j 0) ∧ Hid (b = false → L.getD i [] ≠ c)) (fun _ j _ => n - (intOf j).toNat)
      case atStart =>
        refine ⟨0, decide (tl = n), Nat.zero_le _, rfl, ?_, HBw.out, fun h => ⟨by simpa using h, fun j hj => absurd hj (Nat.not_lt_zero _)⟩, fun h e => ?_⟩
        · congr 1; rw [Bool.eq_iff_iff]; simp; omega
        · have h1 := HT.out.1
          have h2 := HN.out
          rw [e] at h1
          simp at h; omega
      case round =>
        obtain ⟨k, b, hk, rfl, rfl, hbel, HT1, HF1⟩ := hrel
        clear hcell
        have HBq : Hid (Below w.heap.size w wr) := hbel
        clear hbel
        cases b
        · have HNx : Hid (∀ j, j < i + 1 → L.getD j [] ≠ c) := fun j hj => by
            by_cases e : j = i
            · rw [e]; exact HF1.out rfl
            · exact HNo.out j (by omega)
          by_cases hkn : k < n
          · go_wp2
            go_roundw
            case rel => exact ⟨i + 1, by omega, by go_num, HBq.out, HNx.out⟩
            case measure => simp [intOf]; omega
          · have kz : ¬ (k : Int) < (n : Int) := by omega
            go_wp2
            go_roundw
            case rel => exact ⟨i + 1, by omega, by go_num, HBq.out, HNx.out⟩
            case measure => simp [intOf]; omega
        · have HT2 : Hid (tl = n ∧ ∀ j, j < k → (L.getD i []).getD j 0 = c.getD j 0) := HT1.out rfl
          clear HT1 HF1
          by_cases hkn : k < n
          · have hkt : k < tl := by rw [HT2.out.1]; exact hkn
            obtain ⟨hcell, q, off, rfl, hc1⟩ := HT.out.2 wr k HBq.out hkt
            obtain ⟨q2, off2, rfl, hc2⟩ := HU.out wr k HBq.out hkn
            obtain ⟨x, hx⟩ : ∃ x, x = (L.getD i []).getD k 0 := ⟨_, rfl⟩
            obtain ⟨y, hy⟩ : ∃ y, y = c.getD k 0 := ⟨_, rfl⟩
            rw [← hx] at hc1
            rw [← hy] at hc2
            have HX : Hid (x = (L.getD i []).getD k 0 ∧ y = c.getD k 0) := ⟨hx, hy⟩
            have kz : (k : Int) < (n : Int) := by omega
            have kz2 : (k : Int) < (tl : Int) := by omega
            clear hx hy
            go_wp2_with fail
            go_quiet (fail)
            go_wp2
            go_roundw
            case rel =>
              refine ⟨k + 1, decide (x = y), by omega, by go_num, ?_, HBq.out.trans ((below_drewNs _ _).mono HBq.out.size), fun h => ⟨HT2.out.1, fun j hj => ?_⟩, fun h e => ?_⟩
              · congr 1
              · by_cases e : j = k
                · rw [e, ← HX.out.1, ← HX.out.2]; simpa using h
                · exact HT2.out.2 j (by omega)
              · rw [HX.out.1, HX.out.2, e] at h; simp at h
            case measure => simp [intOf]; omega
          · have kz : ¬ (k : Int) < (n : Int) := by omega
            have HE : Hid (putC L c = L) := by
              have e : L.getD i [] = c := rows_ext (HT.out.1.symm.trans HT2.out.1) HN.out (fun j hj => HT2.out.2 j (by omega))
              have := HIL.out
              rw [e] at this
              exact put_there this
            go_wp2
            go_ret
            exact ⟨_, rfl, by rw [HE.out]; exact HO.out _ HBq.out, grown_of_below HBq.out⟩
    · have hltz : ¬ (i : Int) < (l : Int) := by omega
      have HE : Hid (putC L c = L ++ [c]) := by
        refine put_new fun h => ?_
        obtain ⟨j, hj, e⟩ := List.getElem_of_mem h
        refine HNo.out j (by have := HLl.out.1; omega) ?_
        rw [List.getD_eq_getElem?_getD, List.getElem?_eq_getElem hj]; exact e
      obtain ⟨w4, hw4⟩ : ∃ w4, w4 = wr.alloc (.cells #[.slice ao n acap] 23) := ⟨_, rfl⟩
      have HB4 : Hid (Below w.heap.size w w4) := by rw [hw4]; exact HBw.out.trans ((below_alloc1 _ _).mono HBw.out.size)
      obtain ⟨xs, ho, hx⟩ := HO.out w4 HB4.out
      rw [← HLl.out.1] at ho
      have HOx : Hid (w4.ownsRow K 23 1 (.slice vo l vcap) l xs) := ho
      have HX : Hid (∀ (k : Nat) t, L[k]? = some t → ∃ u, xs[k]? = some u ∧ RS (fun b => (S b ∨ K ≤ b) ∧ some b ≠ (Value.slice vo l vcap).ownBlock) w4 u t) := hx
      have hca : w4.cell? ((⟨wr.heap.size, 0, none⟩ : Addr).add 0) = some (.slice ao n acap) := by rw [hw4]; simp [Addr.add]
      have HCa : Hid (∀ j u, ([Value.slice ao n acap] : List Value)[j]? = some u → w4.cell? ((⟨wr.heap.size, 0, none⟩ : Addr).add j) = some u) := fun j u hu => by
        match j, hu with
        | 0, hu => simp at hu; subst hu; exact hca
      have HS4 : Hid (w4.heap.size = wr.heap.size + 1 ∧ K ≤ w4.heap.size) := ⟨by rw [hw4]; simp, by have := HB4.out.size; omega⟩
      clear ho hx hca
      go_wp2_with (first | (at_builtin; rw [← hw4]; refine wpList_append_lies _ rfl (.tmp 45) (.tmp 47) 57 rfl K 23 i0 (.slice none 0 0) 1 24 Tryz.underlying57 hi hz0 hz1 hz2 rfl (by decide) (.slice vo l vcap) l xs rfl HOx.out ⟨wr.heap.size, 0, none⟩ 1 1 [.slice ao n acap] rfl rfl HCa.out (by intro y hy; simp at hy; subst hy; rfl) (by decide) ?d3 ?d4 HS4.out.2 w4.heap.size rfl ?_))
      case d3 => have := HLl.out.2; unfold maxLen; omega
      case d4 => have := HLl.out.2; omega
      intro g cap w5 hown hgrow hat hlt
      have HG : Hid (w4.grownBy w5 (Value.slice vo l vcap).ownBlock) := by first | exact hgrow | (rw [hw4]; exact hgrow)
      have HAt : Hid ((Value.slice vo l vcap).ownBlock = some g ∨ g = w4.heap.size) := by first | exact hat | (rw [HS4.out.1]; exact hat)
      have HRr : Hid (Own2 S K w5 (.slice (some ⟨g, 0, none⟩) (l + 1) cap) (L ++ [c])) := by
        have h1 := HOx.out
        have e := HLl.out.1
        unfold Hid
        subst e
        exact Own2.push h1 HX.out (HRu.out w4 HB4.out) (by simpa using hown) HG.out HAt.out
      clear hown hgrow hat hlt
      go_wp2
      go_ret
      exact ⟨_, rfl, by rw [HE.out]; exact HRr.out, grown_trans (grown_of_below HB4.out) HG.out⟩
end Go.Proofs.YtedgbohobgnedaeGreatDoor

namespace Go.Proofs.YtedgbohobgnedaeGreatDoor
open Go.ChangeShapes Go.WideShapes Go.ChangeAt Go.RowKit
set_option maxRecDepth 100000

/-- cubes in new memory, or that they are too many. -/
def OutR (S : Nat → Prop) (K : Nat) (w : World) (e : Ending) (o : Option (List (List Int))) : Prop :=
  match o with
  | none => e = .returned (.tuple #[.slice none 0 0, .int .i64 4])
  | some L => ∃ v, e = .returned (.tuple #[v, .int .i64 0]) ∧ RS2 (fun b => S b ∨ K ≤ b) w v L

set_option maxHeartbeats 8000000 in
theorem refAnd_any (S : Nat → Prop) (va vb : Value) (A B : List (List Int)) (M : Nat) (hM : M ≤ 6) (w : World) (hA : ∀ c ∈ A, cubeOk M c) (hB : ∀ c ∈ B, cubeOk M c) (hA4 : A.length ≤ 40) (hB4 : B.length ≤ 40) (hRA : RS2 S w va A) (hRB : RS2 S w vb B) :
    Calls Tryz.prog 45 #[va, vb] w fun e w' => OutR S w.heap.size w' e (capC (andC A B)) ∧ Below w.heap.size w w' := by
  obtain ⟨ao, acap, hav, ha63⟩ := hRA.slice
  obtain ⟨bo, bcap, hbv, hb63⟩ := hRB.slice
  obtain ⟨K, hK⟩ : ∃ K, K = w.heap.size := ⟨_, rfl⟩
  have HK : Hid (K = w.heap.size) := hK
  have HA : Hid (∀ k b off, k < A.length → ao = some ⟨b, off, none⟩ → ∃ o l cp, ∀ W, Below K w W → W.cell? ⟨b, off + k, none⟩ = some (.slice o l cp) ∧ Reads W (.slice o l cp) (A.getD k [])) := fun k b off hk e => hRA.always hK (by rw [hav, e]) hk
  have HB : Hid (∀ k b off, k < B.length → bo = some ⟨b, off, none⟩ → ∃ o l cp, ∀ W, Below K w W → W.cell? ⟨b, off + k, none⟩ = some (.slice o l cp) ∧ Reads W (.slice o l cp) (B.getD k [])) := fun k b off hk e => hRB.always hK (by rw [hbv, e]) hk
  have HAf : Hid (0 < A.length → ∃ b off, ao = some ⟨b, off, none⟩) := fun h0 => by
    obtain ⟨b, off, cap, e⟩ := hRA.form h0
    rw [hav] at e; cases e; exact ⟨b, off, rfl⟩
  have HBf : Hid (0 < B.length → ∃ b off, bo = some ⟨b, off, none⟩) := fun h0 => by
    obtain ⟨b, off, cap, e⟩ := hRB.form h0
    rw [hbv] at e; cases e; exact ⟨b, off, rfl⟩
  have HJ : Hid (∀ i k W vc vd, i < A.length → k < B.length → Reads W vc (A.getD i []) → Reads W vd (B.getD k []) → Calls Tryz.prog 68 #[vc, vd] W fun e w' => (bothWays (A.getD i [] ++ B.getD k []) = true → e = .returned (.tuple #[.slice none 0 0, .bool false])) ∧ (bothWays (A.getD i [] ++ B.getD k []) = false → ∃ v, e = .returned (.tuple #[v, .bool true]) ∧ RS (fun q => W.heap.size ≤ q) w' v (joinC (A.getD i []) (B.getD k []))) ∧ Below W.heap.size W w') := fun i k W vc vd hi hk h1 h2 =>
    refJoin_any vc vd (A.getD i []) (B.getD k []) W (Nat.le_trans (cube_len (hA _ (mem_getD hi))) hM) (Nat.le_trans (cube_len (hB _ (mem_getD hk))) hM) (fun m hm => by
      rcases List.mem_append.1 hm with h | h
      · have := (hA _ (mem_getD hi)).1 m h; omega
      · have := (hB _ (mem_getD hk)).1 m h; omega) h1 h2
  subst hav hbv
  rw [← hK]
  clear hRA hRB hA hB hK
  obtain ⟨na, hna⟩ : ∃ na, na = A.length := ⟨_, rfl⟩
  obtain ⟨nb, hnb⟩ : ∃ nb, nb = B.length := ⟨_, rfl⟩
  rw [← hna] at ha63 hA4 ⊢
  rw [← hnb] at hb63 hB4 ⊢
  have HN : Hid (na = A.length ∧ nb = B.length) := ⟨hna, hnb⟩
  clear hna hnb
  go_enter Tryz.func45, Tryz.ntmps45
  go_wp2_with fail
  go_loopw [6, 7, 8, 9, 10] (fun v i _ _ _ wr => ∃ k : Nat, k ≤ na ∧ i = .int .i64 k ∧ Own2 S K wr v (rowsC A B k) ∧ (rowsC A B k).length ≤ 40 * k ∧ Below K w wr ∧ K ≤ wr.heap.size) (fun _ i _ _ _ _ => na - (intOf i).toNat)
  case atStart => exact ⟨0, Nat.zero_le _, rfl, Own2.nil _ _ _, by simp [rowsC], Below.refl _ _, by rw [HK.out]; exact Nat.le_refl _⟩
  case round =>
    obtain ⟨i, hi, rfl, hown, hlen, hbel, hKw⟩ := hrel
    have HO : Hid (Own2 S K wr u6 (rowsC A B i) ∧ (rowsC A B i).length ≤ 40 * i ∧ Below K w wr ∧ K ≤ wr.heap.size) := ⟨hown, hlen, hbel, hKw⟩
    clear hown hlen hbel hKw
    by_cases hlt : i < na
    · have hiA : i < A.length := by rw [← HN.out.1]; exact hlt
      obtain ⟨ab, aoff, rfl⟩ := HAf.out (by omega)
      obtain ⟨co, cl, ccp, hall⟩ := HA.out i ab aoff hiA rfl
      have hltz : (i : Int) < (na : Int) := by omega
      have HCr : Hid (∀ W, Below K w W → W.cell? ⟨ab, aoff + i, none⟩ = some (.slice co cl ccp) ∧ Reads W (.slice co cl ccp) (A.getD i [])) := hall
      have HIA : Hid (i < A.length) := hiA
      clear hall hiA
      go_wp2_with fail
      go_loopw [6, 8, 9, 10] (fun v j _ _ wq => ∃ k : Nat, k ≤ nb ∧ j = .int .i64 k ∧ Own2 S K wq v (rowC A B i k) ∧ (rowC A B i k).length ≤ 40 * i + k ∧ Below K w wq ∧ K ≤ wq.heap.size) (fun _ j _ _ _ => nb - (intOf j).toNat)
      case atStart => exact ⟨0, Nat.zero_le _, rfl, HO.out.1, HO.out.2.1, HO.out.2.2.1, HO.out.2.2.2⟩
      case round =>
        obtain ⟨k, hk, rfl, hown, hlen, hbel, hKw⟩ := hrel
        have HI : Hid (Own2 S K wr u6 (rowC A B i k) ∧ (rowC A B i k).length ≤ 40 * i + k ∧ Below K w wr ∧ K ≤ wr.heap.size) := ⟨hown, hlen, hbel, hKw⟩
        clear hown hlen hbel hKw
        by_cases hltb : k < nb
        · have hkB : k < B.length := by rw [← HN.out.2]; exact hltb
          obtain ⟨bb, boff, rfl⟩ := HBf.out (by omega)
          obtain ⟨eo, el, ecp, hall⟩ := HB.out k bb boff hkB rfl
          have hcell := (HCr.out wr HI.out.2.2.1).1
          have hcell2 := (hall wr HI.out.2.2.1).1
          have hltz2 : (k : Int) < (nb : Int) := by omega
          have HKB : Hid (k < B.length) := hkB
          have HJ1 := fun W (hW : Below wr.heap.size wr W) => HJ.out i k W (.slice co cl ccp) (.slice eo el ecp) HIA.out hkB (HCr.out W (HI.out.2.2.1.trans (hW.mono HI.out.2.2.2))).2 (hall W (HI.out.2.2.1.trans (hW.mono HI.out.2.2.2))).2
          have hLe := (andS_len (rowC A B i k) (A.getD i []) (B.getD k [])).2
          rw [← rowC_succ A B i hkB] at hLe
          have HLe : Hid ((rowC A B i (k + 1)).length ≤ (rowC A B i k).length + 1) := hLe
          clear hkB hall hLe
          cases hbw : bothWays (A.getD i [] ++ B.getD k []) with
          | true =>
            have HJ2 : Hid (∀ W, Below wr.heap.size wr W → Calls Tryz.prog 68 #[.slice co cl ccp, .slice eo el ecp] W fun e w' => e = .returned (.tuple #[.slice none 0 0, .bool false]) ∧ Below wr.heap.size wr w') := fun W hW => (HJ1 W hW).mono fun e w' h => ⟨h.1 hbw, hW.trans (h.2.2.mono hW.size)⟩
            have HE : Hid (rowC A B i (k + 1) = rowC A B i k) := by unfold Hid; rw [rowC_succ A B i HKB.out]; unfold andS; rw [if_pos hbw]
            clear HJ1 hbw
            go_wp2_with fail
            go_cut [9, 10] from 23 to 34 (fun c ok wx => ok = .bool false ∧ Below wr.heap.size wr wx)
            case first =>
              go_region_with (go_at_call 68; refine (HJ2.out _ (by first | exact Below.refl _ _ | exact below_drewNs _ _)).mono ?_; rintro e w3 ⟨rfl, hb3⟩)
              all_goals (try go_wp2_with fail)
              all_goals go_meet
              all_goals exact ⟨rfl, hb3⟩
            case rest =>
              obtain ⟨rfl, hbc⟩ := hcut
              have HB3 : Hid (Below wr.heap.size wr wc) := hbc
              clear hbc
              go_wp2
              go_roundw
              case rel => exact ⟨k + 1, by omega, by go_num, by rw [HE.out]; exact HI.out.1.below HB3.out, by have := HLe.out; have := HI.out.2.1; omega, HI.out.2.2.1.trans (HB3.out.mono HI.out.2.2.2), Nat.le_trans HI.out.2.2.2 HB3.out.size⟩
              case measure => simp [intOf]; omega
          | false =>
            have HJ2 : Hid (∀ W, Below wr.heap.size wr W → Calls Tryz.prog 68 #[.slice co cl ccp, .slice eo el ecp] W fun e w' => ∃ v, e = .returned (.tuple #[v, .bool true]) ∧ RS (fun q => wr.heap.size ≤ q) w' v (joinC (A.getD i []) (B.getD k [])) ∧ Below wr.heap.size wr w') := fun W hW => (HJ1 W hW).mono fun e w' h => by
              obtain ⟨v, h1, h2⟩ := h.2.1 hbw
              exact ⟨v, h1, h2.mono fun q _ hq => Nat.le_trans hW.size hq, hW.trans (h.2.2.mono hW.size)⟩
            have HE : Hid (rowC A B i (k + 1) = putC (rowC A B i k) (joinC (A.getD i []) (B.getD k []))) := by unfold Hid; rw [rowC_succ A B i HKB.out]; unfold andS; rw [if_neg (by rw [hbw]; decide)]
            clear HJ1 hbw
            go_wp2_with fail
            go_cut [9, 10] from 23 to 34 (fun c ok wx => ok = .bool true ∧ RS (fun q => wr.heap.size ≤ q) wx c (joinC (A.getD i []) (B.getD k [])) ∧ Below wr.heap.size wr wx)
            case first =>
              go_region_with (go_at_call 68; refine (HJ2.out _ (by first | exact Below.refl _ _ | exact below_drewNs _ _)).mono ?_; rintro e w3 ⟨v3, rfl, hr3, hb3⟩)
              all_goals (try go_wp2_with fail)
              all_goals go_meet
              all_goals exact ⟨rfl, hr3, hb3⟩
            case rest =>
              obtain ⟨rfl, hrc, hbc⟩ := hcut
              have HB2 : Hid (Below K w wc ∧ Below wr.heap.size wr wc ∧ K ≤ wc.heap.size) := ⟨HI.out.2.2.1.trans (hbc.mono HI.out.2.2.2), hbc, by have := hbc.size; have := HI.out.2.2.2; omega⟩
              have HW : Hid (Calls Tryz.prog 69 #[u6, u9] wc fun e w' => ∃ v', e = .returned v' ∧ Own2 S K w' v' (rowC A B i (k + 1)) ∧ wc.grownBy w' u6.ownBlock) := by
                unfold Hid
                rw [HE.out]
                exact refPut_any S K u6 u9 (rowC A B i k) _ wc HB2.out.2.2 (HI.out.1.below hbc) (hrc.mono fun b _ hb => ⟨Or.inr (Nat.le_trans HI.out.2.2.2 hb), fun e => by have := (HI.out.1.lt b e.symm).2; omega⟩) (by have := HI.out.2.1; omega)
              clear hrc hbc
              go_wp2_with fail
              go_at_call 69
              refine HW.out.mono ?_
              rintro e w3 ⟨v3, rfl, hown3, hgr⟩
              have HB3 : Hid (Own2 S K w3 v3 (rowC A B i (k + 1)) ∧ Below K w w3 ∧ K ≤ w3.heap.size) := ⟨hown3, HB2.out.1.grown hgr HB2.out.2.2 (fun j hj => (HI.out.1.lt j hj).1), by have := hgr.size; have := HB2.out.2.2; omega⟩
              clear hown3 hgr HW
              go_wp2
              go_roundw
              case rel => exact ⟨k + 1, by omega, by go_num, HB3.out.1, by have := HLe.out; have := HI.out.2.1; omega, HB3.out.2.1, HB3.out.2.2⟩
              case measure => simp [intOf]; omega
        · have hltz2 : ¬ (k : Int) < (nb : Int) := by omega
          have HE : Hid (rowsC A B (i + 1) = rowC A B i k) := by
            unfold Hid
            rw [rowsC_succ A B HIA.out, show B.length = k by have := HN.out.2; omega]
          go_wp2
          go_roundw
          case rel => exact ⟨i + 1, by omega, by go_num, by rw [HE.out]; exact HI.out.1, by rw [HE.out]; have := HI.out.2.1; omega, HI.out.2.2.1, HI.out.2.2.2⟩
          case measure => simp [intOf]; omega
    · have hltz : ¬ (i : Int) < (na : Int) := by omega
      have HE : Hid (rowsC A B i = andC A B) := by
        unfold Hid
        rw [← rowsC_all, show A.length = i by have := HN.out.1; omega]
      have h1 := HO.out.1
      rw [HE.out] at h1
      obtain ⟨o3, c3, rfl⟩ := h1.form
      have HO3 : Hid (Own2 S K wr (.slice o3 (andC A B).length c3) (andC A B)) := h1
      obtain ⟨l3, hl3⟩ : ∃ l3, l3 = (andC A B).length := ⟨_, rfl⟩
      rw [← hl3] at HO3 ⊢
      have HL3 : Hid (l3 = (andC A B).length) := hl3
      clear h1 hl3
      by_cases h40 : 40 < l3
      · have h40z : (40 : Int) < (l3 : Int) := by omega
        have HC : Hid (capC (andC A B) = none) := capC_big (by have := HL3.out; omega)
        go_wp2
        go_ret2
        refine ⟨?_, HO.out.2.2.1⟩
        rw [HC.out]; rfl
      · have h40z : ¬ (40 : Int) < (l3 : Int) := by omega
        have HC : Hid (capC (andC A B) = some (andC A B)) := capC_small (by have := HL3.out; omega)
        go_wp2
        go_ret2
        refine ⟨?_, HO.out.2.2.1⟩
        rw [HC.out]
        exact ⟨_, rfl, HO3.out.reads (by have := HL3.out; omega)⟩
end Go.Proofs.YtedgbohobgnedaeGreatDoor

namespace Go.Proofs.YtedgbohobgnedaeGreatDoor
open Go.ChangeShapes Go.WideShapes Go.ChangeAt Go.RowKit
set_option maxRecDepth 100000

theorem RS2.alwaysS {S : Nat → Prop} {w : World} {v : Value} {L : List (List Int)} {K : Nat} (h : RS2 S w v L) (hK : K = w.heap.size) {b off n cap : Nat} (hv : v = .slice (some ⟨b, off, none⟩) n cap) {k : Nat} (hk : k < L.length) : ∃ o l cp, ∀ W, Below K w W → W.cell? ⟨b, off + k, none⟩ = some (.slice o l cp) ∧ RS (fun b => S b ∧ b < K) W (.slice o l cp) (L.getD k []) := by
  obtain ⟨o, l, cp, hc, hr⟩ := h.cellAt hv hk
  subst hK
  refine ⟨o, l, cp, fun W hW => ⟨?_, (hr.mono (T := fun b => S b ∧ b < w.heap.size) fun b hb hs => ⟨hs, hb⟩).kept (Kept.of_belowK hW fun b hb _ => hb.2)⟩⟩
  have hb : b < w.heap.size := by
    rcases h with ⟨_, _, _, rfl⟩ | ⟨b', off', cap', hv', hB, _⟩
    · simp at hk
    · rw [hv] at hv'; cases hv'; exact hB.2
  rw [hW.cell (show (⟨b, off + k, none⟩ : Addr).block < _ from hb)]; exact hc
/-- nothing is appended to nothing. -/
theorem wpList_append_nothing {P : Program} (w : World) {ops : Array Oper} {rest : List Oper} {o : Oper} {a : Act} {Q : Exit → Act → World → Prop}
    (hg : o.guard = none) (s x : Operand) (t : TypeId) (hop : o.op = Op.call { callee := Callee.builtin Builtin.append, args := #[s, x], argTypes := #[t, t] })
    (e : TypeId) (i : TypeInfo) (h1 : P.underlying t = some (.slice e)) (h2 : P.info? e = some i) (ao : Option Addr) (cap : Nat)
    (hs : a.eval s = .slice none 0 0) (hx : a.eval x = .slice ao 0 cap) (hK : wpList P ops Q rest (a.put o.dst (.slice none 0 0)) w) : wpList P ops Q (o :: rest) a w := by
  refine wpList_plain hg fun K hK' => ?_
  have hrun : (Builtin.append_ #[t, t] o.type #[.slice none 0 0, .slice ao 0 cap]).run P w = .ok (.slice none 0 0) w := by
    cases ao <;> simp [Builtin.append_, run_underlying h1, sizeOf, typeInfo, h2, Builtin.lenOf, Builtin.firstCells, loadCells, loadCellsFrom]
  unfold Oper.wp
  simp [execOp, hop, resolve, invoke, builtin, hs, hx, hrun, Result.andThen]
  exact hK' _ _ hK
theorem putF_succ (A B : List (List Int)) {k : Nat} (h : k < B.length) : (B.take (k + 1)).foldl putC A = putC ((B.take k).foldl putC A) (B.getD k []) := by
  rw [takeL_succ B h, List.foldl_append]; rfl

set_option maxHeartbeats 8000000 in
theorem refOr_any (S : Nat → Prop) (va vb : Value) (A B : List (List Int)) (w : World) (hAn : A.Nodup) (hA4 : A.length ≤ 40) (hB4 : B.length ≤ 40) (hRA : RS2 S w va A) (hRB : RS2 S w vb B) :
    Calls Tryz.prog 46 #[va, vb] w fun e w' => OutR S w.heap.size w' e (capC (orC A B)) ∧ Below w.heap.size w w' := by
  obtain ⟨i0, hi, hz0, hz1, hz2⟩ := info_parts infoS
  obtain ⟨ao, acap, xa, hav, la, hxa, hxar⟩ := rs2_row hRA
  obtain ⟨bo, bcap, hbv, hb63⟩ := hRB.slice
  obtain ⟨K, hK⟩ : ∃ K, K = w.heap.size := ⟨_, rfl⟩
  have HK : Hid (K = w.heap.size) := hK
  have HB : Hid (∀ k b off, k < B.length → bo = some ⟨b, off, none⟩ → ∃ o l cp, ∀ W, Below K w W → W.cell? ⟨b, off + k, none⟩ = some (.slice o l cp) ∧ RS (fun b => S b ∧ b < K) W (.slice o l cp) (B.getD k [])) := fun k b off hk e => hRB.alwaysS hK (by rw [hbv, e]) hk
  have HBf : Hid (0 < B.length → ∃ b off, bo = some ⟨b, off, none⟩) := fun h0 => by
    obtain ⟨b, off, cap, e⟩ := hRB.form h0
    rw [hbv] at e; cases e; exact ⟨b, off, rfl⟩
  have HOr : Hid (orC A B = B.foldl putC A) := or_eq hAn
  have HX : Hid (xa.length = A.length ∧ ∀ (k : Nat) t, A[k]? = some t → ∃ u, xa[k]? = some u ∧ RS S w u t) := ⟨hxa, hxar⟩
  have HLa : Hid ((⟨ao, A.length, acap, xa⟩ : RowV).Lies w) := la
  have HPl : Hid (∀ k, ((B.take k).foldl putC A).length ≤ 80) := fun k => by
    have h1 := (putF_len (B.take k) A).2
    have h2 : (B.take k).length ≤ B.length := by simp; omega
    omega
  subst hav hbv
  rw [← hK, HOr.out]
  obtain ⟨na, hna⟩ : ∃ na, na = A.length := ⟨_, rfl⟩
  obtain ⟨nb, hnb⟩ : ∃ nb, nb = B.length := ⟨_, rfl⟩
  rw [← hna] at hA4 ⊢
  rw [← hnb] at hb63 hB4 ⊢
  have HN : Hid (na = A.length ∧ nb = B.length) := ⟨hna, hnb⟩
  clear hna hnb la hxa hxar hRA hRB hK hAn HOr
  rcases Nat.eq_zero_or_pos na with h0 | h0
  · have HO1 : Hid (Own2 S K w (.slice none 0 0) A ∧ Below K w w ∧ K ≤ w.heap.size) := by
      have e : A = [] := List.eq_nil_of_length_eq_zero (by have := HN.out.1; omega)
      rw [e]
      exact ⟨Own2.nil _ _ _, Below.refl _ _, by rw [HK.out]; exact Nat.le_refl _⟩
    subst h0
    clear HX HLa
    go_enter Tryz.func46, Tryz.ntmps46
    go_wp2_with (first | (at_builtin; refine wpList_append_nothing _ rfl (.tmp 8) (.tmp 9) 57 rfl 23 i0 Tryz.underlying57 hi ao acap rfl rfl ?_))
    go_wp2_with fail
    go_loopw [6, 7] (fun v j wq => ∃ k : Nat, k ≤ nb ∧ j = .int .i64 k ∧ Own2 S K wq v ((B.take k).foldl putC A) ∧ Below K w wq ∧ K ≤ wq.heap.size) (fun _ j _ => nb - (intOf j).toNat)
    case atStart => exact ⟨0, Nat.zero_le _, rfl, HO1.out.1, HO1.out.2.1, HO1.out.2.2⟩
    case round =>
      obtain ⟨k, hk, rfl, hown, hbel, hKw⟩ := hrel
      have HI : Hid (Own2 S K wr u6 ((B.take k).foldl putC A) ∧ Below K w wr ∧ K ≤ wr.heap.size) := ⟨hown, hbel, hKw⟩
      clear hown hbel hKw
      by_cases hltb : k < nb
      · have hkB : k < B.length := by rw [← HN.out.2]; exact hltb
        obtain ⟨bb, boff, rfl⟩ := HBf.out (by omega)
        obtain ⟨eo, el, ecp, hall⟩ := HB.out k bb boff hkB rfl
        obtain ⟨hcell, hr⟩ := hall wr HI.out.2.1
        have hltz2 : (k : Int) < (nb : Int) := by omega
        have HW : Hid (Calls Tryz.prog 69 #[u6, .slice eo el ecp] wr fun e w' => ∃ v', e = .returned v' ∧ Own2 S K w' v' ((B.take (k + 1)).foldl putC A) ∧ wr.grownBy w' u6.ownBlock) := by
          unfold Hid
          rw [putF_succ A B hkB]
          exact refPut_any S K u6 _ _ _ wr HI.out.2.2 HI.out.1 (hr.mono fun b _ hb => ⟨Or.inl hb.1, fun e => by have := (HI.out.1.lt b e.symm).1; omega⟩) (by have := HPl.out k; omega)
        clear hr hall hkB
        go_wp2_with fail
        go_at_call 69
        refine HW.out.mono ?_
        rintro e w3 ⟨v3, rfl, hown3, hgr⟩
        have HB3 : Hid (Own2 S K w3 v3 ((B.take (k + 1)).foldl putC A) ∧ Below K w w3 ∧ K ≤ w3.heap.size) := ⟨hown3, HI.out.2.1.grown hgr HI.out.2.2 (fun j hj => (HI.out.1.lt j hj).1), by have := hgr.size; have := HI.out.2.2; omega⟩
        clear hown3 hgr HW
        go_wp2
        go_roundw
        case rel => exact ⟨k + 1, by omega, by go_num, HB3.out.1, HB3.out.2.1, HB3.out.2.2⟩
        case measure => simp [intOf]; omega
      · have hltz2 : ¬ (k : Int) < (nb : Int) := by omega
        have e : B.take k = B := List.take_of_length_le (by have := HN.out; omega)
        have h1 := HI.out.1
        rw [e] at h1
        obtain ⟨o3, c3, rfl⟩ := h1.form
        have HO3 : Hid (Own2 S K wr (.slice o3 (B.foldl putC A).length c3) (B.foldl putC A)) := h1
        obtain ⟨l3, hl3⟩ : ∃ l3, l3 = (B.foldl putC A).length := ⟨_, rfl⟩
        rw [← hl3] at HO3 ⊢
        have HL3 : Hid (l3 = (B.foldl putC A).length) := hl3
        clear h1 hl3 e
        by_cases h40 : 40 < l3
        · have h40z : (40 : Int) < (l3 : Int) := by omega
          have HC : Hid (capC (B.foldl putC A) = none) := capC_big (by have := HL3.out; omega)
          go_wp2
          go_ret2
          refine ⟨?_, HI.out.2.1⟩
          rw [HC.out]; rfl
        · have h40z : ¬ (40 : Int) < (l3 : Int) := by omega
          have HC : Hid (capC (B.foldl putC A) = some (B.foldl putC A)) := capC_small (by have := HL3.out; omega)
          go_wp2
          go_ret2
          refine ⟨?_, HI.out.2.1⟩
          rw [HC.out]
          exact ⟨_, rfl, HO3.out.reads (by have := HL3.out; omega)⟩
  · obtain ⟨ab, aoff, rfl⟩ : ∃ ab aoff, ao = some ⟨ab, aoff, none⟩ := by
      rcases HLa.out.2.2 with h | ⟨b, off, e, _⟩
      · have h3 : A.length = 0 := h; have := HN.out.1; omega
      · exact ⟨b, off, e⟩
    have HCa : Hid (∀ j u, xa[j]? = some u → w.cell? ((⟨ab, aoff, none⟩ : Addr).add j) = some u) := fun j u hu => by
      rcases HLa.out.2.2 with h | ⟨b, off, e, _, hc⟩
      · have h3 : A.length = 0 := h; have := HN.out.1; omega
      · cases e; have h2 := hc j u hu; unfold Addr.add; split <;> simp_all
    have H1c : Hid (∀ u ∈ xa, u.oneCell' = true) := HLa.out.2.1
    have HXl : Hid (xa.length = na * 1) := by have := HX.out.1; have := HN.out.1; unfold Hid; omega
    have HS : Hid (K ≤ w.heap.size) := by unfold Hid; rw [HK.out]; exact Nat.le_refl _
    clear HLa
    go_enter Tryz.func46, Tryz.ntmps46
    go_wp2_with (first | (at_builtin; refine wpList_append_lies _ rfl (.tmp 8) (.tmp 9) 57 rfl K 23 i0 (.slice none 0 0) 1 24 Tryz.underlying57 hi hz0 hz1 hz2 rfl (by decide) (.slice none 0 0) 0 [] rfl (World.ownsRow_nil _ _ _ _) ⟨ab, aoff, none⟩ na acap xa rfl HXl.out HCa.out H1c.out h0 ?d3 ?d4 HS.out w.heap.size rfl ?_))
    case d3 => unfold maxLen; omega
    case d4 => omega
    intro g cap w1 hown hgrow hat hlt
    have HO1 : Hid (Own2 S K w1 (.slice (some ⟨g, 0, none⟩) na cap) A ∧ Below K w w1 ∧ K ≤ w1.heap.size) := by
      have hg : g = w.heap.size := by
        rcases hat with e | e
        · cases e
        · exact e
      refine ⟨⟨xa, by rw [← HN.out.1]; simpa using hown, fun k t hk => ?_⟩, ?_, by have := hgrow.size; have := HS.out; omega⟩
      · obtain ⟨u, hu, hr⟩ := HX.out.2 k t hk
        refine ⟨u, hu, ?_⟩
        have h1 : RS (fun b => S b ∧ b < w.heap.size) w u t := hr.mono fun b hb hs => ⟨hs, hb⟩
        refine (h1.kept (Kept.of_grown hgrow fun b _ e => by cases e)).mono fun b _ hb => ⟨Or.inl hb.1, ?_⟩
        show some b ≠ some g
        intro e
        have := Option.some.inj e
        omega
      · exact (Below.refl K w).grown hgrow HS.out (fun j hj => by cases hj)
    clear hown hgrow hat hlt HX HCa H1c HXl HS
    go_wp2_with fail
    go_loopw [6, 7] (fun v j wq => ∃ k : Nat, k ≤ nb ∧ j = .int .i64 k ∧ Own2 S K wq v ((B.take k).foldl putC A) ∧ Below K w wq ∧ K ≤ wq.heap.size) (fun _ j _ => nb - (intOf j).toNat)
    case atStart => exact ⟨0, Nat.zero_le _, rfl, HO1.out.1, HO1.out.2.1, HO1.out.2.2⟩
    case round =>
      obtain ⟨k, hk, rfl, hown, hbel, hKw⟩ := hrel
      have HI : Hid (Own2 S K wr u6 ((B.take k).foldl putC A) ∧ Below K w wr ∧ K ≤ wr.heap.size) := ⟨hown, hbel, hKw⟩
      clear hown hbel hKw
      by_cases hltb : k < nb
      · have hkB : k < B.length := by rw [← HN.out.2]; exact hltb
        obtain ⟨bb, boff, rfl⟩ := HBf.out (by omega)
        obtain ⟨eo, el, ecp, hall⟩ := HB.out k bb boff hkB rfl
        obtain ⟨hcell, hr⟩ := hall wr HI.out.2.1
        have hltz2 : (k : Int) < (nb : Int) := by omega
        have HW : Hid (Calls Tryz.prog 69 #[u6, .slice eo el ecp] wr fun e w' => ∃ v', e = .returned v' ∧ Own2 S K w' v' ((B.take (k + 1)).foldl putC A) ∧ wr.grownBy w' u6.ownBlock) := by
          unfold Hid
          rw [putF_succ A B hkB]
          exact refPut_any S K u6 _ _ _ wr HI.out.2.2 HI.out.1 (hr.mono fun b _ hb => ⟨Or.inl hb.1, fun e => by have := (HI.out.1.lt b e.symm).1; omega⟩) (by have := HPl.out k; omega)
        clear hr hall hkB
        go_wp2_with fail
        go_at_call 69
        refine HW.out.mono ?_
        rintro e w3 ⟨v3, rfl, hown3, hgr⟩
        have HB3 : Hid (Own2 S K w3 v3 ((B.take (k + 1)).foldl putC A) ∧ Below K w w3 ∧ K ≤ w3.heap.size) := ⟨hown3, HI.out.2.1.grown hgr HI.out.2.2 (fun j hj => (HI.out.1.lt j hj).1), by have := hgr.size; have := HI.out.2.2; omega⟩
        clear hown3 hgr HW
        go_wp2
        go_roundw
        case rel => exact ⟨k + 1, by omega, by go_num, HB3.out.1, HB3.out.2.1, HB3.out.2.2⟩
        case measure => simp [intOf]; omega
      · have hltz2 : ¬ (k : Int) < (nb : Int) := by omega
        have e : B.take k = B := List.take_of_length_le (by have := HN.out; omega)
        have h1 := HI.out.1
        rw [e] at h1
        obtain ⟨o3, c3, rfl⟩ := h1.form
        have HO3 : Hid (Own2 S K wr (.slice o3 (B.foldl putC A).length c3) (B.foldl putC A)) := h1
        obtain ⟨l3, hl3⟩ : ∃ l3, l3 = (B.foldl putC A).length := ⟨_, rfl⟩
        rw [← hl3] at HO3 ⊢
        have HL3 : Hid (l3 = (B.foldl putC A).length) := hl3
        clear h1 hl3 e
        by_cases h40 : 40 < l3
        · have h40z : (40 : Int) < (l3 : Int) := by omega
          have HC : Hid (capC (B.foldl putC A) = none) := capC_big (by have := HL3.out; omega)
          go_wp2
          go_ret2
          refine ⟨?_, HI.out.2.1⟩
          rw [HC.out]; rfl
        · have h40z : ¬ (40 : Int) < (l3 : Int) := by omega
          have HC : Hid (capC (B.foldl putC A) = some (B.foldl putC A)) := capC_small (by have := HL3.out; omega)
          go_wp2
          go_ret2
          refine ⟨?_, HI.out.2.1⟩
          rw [HC.out]
          exact ⟨_, rfl, HO3.out.reads (by have := HL3.out; omega)⟩
end Go.Proofs.YtedgbohobgnedaeGreatDoor

namespace Go.Proofs.YtedgbohobgnedaeGreatDoor
open Go.ChangeShapes Go.WideShapes Go.ChangeAt Go.RowKit
set_option maxRecDepth 100000

theorem memI {c : List Int} {k : Nat} (h : k < c.length) : c.getD k 0 ∈ c := by
  rw [List.getD_eq_getElem?_getD, List.getElem?_eq_getElem h]; exact List.getElem_mem h
theorem turnC_len (c : List Int) : (turnC c).length = c.length := by unfold turnC; simp

set_option maxHeartbeats 8000000 in
theorem refNo_any (S : Nat → Prop) (va : Value) (A : List (List Int)) (M : Nat) (hM : M ≤ 6) (w : World) (hA : ∀ c ∈ A, cubeOk M c) (hRA : RS2 S w va A) :
    Calls Tryz.prog 44 #[va] w fun e w' => OutR S w.heap.size w' e (noC A [[]]) ∧ Below w.heap.size w w' := by
  obtain ⟨i0, hi, hz0, hz1, hz2⟩ := info_parts infoS
  obtain ⟨ao, acap, hav, ha63⟩ := hRA.slice
  obtain ⟨K, hK⟩ : ∃ K, K = w.heap.size := ⟨_, rfl⟩
  have HK : Hid (K = w.heap.size) := hK
  have HA : Hid (∀ k b off, k < A.length → ao = some ⟨b, off, none⟩ → ∃ o l cp, ∀ W, Below K w W → W.cell? ⟨b, off + k, none⟩ = some (.slice o l cp) ∧ Reads W (.slice o l cp) (A.getD k [])) := fun k b off hk e => hRA.always hK (by rw [hav, e]) hk
  have HAf : Hid (0 < A.length → ∃ b off, ao = some ⟨b, off, none⟩) := fun h0 => by
    obtain ⟨b, off, cap, e⟩ := hRA.form h0
    rw [hav] at e; cases e; exact ⟨b, off, rfl⟩
  have HOk : Hid (∀ k O, noC (A.take k) [[]] = some O → okL M O ∧ O.length ≤ 40) := fun k O h => no_ok hM _ _ _ (fun c hc => hA c (List.mem_of_mem_take hc)) (okL_one M) (by simp) h
  have HMm : Hid (∀ i k, i < A.length → k < (A.getD i []).length → ((A.getD i []).getD k 0).natAbs ≤ 6) := fun i k hi hk => by
    have := ((hA _ (mem_getD hi)).1 _ (memI hk)).2
    omega
  have HLn : Hid (∀ i, i < A.length → (A.getD i []).length ≤ 6) := fun i hi => Nat.le_trans (cube_len (hA _ (mem_getD hi))) hM
  have HBo : Hid (∀ k O W v v', k < A.length → noC (A.take k) [[]] = some O → RS2 (fun b => K ≤ b) W v O → RS2 (fun b => K ≤ b) W v' (turnC (A.getD k [])) → Calls Tryz.prog 45 #[v, v'] W fun e w' => OutR (fun b => K ≤ b) W.heap.size w' e (capC (andC O (turnC (A.getD k [])))) ∧ Below W.heap.size W w') := fun k O W v v' hk hO h1 h2 => refAnd_any (fun b => K ≤ b) v v' O _ M hM W (HOk.out k O hO).1.1 (turn_ok (hA _ (mem_getD hk))) (HOk.out k O hO).2 (by have := HLn.out k hk; rw [turnC_len]; omega) h1 h2
  subst hav
  rw [← hK]
  clear hRA hA hK
  obtain ⟨na, hna⟩ : ∃ na, na = A.length := ⟨_, rfl⟩
  rw [← hna] at ha63 ⊢
  have HN : Hid (na = A.length) := hna
  clear hna
  obtain ⟨w1, hw1⟩ : ∃ w1, w1 = (w.alloc (.cells #[] 3)).alloc (.cells #[.slice (some ⟨w.heap.size, 0, none⟩) 0 0] 23) := ⟨_, rfl⟩
  have HB1 : Hid (Below K w w1 ∧ w1.heap.size = K + 2) := by
    rw [HK.out, hw1]; exact ⟨(below_alloc1 _ _).trans ((below_alloc1 _ _).mono (by simp)), by simp⟩
  have HO1 : Hid (RS2 (fun b => K ≤ b) w1 (.slice (some ⟨w.heap.size + 1, 0, none⟩) 1 1) [[]]) := by
    refine Or.inr ⟨w.heap.size + 1, 0, 1, rfl, ⟨by rw [HK.out]; exact Nat.le_succ _, by have := HB1.out.2; rw [← HK.out]; omega⟩, by simp, ⟨by simp, by simp⟩, fun k t hk => ?_⟩
    have hk0 : k = 0 := by have := (List.getElem?_eq_some_iff.1 hk).1; simpa using this
    subst hk0
    simp at hk; subst hk
    exact ⟨.slice (some ⟨w.heap.size, 0, none⟩) 0 0, by rw [hw1]; simp, Or.inl ⟨_, 0, rfl, rfl⟩⟩
  go_enter Tryz.func44, Tryz.ntmps44
  go_wp2_with fail
  rw [← hw1]
  clear hw1
  go_loopw [4, 5, 6, 7, 8, 9] (fun v i _ _ _ _ wr => ∃ (k : Nat) (O : List (List Int)), k ≤ na ∧ i = .int .i64 k ∧ noC (A.take k) [[]] = some O ∧ RS2 (fun b => K ≤ b) wr v O ∧ Below K w wr ∧ K ≤ wr.heap.size) (fun _ i _ _ _ _ _ => na - (intOf i).toNat)
  case atStart => exact ⟨0, [[]], Nat.zero_le _, rfl, rfl, HO1.out, HB1.out.1, by have := HB1.out.2; omega⟩
  case round =>
    obtain ⟨i, O, hi', rfl, hO, hR, hbel, hKw⟩ := hrel
    obtain ⟨w0, hw0⟩ : ∃ w0, w0 = wr := ⟨_, rfl⟩
    subst hw0
    have HJ : Hid (noC (A.take i) [[]] = some O ∧ RS2 (fun b => K ≤ b) w0 u4 O ∧ Below K w w0 ∧ K ≤ w0.heap.size) := ⟨hO, hR, hbel, hKw⟩
    clear hO hR hbel hKw
    by_cases hlt : i < na
    · have hiA : i < A.length := by rw [← HN.out]; exact hlt
      obtain ⟨ab, aoff, rfl⟩ := HAf.out (by omega)
      obtain ⟨co, cl, ccp, hall⟩ := HA.out i ab aoff hiA rfl
      obtain ⟨c, hc⟩ : ∃ c, c = A.getD i [] := ⟨_, rfl⟩
      rw [← hc] at hall
      have HCe : Hid (∀ W, Below K w W → W.cell? ⟨ab, aoff + i, none⟩ = some (.slice co cl ccp) ∧ cl = c.length ∧ ∀ k, k < c.length → ∃ q off, co = some ⟨q, off, none⟩ ∧ W.cell? ⟨q, off + k, none⟩ = some (.int .i64 (c.getD k 0))) := fun W hW => by
        have h := ((hall W hW).2.rs (S := fun _ => True) (fun _ _ => trivial)).numAt
        exact ⟨(hall W hW).1, h.1, h.2.2⟩
      have hltz : (i : Int) < (na : Int) := by omega
      have HM : Hid (∀ k, k < c.length → (c.getD k 0).natAbs ≤ 6) := by rw [hc]; exact fun k hk => HMm.out i k hiA hk
      have hl6 : cl ≤ 6 := by rw [(HCe.out w0 HJ.out.2.2.1).2.1, hc]; exact HLn.out i hiA
      have HBo1 := fun W v v' => HBo.out i O W v v' hiA HJ.out.1
      have hns := noC_succ A hiA HJ.out.1
      rw [← hc] at HBo1 hns
      have HS : Hid (noC (A.take (i + 1)) [[]] = capC (andC O (turnC c))) := hns
      have HBo2 : Hid (∀ W v v', RS2 (fun b => K ≤ b) W v O → RS2 (fun b => K ≤ b) W v' (turnC c) → Calls Tryz.prog 45 #[v, v'] W fun e w' => OutR (fun b => K ≤ b) W.heap.size w' e (capC (andC O (turnC c))) ∧ Below W.heap.size W w') := HBo1
      have HN2 : Hid (cl = c.length) := (HCe.out w0 HJ.out.2.2.1).2.1
      have HRo : Hid (∀ W, Below w0.heap.size w0 W → RS2 (fun b => K ≤ b) W u4 O) := fun W hW => HJ.out.2.1.kept (Kept.of_below hW)
      obtain ⟨oo, ocap, hof, _⟩ := HJ.out.2.1.slice
      obtain ⟨ol, hol⟩ : ∃ ol, ol = O.length := ⟨_, rfl⟩
      rw [← hol] at hof
      subst hof
      clear hall hiA hc HBo1 hns hol
      go_wp2_with fail
      go_loopw [6, 7] (fun v j wq => ∃ k : Nat, k ≤ cl ∧ j = .int .i64 k ∧ Own2 (fun _ => False) w0.heap.size wq v (turnC (c.take k)) ∧ Below w0.heap.size w0 wq) (fun _ j _ => cl - (intOf j).toNat)
      case atStart => exact ⟨0, Nat.zero_le _, rfl, Own2.nil _ _ _, Below.refl _ _⟩
      case round =>
        obtain ⟨k, hk, rfl, hown, hbel⟩ := hrel
        have HI : Hid (Own2 (fun _ => False) w0.heap.size wr u6 (turnC (c.take k)) ∧ Below w0.heap.size w0 wr ∧ w0.heap.size ≤ wr.heap.size ∧ Below K w wr) := ⟨hown, hbel, hbel.size, HJ.out.2.2.1.trans (hbel.mono HJ.out.2.2.2)⟩
        clear hown hbel
        have hcell := (HCe.out wr HI.out.2.2.2).1
        by_cases hltc : k < cl
        · have hkc : k < c.length := by rw [← HN2.out]; exact hltc
          obtain ⟨q, off, rfl, hcell2⟩ := (HCe.out wr HI.out.2.2.2).2.2 k hkc
          have hm := HM.out k hkc
          have HE : Hid (turnC (c.take (k + 1)) = turnC (c.take k) ++ [[-(c.getD k 0)]]) := turnC_succ c hkc
          obtain ⟨m, hmd⟩ : ∃ m, m = c.getD k 0 := ⟨_, rfl⟩
          rw [← hmd] at hcell2 hm HE
          clear hmd hkc
          have m1 : -9223372036854775808 ≤ -m := by omega
          have m2 : -m ≤ 9223372036854775807 := by omega
          have hltz2 : (k : Int) < (cl : Int) := by omega
          obtain ⟨w2, hw2⟩ : ∃ w2, w2 = wr.alloc (.cells #[.int .i64 (-m)] 3) := ⟨_, rfl⟩
          obtain ⟨w3, hw3⟩ : ∃ w3, w3 = w2.alloc (.cells #[.slice (some ⟨wr.heap.size, 0, none⟩) 1 1] 23) := ⟨_, rfl⟩
          have hs2 : w2.heap.size = wr.heap.size + 1 := by rw [hw2]; simp
          have HB3 : Hid (Below wr.heap.size wr w3 ∧ w3.heap.size = wr.heap.size + 2) := by
            refine ⟨?_, by rw [hw3]; simp [hs2]⟩
            rw [hw3]
            exact (by rw [hw2]; exact below_alloc1 _ _ : Below wr.heap.size wr w2).trans ((below_alloc1 _ _).mono (by omega))
          have HU : Hid (RS (fun b => ((fun _ => False) b ∨ w0.heap.size ≤ b) ∧ some b ≠ u6.ownBlock) w3 (.slice (some ⟨wr.heap.size, 0, none⟩) 1 1) [-m]) := by
            refine Or.inr ⟨wr.heap.size, 0, 1, rfl, ⟨⟨Or.inr HI.out.2.2.1, fun e => by have := (HI.out.1.lt _ e.symm).2; omega⟩, by have := HB3.out.2; omega⟩, by simp, ⟨by simp, by simp⟩, fun j hj => ?_⟩
            have hj0 : j = 0 := by simpa using hj
            subst hj0
            rw [hw3, World.cell?_alloc_lt _ _ ⟨wr.heap.size, 0 + 0, none⟩ (by simp; omega), hw2]
            simp
          obtain ⟨xs, ho, hx⟩ := HI.out.1.below HB3.out.1
          obtain ⟨l, hl'⟩ : ∃ l, l = (turnC (c.take k)).length := ⟨_, rfl⟩
          have HLl : Hid (l = (turnC (c.take k)).length ∧ l ≤ 6) := ⟨hl', by rw [hl', turnC_len]; simp; omega⟩
          obtain ⟨vo, vcap, hvf⟩ := HI.out.1.form
          rw [← hl'] at ho hvf
          clear hl'
          subst hvf
          have HOx : Hid (w3.ownsRow w0.heap.size 23 1 (.slice vo l vcap) l xs) := ho
          have HX : Hid (∀ (j : Nat) t, (turnC (c.take k))[j]? = some t → ∃ u, xs[j]? = some u ∧ RS (fun b => ((fun _ => False) b ∨ w0.heap.size ≤ b) ∧ some b ≠ (Value.slice vo l vcap).ownBlock) w3 u t) := hx
          have hca : w3.cell? ((⟨w2.heap.size, 0, none⟩ : Addr).add 0) = some (.slice (some ⟨wr.heap.size, 0, none⟩) 1 1) := by rw [hw3]; simp [Addr.add]
          have HCa : Hid (∀ j u, ([Value.slice (some ⟨wr.heap.size, 0, none⟩) 1 1] : List Value)[j]? = some u → w3.cell? ((⟨wr.heap.size + 1, 0, none⟩ : Addr).add j) = some u) := fun j u hu => by
            match j, hu with
            | 0, hu => simp at hu; subst hu; rw [← hs2]; exact hca
          have HS3 : Hid (w0.heap.size ≤ w3.heap.size) := by have := HB3.out.2; have := HI.out.2.2.1; unfold Hid; omega
          have HW3 : Hid ((wr.alloc (.cells #[.int .i64 (-m)] 3)).alloc (.cells #[.slice (some ⟨wr.heap.size, 0, none⟩) 1 1] 23) = w3) := by unfold Hid; rw [hw3, hw2]
          clear ho hx hca hw2 hw3
          go_wp2_with (first | (at_builtin; rw [HW3.out]; refine wpList_append_lies _ rfl (.tmp 27) (.tmp 37) 57 rfl w0.heap.size 23 i0 (.slice none 0 0) 1 24 Tryz.underlying57 hi hz0 hz1 hz2 rfl (by decide) (.slice vo l vcap) l xs rfl HOx.out ⟨wr.heap.size + 1, 0, none⟩ 1 1 [.slice (some ⟨wr.heap.size, 0, none⟩) 1 1] rfl rfl HCa.out (by intro y hy; simp at hy; subst hy; rfl) (by decide) ?d3 ?d4 HS3.out w3.heap.size rfl ?_))
          case d3 => have := HLl.out.2; unfold maxLen; omega
          case d4 => have := HLl.out.2; omega
          intro g cap w5 hown hgrow hat hlt5
          have HR : Hid (Own2 (fun _ => False) w0.heap.size w5 (.slice (some ⟨g, 0, none⟩) (l + 1) cap) (turnC (c.take (k + 1)))) := by
            unfold Hid
            rw [HE.out]
            have h1 := HOx.out
            have h2 := HX.out
            have h3 := HU.out
            have e := HLl.out.1
            subst e
            exact Own2.push h1 h2 h3 (by simpa using hown) hgrow hat
          have HB5 : Hid (Below w0.heap.size w0 w5) := (HI.out.2.1.trans (HB3.out.1.mono HI.out.2.2.1)).grown hgrow HS3.out (fun j hj => (HOx.out.lt j hj).1)
          clear hown hgrow hat hlt5
          go_wp2
          go_roundw
          case rel => exact ⟨k + 1, by omega, by go_num, HR.out, HB5.out⟩
          case measure => simp [intOf]; omega
        · have hltz2 : ¬ (k : Int) < (cl : Int) := by omega
          have e : c.take k = c := List.take_of_length_le (by have := HN2.out; omega)
          have h1 := HI.out.1
          rw [e] at h1
          have h2 := h1.reads (by rw [turnC_len]; have := HN2.out; omega)
          obtain ⟨tq, tcap, htf, _⟩ := h2.slice
          have HBo3 : Hid (Calls Tryz.prog 45 #[.slice oo ol ocap, u6] wr fun e w' => OutR (fun b => K ≤ b) wr.heap.size w' e (capC (andC O (turnC c))) ∧ Below wr.heap.size wr w') := HBo2.out wr _ _ (HRo.out wr HI.out.2.1) (h2.mono fun b _ hb => Nat.le_trans HJ.out.2.2.2 (hb.resolve_left id))
          have HKr : Hid (K ≤ wr.heap.size) := Nat.le_trans HJ.out.2.2.2 HI.out.2.2.1
          obtain ⟨tl, htl⟩ : ∃ tl, tl = (turnC c).length := ⟨_, rfl⟩
          rw [← htl] at htf
          subst htf
          clear h1 h2 htl e
          go_wp2_with fail
          go_at_call 45
          refine HBo3.out.mono ?_
          rintro e w3 ⟨hout, hb3⟩
          have HB3 : Hid (Below K w w3 ∧ K ≤ w3.heap.size) := ⟨HI.out.2.2.2.trans (hb3.mono HKr.out), by have := hb3.size; have := HKr.out; omega⟩
          clear hb3 HBo3
          cases hcap : capC (andC O (turnC c)) with
          | none =>
            rw [hcap] at hout
            have he : e = .returned (.tuple #[.slice none 0 0, .int .i64 4]) := hout
            subst he
            have HE : Hid (noC A [[]] = none) := noC_none (HS.out.trans hcap)
            clear hcap hout
            go_wp2
            go_ret2
            refine ⟨?_, HB3.out.1⟩
            rw [HE.out]; rfl
          | some O' =>
            rw [hcap] at hout
            obtain ⟨v3, rfl, hr3⟩ : ∃ v, e = .returned (.tuple #[v, .int .i64 0]) ∧ RS2 (fun b => K ≤ b ∨ wr.heap.size ≤ b) w3 v O' := hout
            have HR3 : Hid (noC (A.take (i + 1)) [[]] = some O' ∧ RS2 (fun b => K ≤ b) w3 v3 O') := ⟨HS.out.trans hcap, hr3.mono fun b _ hb => hb.elim id (fun h => Nat.le_trans HKr.out h)⟩
            clear hcap hr3
            go_wp2
            go_roundw
            case rel => exact ⟨i + 1, O', by omega, by go_num, HR3.out.1, HR3.out.2, HB3.out.1, HB3.out.2⟩
            case measure => simp [intOf]; omega
    · have hltz : ¬ (i : Int) < (na : Int) := by omega
      have HE : Hid (noC A [[]] = some O) := by
        have h := HJ.out.1
        rw [List.take_of_length_le (by have := HN.out; omega)] at h
        exact h
      go_wp2
      go_ret2
      refine ⟨?_, HJ.out.2.2.1⟩
      rw [HE.out]
      exact ⟨_, rfl, HJ.out.2.1.mono fun b _ hb => Or.inr hb⟩
end Go.Proofs.YtedgbohobgnedaeGreatDoor

namespace Go.Proofs.YtedgbohobgnedaeGreatDoor
open Go.ChangeShapes Go.WideShapes Go.ChangeAt Go.RowKit
set_option maxRecDepth 100000

theorem wrap_small {x : Int} (h0 : -9223372036854775808 ≤ x) (h1 : x ≤ 9223372036854775807) : IntKind.i64.wrap x = x := by
  simp [IntKind.wrap, IntKind.bits, IntKind.signed]; omega
theorem outR_none {S : Nat → Prop} {w : World} {f : Nat} {args : Array Value} {c : Option (List (List Int))} (hc : c = none) (h : ∀ W, Below w.heap.size w W → Calls Tryz.prog f args W fun e w' => OutR S W.heap.size w' e c ∧ Below W.heap.size W w') :
    ∀ W, Below w.heap.size w W → Calls Tryz.prog f args W fun e w' => e = .returned (.tuple #[.slice none 0 0, .int .i64 4]) ∧ Below w.heap.size w w' := fun W hW => by
  subst hc
  refine (h W hW).mono ?_
  rintro e w' ⟨he, hb⟩
  exact ⟨he, hW.trans (hb.mono hW.size)⟩
theorem outR_some {S : Nat → Prop} {w : World} {f : Nat} {args : Array Value} {c : Option (List (List Int))} {L : List (List Int)} (hc : c = some L) (h : ∀ W, Below w.heap.size w W → Calls Tryz.prog f args W fun e w' => OutR S W.heap.size w' e c ∧ Below W.heap.size W w') :
    ∀ W, Below w.heap.size w W → Calls Tryz.prog f args W fun e w' => ∃ oo oc, e = .returned (.tuple #[.slice oo L.length oc, .int .i64 0]) ∧ RS2 (fun b => S b ∨ w.heap.size ≤ b) w' (.slice oo L.length oc) L ∧ Below w.heap.size w w' := fun W hW => by
  subst hc
  refine (h W hW).mono ?_
  rintro e w' ⟨he, hb⟩
  obtain ⟨v, rfl, hr⟩ : ∃ v, e = .returned (.tuple #[v, .int .i64 0]) ∧ RS2 (fun b => S b ∨ W.heap.size ≤ b) w' v L := he
  obtain ⟨oo, oc, rfl, _⟩ := hr.slice
  exact ⟨oo, oc, rfl, hr.mono fun b _ hb => hb.imp id (fun h => Nat.le_trans hW.size h), hW.trans (hb.mono hW.size)⟩

set_option maxHeartbeats 32000000 in
theorem refCubes_good (va vc : Value) (ats : List At) (c : List Int) (w : World) (hA : ReadsA w va ats) (hC : Reads w vc c) (hf : formFault ats c = 0) :
    Calls Tryz.prog 21 #[.agg #[va, vc]] w fun e w' => OutR (fun _ => False) w.heap.size w' e (cubesC c) ∧ Below w.heap.size w w' := by
  obtain ⟨i0, hi, hz0, hz1, hz2⟩ := info_parts infoL
  obtain ⟨⟨_, h6⟩, ⟨hn1, hn20⟩, _, hsg0, hone⟩ := formFault_zero.1 hf
  obtain ⟨ao, acap, rfl, _⟩ := hA.slice
  obtain ⟨co, ccap, rfl, _⟩ := hC.slice
  obtain ⟨w1, hw1⟩ : ∃ w1, w1 = w.alloc (.cells #[.slice ao ats.length acap, .slice co c.length ccap] 25) := ⟨_, rfl⟩
  have HB1 : Hid (Below w.heap.size w w1 ∧ w1.heap.size = w.heap.size + 1) := by unfold Hid; rw [hw1]; exact ⟨below_alloc1 _ _, by simp⟩
  have HX : Hid (∀ W, Below w1.heap.size w1 W → W.cell? ⟨w.heap.size, 0, none⟩ = some (.slice ao ats.length acap) ∧ W.cell? ⟨w.heap.size, 1, none⟩ = some (.slice co c.length ccap)) := fun W hW => by
    have e : ∀ j, W.cell? ⟨w.heap.size, j, none⟩ = w1.cell? ⟨w.heap.size, j, none⟩ := fun j => hW.cell (show (⟨w.heap.size, j, none⟩ : Addr).block < _ by have := HB1.out.2; simp; omega)
    rw [e, e, hw1]; simp
  obtain ⟨K, hKe⟩ : ∃ K, K = w1.heap.size := ⟨_, rfl⟩
  have HKe : Hid (K = w1.heap.size ∧ w.heap.size ≤ K) := ⟨hKe, by have := HB1.out.2; omega⟩
  have HCc : Hid (∀ W, Below K w1 W → ∀ k, k < c.length → ∃ b off, co = some ⟨b, off, none⟩ ∧ W.cell? ⟨b, off + k, none⟩ = some (.int .i64 (c.getD k 0))) := fun W hW k hk => by
    rcases hC with ⟨_, _, hv, e⟩ | ⟨b, off, cap, hv, hB, _, _, hcs⟩
    · rw [e] at hk; simp at hk
    · cases hv
      refine ⟨b, off, rfl, ?_⟩
      rw [hW.cell (show (⟨b, off + k, none⟩ : Addr).block < _ by have := HKe.out.2; simp; omega), HB1.out.1.cell hB]
      exact hcs k hk
  have HSg : Hid (∀ k, k < c.length → takesF (c.getD k 0) ≠ 0 ∨ (0 ≤ c.getD k 0 ∧ c.getD k 0 < ats.length)) := fun k hk => signF_iff.1 (List.all_eq_true.1 hsg0 _ (by rw [List.getD_eq_getElem?_getD, List.getElem?_eq_getElem hk]; exact List.getElem_mem hk))
  have HCn : Hid (∀ k p, k ≤ c.length → pileC (c.take k) [] = some p → cntF (c.take k) 0 = some (p.length : Int)) := fun k p hk hp => by
    obtain ⟨j, hj⟩ := cntF_take_some c k hone
    have := pileC_length (c.take k) [] p hj hp
    rw [this]; exact hj
  have HOne : Hid (cntF c 0 = some 1) := hone
  have HOk : Hid (∀ k p, pileC (c.take k) [] = some p → okP ats.length p) := fun k p hp => (pile_ok [] h6 (c.take k) [] p (by
    rw [List.all_eq_true] at hsg0 ⊢
    exact fun x hx => hsg0 x (List.mem_of_mem_take hx)) (fun L hL => by cases hL) hp).1
  have hm6 : ats.length ≤ 6 := h6
  clear hA hC hf hsg0 hone h6
  obtain ⟨m, hm⟩ : ∃ m, m = ats.length := ⟨_, rfl⟩
  obtain ⟨n, hn⟩ : ∃ n, n = c.length := ⟨_, rfl⟩
  rw [← hm] at HX hw1 HSg HOk hm6 ⊢
  rw [← hn] at HX hw1 HSg HCn HCc hn1 hn20 ⊢
  have HN : Hid (n = c.length) := hn
  clear hm hn
  obtain ⟨x0, x1⟩ := HX.out w1 (Below.refl _ _)
  rw [hw1] at x0 x1
  go_enter Tryz.func21, Tryz.ntmps21
  go_wp2_with fail
  rw [← hw1]
  clear hw1 x0 x1
  have HX1 : Hid (∀ W, Below K w1 W → W.cell? ⟨w.heap.size, 1, none⟩ = some (.slice co n ccap)) := fun W hW => (HX.out W (by rw [← HKe.out.1]; exact hW)).2
  clear hKe HX
  go_loopw [4, 5, 6, 7, 8, 9] (fun v i _ _ _ _ wr => ∃ (k : Nat) (p : List (List (List Int))), k ≤ n ∧ i = .int .i64 k ∧ pileC (c.take k) [] = some p ∧ Own3 K wr v p ∧ Below K w1 wr ∧ K ≤ wr.heap.size) (fun _ i _ _ _ _ _ => n - (intOf i).toNat)
  case atStart => exact ⟨0, [], Nat.zero_le _, rfl, rfl, Own3.nil _ _, Below.refl _ _, by rw [HKe.out.1]; exact Nat.le_refl _⟩
  case round =>
    obtain ⟨k, p, hk, rfl, hp, hown0, hbel, hKw⟩ := hrel
    have HI : Hid (pileC (c.take k) [] = some p ∧ Own3 K wr u4 p ∧ Below K w1 wr ∧ K ≤ wr.heap.size) := ⟨hp, hown0, hbel, hKw⟩
    have hcn := HCn.out k p hk hp
    have HPo : Hid (okP m p) := HOk.out k p hp
    have x1 := HX1.out wr hbel
    by_cases hlt : k < n
    · have hkc : k < c.length := by rw [← HN.out]; exact hlt
      obtain ⟨b, off, rfl, hcell⟩ := HCc.out wr hbel k hlt
      have hsg := HSg.out k hlt
      have htk : takesF (c.getD k 0) ≤ p.length := by
        have h1 := cntF_take_succ c hkc hcn
        obtain ⟨j, hj⟩ := cntF_take_some c (k + 1) HOne.out
        by_cases h2 : (p.length : Int) < takesF (c.getD k 0)
        · rw [if_pos h2] at h1; rw [h1] at hj; cases hj
        · omega
      have HS : Hid (pileC (c.take (k + 1)) [] = stepC p (c.getD k 0)) := by
        unfold Hid
        rw [pileC_succ c [] hkc, hp]; rfl
      have hpl : p.length ≤ 20 := by
        have := (cntF_nonneg (Int.le_refl 0) hcn).2
        simp at this; omega
      have hltz : (k : Int) < (n : Int) := by omega
      have HKC : Hid (k < c.length) := hkc
      obtain ⟨s, hs⟩ : ∃ s, s = c.getD k 0 := ⟨_, rfl⟩
      rw [← hs] at hcell hsg htk HS
      clear hs hkc hcn hp hbel hKw
      obtain ⟨xs, hrow, hxs⟩ := hown0
      have hxl : xs.length = p.length := by have := hrow.1; simpa using this
      have HXS : Hid (∀ (k : Nat) L, p[k]? = some L → ∃ u, xs[k]? = some u ∧ RS2 (fun b => K ≤ b ∧ some b ≠ u4.ownBlock) wr u L) := hxs
      have HXL : Hid (xs.length = p.length) := hxl
      clear hxs hxl
      by_cases h4 : takesF s = 0
      · have hsr : 0 ≤ s ∧ s < m := hsg.resolve_left (by simp [h4])
        obtain ⟨L, hL⟩ : ∃ L : List (List Int), L = [[s + 1]] := ⟨_, rfl⟩
        have HSt : Hid (pileC (c.take (k + 1)) [] = some (p ++ [L])) := by unfold Hid; rw [HS.out, stepC_leaf p h4, hL]
        obtain ⟨vo, vcap, hvf⟩ : ∃ vo vcap, u4 = .slice vo p.length vcap := by
          rcases hrow.2 with ⟨rfl, h0⟩ | ⟨g, cap, cur, rfl, _⟩
          · exact ⟨none, 0, by rw [h0]⟩
          · exact ⟨_, cap, rfl⟩
        obtain ⟨q, hq⟩ : ∃ q, q = p.length := ⟨_, rfl⟩
        have HLr : Hid (q = p.length) := hq
        rw [← hq] at hrow hpl hvf
        subst hvf
        have HRW : Hid (wr.ownsRow K 57 1 (.slice vo q vcap) q xs) := hrow
        have HXR : Hid (∀ (j : Nat) t, p[j]? = some t → ∃ u, xs[j]? = some u ∧ RS2 (fun b => K ≤ b ∧ some b ≠ (Value.slice vo q vcap).ownBlock) wr u t) := HXS.out
        have HXr : Hid (xs.length = p.length) := HXL.out
        obtain ⟨w2, hw2⟩ : ∃ w2, w2 = wr.alloc (.cells #[.int .i64 (s + 1)] 3) := ⟨_, rfl⟩
        obtain ⟨w3, hw3⟩ : ∃ w3, w3 = w2.alloc (.cells #[.slice (some ⟨wr.heap.size, 0, none⟩) 1 1] 23) := ⟨_, rfl⟩
        have hs2 : w2.heap.size = wr.heap.size + 1 := by rw [hw2]; simp
        have hs3 : w3.heap.size = wr.heap.size + 2 := by rw [hw3]; simp [hs2]
        have hb3 : Below wr.heap.size wr w3 := by
          rw [hw3]
          exact (by rw [hw2]; exact below_alloc1 _ _ : Below wr.heap.size wr w2).trans ((below_alloc1 _ _).mono (by omega))
        have HB3 : Hid (Below wr.heap.size wr w3 ∧ Below K w1 w3 ∧ K ≤ w3.heap.size) := ⟨hb3, HI.out.2.2.1.trans (hb3.mono HI.out.2.2.2), by have := hb3.size; have := HI.out.2.2.2; omega⟩
        have hnew : ∀ b, wr.heap.size ≤ b → K ≤ b ∧ some b ≠ (Value.slice vo q vcap).ownBlock := fun b hb => ⟨Nat.le_trans HI.out.2.2.2 hb, fun e => by have := (HRW.out.lt b e.symm).2; omega⟩
        have HR3 : Hid (RS2 (fun b => K ≤ b ∧ some b ≠ (Value.slice vo q vcap).ownBlock) w3 (.slice (some ⟨wr.heap.size + 1, 0, none⟩) 1 1) L) := by
          unfold Hid
          rw [hL]
          refine Or.inr ⟨wr.heap.size + 1, 0, 1, rfl, ⟨hnew _ (by omega), by omega⟩, by simp, ⟨by simp, by simp⟩, fun j t hj => ?_⟩
          have hj0 : j = 0 := by have := (List.getElem?_eq_some_iff.1 hj).1; simpa using this
          subst hj0
          simp at hj; subst hj
          refine ⟨.slice (some ⟨wr.heap.size, 0, none⟩) 1 1, by rw [hw3, ← hs2]; simp, Or.inr ⟨wr.heap.size, 0, 1, rfl, ⟨hnew _ (Nat.le_refl _), by omega⟩, by simp, ⟨by simp, by simp⟩, fun j hj => ?_⟩⟩
          have hj0 : j = 0 := by simpa using hj
          subst hj0
          rw [hw3, World.cell?_alloc_lt _ _ ⟨wr.heap.size, 0 + 0, none⟩ (by simp; omega), hw2]
          simp
        have s10 : s < 10 := by omega
        have sl1 : -9223372036854775808 ≤ s + 1 := by omega
        have sl2 : s + 1 ≤ 9223372036854775807 := by omega
        clear hL htk hsg h4 HS hrow hq hb3 hnew
        obtain ⟨w4, hw4⟩ : ∃ w4, w4 = w3.alloc (.cells #[.slice (some ⟨wr.heap.size + 1, 0, none⟩) 1 1] 57) := ⟨_, rfl⟩
        have HB4 : Hid (Below wr.heap.size wr w4 ∧ Below K w1 w4 ∧ (w4.heap.size = w3.heap.size + 1 ∧ K ≤ w4.heap.size)) := by
          have b : Below w3.heap.size w3 w4 := by rw [hw4]; exact below_alloc1 _ _
          exact ⟨HB3.out.1.trans (b.mono HB3.out.1.size), HB3.out.2.1.trans (b.mono HB3.out.2.2), by rw [hw4]; simp, by have := b.size; have := HB3.out.2.2; omega⟩
        have HR4 : Hid (RS2 (fun b => K ≤ b ∧ some b ≠ (Value.slice vo q vcap).ownBlock) w4 (.slice (some ⟨wr.heap.size + 1, 0, none⟩) 1 1) L) := HR3.out.kept (Kept.of_below (by rw [hw4]; exact below_alloc1 _ _))
        have HRW4 : Hid (w4.ownsRow K 57 1 (Value.slice vo q vcap) q (xs)) := ownsRow_same HRW.out HB4.out.1.block
        have HX4 : Hid (∀ (j : Nat) t, (p)[j]? = some t → ∃ u, (xs)[j]? = some u ∧ RS2 (fun b => K ≤ b ∧ some b ≠ (Value.slice vo q vcap).ownBlock) w4 u t) := fun j t hj => by
          obtain ⟨u, hu, hr⟩ := HXR.out j t hj
          exact ⟨u, hu, hr.kept (Kept.of_below HB4.out.1)⟩
        have hca : w4.cell? ((⟨w3.heap.size, 0, none⟩ : Addr).add 0) = some (.slice (some ⟨wr.heap.size + 1, 0, none⟩) 1 1) := by rw [hw4]; simp [Addr.add]
        have HCa : Hid (∀ j u, ([Value.slice (some ⟨wr.heap.size + 1, 0, none⟩) 1 1] : List Value)[j]? = some u → w4.cell? ((⟨wr.heap.size + 2, 0, none⟩ : Addr).add j) = some u) := fun j u hu => by
          match j, hu with
          | 0, hu => simp at hu; subst hu; rw [← hs3]; exact hca
        have HW4 : Hid (((wr.alloc (.cells #[.int .i64 (s + 1)] 3)).alloc (.cells #[.slice (some ⟨wr.heap.size, 0, none⟩) 1 1] 23)).alloc (.cells #[.slice (some ⟨wr.heap.size + 1, 0, none⟩) 1 1] 57) = w4) := by
          unfold Hid; rw [hw4, hw3, hw2]
        clear hca
        go_wp2_with (first | (at_builtin; rw [HW4.out]; refine wpList_append_lies _ rfl (.tmp 26) (.tmp 31) 87 rfl K 57 i0 (.slice none 0 0) 1 24 Tryz.underlying87 hi hz0 hz1 hz2 rfl (by decide) (Value.slice vo q vcap) q (xs) rfl HRW4.out ⟨wr.heap.size + 2, 0, none⟩ 1 1 [.slice (some ⟨wr.heap.size + 1, 0, none⟩) 1 1] rfl rfl HCa.out (by intro y hy; simp at hy; subst hy; rfl) (by decide) ?d3 ?d4 HB4.out.2.2.2 w4.heap.size rfl ?_))
        case d3 => unfold maxLen; omega
        case d4 => omega
        intro g5 cap5 w5 hown5 hgrow5 hat5 hlt5
        have HG5 : Hid (w4.grownBy w5 (Value.slice vo q vcap).ownBlock) := by first | exact hgrow5 | (rw [← HW4.out]; exact hgrow5)
        have HA5 : Hid ((Value.slice vo q vcap).ownBlock = some g5 ∨ g5 = w4.heap.size) := by first | exact hat5 | exact hat5.imp id (fun h => by have := HB4.out.2.2.1; omega)
        have HN5 : Hid (pileC (c.take (k + 1)) [] = some (p ++ [L]) ∧ Own3 K w5 (.slice (some ⟨g5, 0, none⟩) (q + 1) cap5) (p ++ [L]) ∧ Below K w1 w5 ∧ K ≤ w5.heap.size) := by
          refine ⟨HSt.out, ?_, HB4.out.2.1.grown HG5.out HB4.out.2.2.2 (fun j hj => (HRW4.out.lt j hj).1), by have := HG5.out.size; have := HB4.out.2.2.2; omega⟩
          have e := HLr.out
          have h := Own3.push (P := p) (L := L) (g := g5) (cap := cap5) HXr.out HX4.out HR4.out (by rw [← e]; simpa using hown5) HG5.out HA5.out
          rw [← e] at h
          exact h
        clear hown5 hgrow5 hat5 hlt5 hw4
        go_wp2
        go_roundw
        case rel => exact ⟨k + 1, _, by omega, by go_num, HN5.out.1, HN5.out.2.1, HN5.out.2.2.1, HN5.out.2.2.2⟩
        case measure => simp [intOf]; omega
      by_cases h8 : s = 12
      · subst h8
        rw [show takesF 12 = 1 from rfl] at htk
        rcases hrow.2 with ⟨rfl, hp0⟩ | ⟨g, cap', cur, rfl, hg, hh, hmc, hmax, _, _⟩
        · omega
        · obtain ⟨r, hr⟩ : ∃ r, p.length = r + 1 := ⟨p.length - 1, by omega⟩
          have hgl : g < wr.heap.size := (Array.getElem?_eq_some_iff.1 hh).1
          have cell : ∀ j, j < p.length → ∃ o l cp, wr.cell? ⟨g, j, none⟩ = some (.slice o l cp) ∧ GoodC (fun b => K ≤ b ∧ some b ≠ some g) m wr (.slice o l cp) (p.getD j []) := fun j hj => by
            obtain ⟨u, hu, hr⟩ := HXS.out j _ (List.getElem?_eq_getElem hj)
            have hm := HPo.out _ (List.getElem_mem hj)
            obtain ⟨o, cp, rfl, _⟩ := hr.slice
            refine ⟨o, _, cp, by rw [hrow.cellAt j (by omega)]; exact hu, ?_⟩
            rw [List.getD_eq_getElem?_getD, List.getElem?_eq_getElem hj]
            exact ⟨hr, hm⟩
          obtain ⟨o0, l0, q0, hc0, hg0⟩ := cell r (by omega)
          have HXR : Hid (∀ (j : Nat) t, (p.take r)[j]? = some t → ∃ u, (xs.take r)[j]? = some u ∧ RS2 (fun b => K ≤ b ∧ some b ≠ (Value.slice (some ⟨g, 0, none⟩) r cap').ownBlock) wr u t) := take_get HXS.out r
          have HXr : Hid ((xs.take r).length = (p.take r).length) := by have := HXL.out; unfold Hid; simp; omega
          have HLr : Hid (r = (p.take r).length) := by unfold Hid; simp; omega
          have HRW : Hid (wr.ownsRow K 57 1 (.slice (some ⟨g, 0, none⟩) r cap') r (xs.take r)) := ownsRow_take hrow (by omega)
          have HSr : Hid (pileC (c.take (k + 1)) [] = (madeC 12 [p.getD r []]).map (fun x => p.take r ++ [x])) := by unfold Hid; rw [HS.out, stepC_one p hr]
          have HNn : Hid (madeC 12 [p.getD r []] = none → cubesC c = none) := fun hmd => by
            have h := HSr.out
            rw [hmd] at h
            unfold cubesC
            rw [pileC_none c [] (k + 1) h]; rfl
          have hcap : ¬ cap' = 0 := by omega
          have hcap2 : r < cap' := by omega
          have hcap3 : (r : Int) ≤ (cap' : Int) := by omega
          have hr0 : (0 : Int) ≤ (r : Int) := by omega
          have hr1 : (r : Int) + 2 - 1 = (r : Int) + 1 := by omega
          have hr2 : ((r : Int) + 1).toNat = r + 1 := by omega
          have hr3 : (r : Int) < (r : Int) + 2 := by omega
          have hr4 : (r : Int) + 1 < (r : Int) + 2 := by omega
          have hr5 : (0 : Int) ≤ (r : Int) + 1 := by omega
          have hr6 : r < r + 2 := by omega
          have hwr : IntKind.i64.wrap (r : Int) = (r : Int) := wrap_small (by omega) (by omega)
          have hwr1 : IntKind.i64.wrap ((r : Int) + 1) = (r : Int) + 1 := wrap_small (by omega) (by omega)
          have hr7 : r + 1 < r + 2 := by omega
          have hle : (r : Int) ≤ (r : Int) + 1 := by omega
          obtain ⟨q, hq⟩ : ∃ q, q = p.length := ⟨_, rfl⟩
          rw [← hq] at hmc hpl ⊢
          have hqr : q = r + 1 := by rw [hq]; exact hr
          subst hqr
          obtain ⟨L0, hL0⟩ : ∃ L0, L0 = p.getD r [] := ⟨_, rfl⟩
          rw [← hL0] at hg0 HSr HNn
          clear hrow hh hq hr htk hsg HS h4 hL0 cell
          have HM0 : ∀ W, Below wr.heap.size wr W → Calls Tryz.prog 44 #[.slice o0 l0 q0] W fun e w' => OutR (fun b => K ≤ b ∧ some b ≠ some g) W.heap.size w' e (noC L0 [[]]) ∧ Below W.heap.size W w' := fun W hW => refNo_any (fun b => K ≤ b ∧ some b ≠ some g) _ L0 m hm6 W (hg0.below hW).2.1.1 (hg0.below hW).1
          cases hmd : noC L0 [[]] with
          | none =>
            have HM : Hid (∀ W, Below wr.heap.size wr W → Calls Tryz.prog 44 #[.slice o0 l0 q0] W fun e w' => e = .returned (.tuple #[.slice none 0 0, .int .i64 4]) ∧ Below wr.heap.size wr w') := outR_none hmd HM0
            have HNo : Hid (cubesC c = none) := HNn.out hmd
            clear hmd HM0
            go_wp2_with fail
            go_at_call 44
            refine (HM.out wr (Below.refl _ _)).mono ?_
            rintro e w3 ⟨rfl, hb3⟩
            have HB3 : Hid (Below w.heap.size w w3) := HB1.out.1.trans ((HI.out.2.2.1.trans (hb3.mono HI.out.2.2.2)).mono HKe.out.2)
            clear hb3
            go_wp2
            go_ret2
            refine ⟨?_, HB3.out⟩
            rw [HNo.out]; rfl
          | some L =>
            have HM : Hid (∀ W, Below wr.heap.size wr W → Calls Tryz.prog 44 #[.slice o0 l0 q0] W fun e w' => ∃ oo oc, e = .returned (.tuple #[.slice oo L.length oc, .int .i64 0]) ∧ RS2 (fun b => (fun b => K ≤ b ∧ some b ≠ some g) b ∨ wr.heap.size ≤ b) w' (.slice oo L.length oc) L ∧ Below wr.heap.size wr w') := outR_some hmd HM0
            have HSt : Hid (pileC (c.take (k + 1)) [] = some (p.take r ++ [L])) := by
              have h := HSr.out
              rw [show madeC 12 [L0] = some L from hmd] at h
              exact h
            obtain ⟨ol, hol⟩ : ∃ ol, ol = L.length := ⟨_, rfl⟩
            rw [← hol] at HM
            clear hmd HM0 hol
            go_wp2_with fail
            go_at_call 44
            refine (HM.out wr (Below.refl _ _)).mono ?_
            rintro e w3 ⟨oo, oc, rfl, hr3, hb3⟩
            have HB3 : Hid (Below wr.heap.size wr w3 ∧ Below K w1 w3 ∧ K ≤ w3.heap.size) := ⟨hb3, HI.out.2.2.1.trans (hb3.mono HI.out.2.2.2), by have := hb3.size; have := HI.out.2.2.2; omega⟩
            have HR3 : Hid (RS2 (fun b => K ≤ b ∧ some b ≠ (Value.slice (some ⟨g, 0, none⟩) r cap').ownBlock) w3 (.slice oo ol oc) L) := hr3.mono fun b _ hb => by
              rcases hb with hb | hb
              · exact hb
              · refine ⟨Nat.le_trans HI.out.2.2.2 hb, fun e => ?_⟩
                have := (HRW.out.lt b e.symm).2
                omega
            clear hr3 hb3
            obtain ⟨w4, hw4⟩ : ∃ w4, w4 = w3.alloc (.cells #[.slice oo ol oc] 57) := ⟨_, rfl⟩
            have HB4 : Hid (Below wr.heap.size wr w4 ∧ Below K w1 w4 ∧ (w4.heap.size = w3.heap.size + 1 ∧ K ≤ w4.heap.size)) := by
              have b : Below w3.heap.size w3 w4 := by rw [hw4]; exact below_alloc1 _ _
              exact ⟨HB3.out.1.trans (b.mono HB3.out.1.size), HB3.out.2.1.trans (b.mono HB3.out.2.2), by rw [hw4]; simp, by have := b.size; have := HB3.out.2.2; omega⟩
            have HR4 : Hid (RS2 (fun b => K ≤ b ∧ some b ≠ (Value.slice (some ⟨g, 0, none⟩) r cap').ownBlock) w4 (.slice oo ol oc) L) := HR3.out.kept (Kept.of_below (by rw [hw4]; exact below_alloc1 _ _))
            have HRW4 : Hid (w4.ownsRow K 57 1 (Value.slice (some ⟨g, 0, none⟩) r cap') r (xs.take r)) := ownsRow_same HRW.out HB4.out.1.block
            have HX4 : Hid (∀ (j : Nat) t, (p.take r)[j]? = some t → ∃ u, (xs.take r)[j]? = some u ∧ RS2 (fun b => K ≤ b ∧ some b ≠ (Value.slice (some ⟨g, 0, none⟩) r cap').ownBlock) w4 u t) := fun j t hj => by
              obtain ⟨u, hu, hr⟩ := HXR.out j t hj
              exact ⟨u, hu, hr.kept (Kept.of_below HB4.out.1)⟩
            have hca : w4.cell? ((⟨w3.heap.size, 0, none⟩ : Addr).add 0) = some (.slice oo ol oc) := by rw [hw4]; simp [Addr.add]
            have HCa : Hid (∀ j u, ([Value.slice oo ol oc] : List Value)[j]? = some u → w4.cell? ((⟨w3.heap.size, 0, none⟩ : Addr).add j) = some u) := fun j u hu => by
              match j, hu with
              | 0, hu => simp at hu; subst hu; exact hca
            have HW4 : Hid (w3.alloc (.cells #[.slice oo ol oc] 57) = w4) := hw4.symm
            clear hca
            go_wp2_with (first | (at_builtin; rw [HW4.out]; refine wpList_append_lies _ rfl (.tmp 117) (.tmp 119) 87 rfl K 57 i0 (.slice none 0 0) 1 24 Tryz.underlying87 hi hz0 hz1 hz2 rfl (by decide) (Value.slice (some ⟨g, 0, none⟩) r cap') r (xs.take r) rfl HRW4.out ⟨w3.heap.size, 0, none⟩ 1 1 [.slice oo ol oc] rfl rfl HCa.out (by intro y hy; simp at hy; subst hy; rfl) (by decide) ?d3 ?d4 HB4.out.2.2.2 w4.heap.size rfl ?_))
            case d3 => unfold maxLen; omega
            case d4 => omega
            intro g5 cap5 w5 hown5 hgrow5 hat5 hlt5
            have HG5 : Hid (w4.grownBy w5 (Value.slice (some ⟨g, 0, none⟩) r cap').ownBlock) := by first | exact hgrow5 | (rw [← HW4.out]; exact hgrow5)
            have HA5 : Hid ((Value.slice (some ⟨g, 0, none⟩) r cap').ownBlock = some g5 ∨ g5 = w4.heap.size) := by first | exact hat5 | exact hat5.imp id (fun h => by have := HB4.out.2.2.1; omega)
            have HN5 : Hid (pileC (c.take (k + 1)) [] = some (p.take r ++ [L]) ∧ Own3 K w5 (.slice (some ⟨g5, 0, none⟩) (r + 1) cap5) (p.take r ++ [L]) ∧ Below K w1 w5 ∧ K ≤ w5.heap.size) := by
              refine ⟨HSt.out, ?_, HB4.out.2.1.grown HG5.out HB4.out.2.2.2 (fun j hj => (HRW4.out.lt j hj).1), by have := HG5.out.size; have := HB4.out.2.2.2; omega⟩
              have e := HLr.out
              have h := Own3.push (P := p.take r) (L := L) (g := g5) (cap := cap5) HXr.out HX4.out HR4.out (by rw [← e]; simpa using hown5) HG5.out HA5.out
              rw [← e] at h
              exact h
            clear hown5 hgrow5 hat5 hlt5 hw4
            go_wp2
            go_roundw
            case rel => exact ⟨k + 1, _, by omega, by go_num, HN5.out.1, HN5.out.2.1, HN5.out.2.2.1, HN5.out.2.2.2⟩
            case measure => simp [intOf]; omega
      · have hs3 : s = 10 ∨ s = 11 ∨ s = 13 := by
          by_cases h3 : s = 10 ∨ s = 11 ∨ s = 13
          · exact h3
          · exact absurd (show takesF s = 0 by unfold takesF; rw [if_neg h3, if_neg h8]) h4
        by_cases h10 : s = 10
        · subst h10
          rw [show takesF 10 = 2 from rfl] at htk
          rcases hrow.2 with ⟨rfl, hp0⟩ | ⟨g, cap', cur, rfl, hg, hh, hmc, hmax, _, _⟩
          · omega
          · obtain ⟨r, hr⟩ : ∃ r, p.length = r + 2 := ⟨p.length - 2, by omega⟩
            have hgl : g < wr.heap.size := (Array.getElem?_eq_some_iff.1 hh).1
            have cell : ∀ j, j < p.length → ∃ o l cp, wr.cell? ⟨g, j, none⟩ = some (.slice o l cp) ∧ GoodC (fun b => K ≤ b ∧ some b ≠ some g) m wr (.slice o l cp) (p.getD j []) := fun j hj => by
              obtain ⟨u, hu, hr⟩ := HXS.out j _ (List.getElem?_eq_getElem hj)
              have hm := HPo.out _ (List.getElem_mem hj)
              obtain ⟨o, cp, rfl, _⟩ := hr.slice
              refine ⟨o, _, cp, by rw [hrow.cellAt j (by omega)]; exact hu, ?_⟩
              rw [List.getD_eq_getElem?_getD, List.getElem?_eq_getElem hj]
              exact ⟨hr, hm⟩
            obtain ⟨o0, l0, q0, hc0, hg0⟩ := cell r (by omega)
            obtain ⟨o1, l1, q1, hc1, hg1⟩ := cell (r + 1) (by omega)
            have HXR : Hid (∀ (j : Nat) t, (p.take r)[j]? = some t → ∃ u, (xs.take r)[j]? = some u ∧ RS2 (fun b => K ≤ b ∧ some b ≠ (Value.slice (some ⟨g, 0, none⟩) r cap').ownBlock) wr u t) := take_get HXS.out r
            have HXr : Hid ((xs.take r).length = (p.take r).length) := by have := HXL.out; unfold Hid; simp; omega
            have HLr : Hid (r = (p.take r).length) := by unfold Hid; simp; omega
            have HRW : Hid (wr.ownsRow K 57 1 (.slice (some ⟨g, 0, none⟩) r cap') r (xs.take r)) := ownsRow_take hrow (by omega)
            have HSr : Hid (pileC (c.take (k + 1)) [] = (madeC 10 [p.getD r [], p.getD (r + 1) []]).map (fun x => p.take r ++ [x])) := by unfold Hid; rw [HS.out, stepC_two p rfl hr]
            have HNn : Hid (madeC 10 [p.getD r [], p.getD (r + 1) []] = none → cubesC c = none) := fun hmd => by
              have h := HSr.out
              rw [hmd] at h
              unfold cubesC
              rw [pileC_none c [] (k + 1) h]; rfl
            have hcap : ¬ cap' = 0 := by omega
            have hcap2 : r < cap' := by omega
            have hcap3 : (r : Int) ≤ (cap' : Int) := by omega
            have hr0 : (0 : Int) ≤ (r : Int) := by omega
            have hr1 : (r : Int) + 2 - 1 = (r : Int) + 1 := by omega
            have hr2 : ((r : Int) + 1).toNat = r + 1 := by omega
            have hr3 : (r : Int) < (r : Int) + 2 := by omega
            have hr4 : (r : Int) + 1 < (r : Int) + 2 := by omega
            have hr5 : (0 : Int) ≤ (r : Int) + 1 := by omega
            have hr6 : r < r + 2 := by omega
            have hwr : IntKind.i64.wrap (r : Int) = (r : Int) := wrap_small (by omega) (by omega)
            have hwr1 : IntKind.i64.wrap ((r : Int) + 1) = (r : Int) + 1 := wrap_small (by omega) (by omega)
            have hr7 : r + 1 < r + 2 := by omega
            have hle : (r : Int) ≤ (r : Int) + 2 := by omega
            obtain ⟨q, hq⟩ : ∃ q, q = p.length := ⟨_, rfl⟩
            rw [← hq] at hmc hpl ⊢
            have hqr : q = r + 2 := by rw [hq]; exact hr
            subst hqr
            obtain ⟨L0, hL0⟩ : ∃ L0, L0 = p.getD r [] := ⟨_, rfl⟩
            rw [← hL0] at hg0 HSr HNn
            obtain ⟨L1, hL1⟩ : ∃ L1, L1 = p.getD (r + 1) [] := ⟨_, rfl⟩
            rw [← hL1] at hg1 HSr HNn
            clear hL1
            clear hrow hh hq hr htk hsg HS h4 hL0 cell
            have HM0 : ∀ W, Below wr.heap.size wr W → Calls Tryz.prog 45 #[.slice o0 l0 q0, .slice o1 l1 q1] W fun e w' => OutR (fun b => K ≤ b ∧ some b ≠ some g) W.heap.size w' e (capC (andC L0 L1)) ∧ Below W.heap.size W w' := fun W hW => refAnd_any (fun b => K ≤ b ∧ some b ≠ some g) _ _ L0 L1 m hm6 W (hg0.below hW).2.1.1 (hg1.below hW).2.1.1 (hg0.below hW).2.2 (hg1.below hW).2.2 (hg0.below hW).1 (hg1.below hW).1
            cases hmd : capC (andC L0 L1) with
            | none =>
              have HM : Hid (∀ W, Below wr.heap.size wr W → Calls Tryz.prog 45 #[.slice o0 l0 q0, .slice o1 l1 q1] W fun e w' => e = .returned (.tuple #[.slice none 0 0, .int .i64 4]) ∧ Below wr.heap.size wr w') := outR_none hmd HM0
              have HNo : Hid (cubesC c = none) := HNn.out hmd
              clear hmd HM0
              go_wp2_with fail
              go_cut [8, 9] from 76 to 89 (fun x e wx => x = .slice none 0 0 ∧ e = .int .i64 4 ∧ Below wr.heap.size wr wx)
              case first =>
                go_region_with (go_at_call 45; refine (HM.out _ (by first | exact Below.refl _ _ | exact below_drewNs _ _)).mono ?_; rintro e w3 ⟨rfl, hb3⟩)
                all_goals (try go_wp2_with fail)
                all_goals go_meet
                all_goals exact ⟨rfl, rfl, hb3⟩
              case rest =>
                obtain ⟨rfl, rfl, hb3⟩ := hcut
                obtain ⟨w3, hw3⟩ : ∃ w3, w3 = wc := ⟨_, rfl⟩
                subst hw3
                have HB3 : Hid (Below w.heap.size w w3) := HB1.out.1.trans ((HI.out.2.2.1.trans (hb3.mono HI.out.2.2.2)).mono HKe.out.2)
                clear hb3
                go_wp2
                go_ret2
                refine ⟨?_, HB3.out⟩
                rw [HNo.out]; rfl
            | some L =>
              have HM : Hid (∀ W, Below wr.heap.size wr W → Calls Tryz.prog 45 #[.slice o0 l0 q0, .slice o1 l1 q1] W fun e w' => ∃ oo oc, e = .returned (.tuple #[.slice oo L.length oc, .int .i64 0]) ∧ RS2 (fun b => (fun b => K ≤ b ∧ some b ≠ some g) b ∨ wr.heap.size ≤ b) w' (.slice oo L.length oc) L ∧ Below wr.heap.size wr w') := outR_some hmd HM0
              have HSt : Hid (pileC (c.take (k + 1)) [] = some (p.take r ++ [L])) := by
                have h := HSr.out
                rw [show madeC 10 [L0, L1] = some L from hmd] at h
                exact h
              obtain ⟨ol, hol⟩ : ∃ ol, ol = L.length := ⟨_, rfl⟩
              rw [← hol] at HM
              clear hmd HM0 hol
              go_wp2_with fail
              go_cut [8, 9] from 76 to 89 (fun x e wx => ∃ oo oc, x = .slice oo ol oc ∧ e = .int .i64 0 ∧ RS2 (fun b => (fun b => K ≤ b ∧ some b ≠ some g) b ∨ wr.heap.size ≤ b) wx (.slice oo ol oc) L ∧ Below wr.heap.size wr wx)
              case first =>
                go_region_with (go_at_call 45; refine (HM.out _ (by first | exact Below.refl _ _ | exact below_drewNs _ _)).mono ?_; rintro e w3 ⟨oo, oc, rfl, hr3, hb3⟩)
                all_goals (try go_wp2_with fail)
                all_goals go_meet
                all_goals exact ⟨oo, oc, rfl, rfl, hr3, hb3⟩
              case rest =>
                obtain ⟨oo, oc, rfl, rfl, hr3, hb3⟩ := hcut
                obtain ⟨w3, hw3⟩ : ∃ w3, w3 = wc := ⟨_, rfl⟩
                subst hw3
                have HB3 : Hid (Below wr.heap.size wr w3 ∧ Below K w1 w3 ∧ K ≤ w3.heap.size) := ⟨hb3, HI.out.2.2.1.trans (hb3.mono HI.out.2.2.2), by have := hb3.size; have := HI.out.2.2.2; omega⟩
                have HR3 : Hid (RS2 (fun b => K ≤ b ∧ some b ≠ (Value.slice (some ⟨g, 0, none⟩) r cap').ownBlock) w3 (.slice oo ol oc) L) := hr3.mono fun b _ hb => by
                  rcases hb with hb | hb
                  · exact hb
                  · refine ⟨Nat.le_trans HI.out.2.2.2 hb, fun e => ?_⟩
                    have := (HRW.out.lt b e.symm).2
                    omega
                clear hr3 hb3
                obtain ⟨w4, hw4⟩ : ∃ w4, w4 = w3.alloc (.cells #[.slice oo ol oc] 57) := ⟨_, rfl⟩
                have HB4 : Hid (Below wr.heap.size wr w4 ∧ Below K w1 w4 ∧ (w4.heap.size = w3.heap.size + 1 ∧ K ≤ w4.heap.size)) := by
                  have b : Below w3.heap.size w3 w4 := by rw [hw4]; exact below_alloc1 _ _
                  exact ⟨HB3.out.1.trans (b.mono HB3.out.1.size), HB3.out.2.1.trans (b.mono HB3.out.2.2), by rw [hw4]; simp, by have := b.size; have := HB3.out.2.2; omega⟩
                have HR4 : Hid (RS2 (fun b => K ≤ b ∧ some b ≠ (Value.slice (some ⟨g, 0, none⟩) r cap').ownBlock) w4 (.slice oo ol oc) L) := HR3.out.kept (Kept.of_below (by rw [hw4]; exact below_alloc1 _ _))
                have HRW4 : Hid (w4.ownsRow K 57 1 (Value.slice (some ⟨g, 0, none⟩) r cap') r (xs.take r)) := ownsRow_same HRW.out HB4.out.1.block
                have HX4 : Hid (∀ (j : Nat) t, (p.take r)[j]? = some t → ∃ u, (xs.take r)[j]? = some u ∧ RS2 (fun b => K ≤ b ∧ some b ≠ (Value.slice (some ⟨g, 0, none⟩) r cap').ownBlock) w4 u t) := fun j t hj => by
                  obtain ⟨u, hu, hr⟩ := HXR.out j t hj
                  exact ⟨u, hu, hr.kept (Kept.of_below HB4.out.1)⟩
                have hca : w4.cell? ((⟨w3.heap.size, 0, none⟩ : Addr).add 0) = some (.slice oo ol oc) := by rw [hw4]; simp [Addr.add]
                have HCa : Hid (∀ j u, ([Value.slice oo ol oc] : List Value)[j]? = some u → w4.cell? ((⟨w3.heap.size, 0, none⟩ : Addr).add j) = some u) := fun j u hu => by
                  match j, hu with
                  | 0, hu => simp at hu; subst hu; exact hca
                have HW4 : Hid (w3.alloc (.cells #[.slice oo ol oc] 57) = w4) := hw4.symm
                clear hca
                go_wp2_with (first | (at_builtin; rw [HW4.out]; refine wpList_append_lies _ rfl (.tmp 117) (.tmp 119) 87 rfl K 57 i0 (.slice none 0 0) 1 24 Tryz.underlying87 hi hz0 hz1 hz2 rfl (by decide) (Value.slice (some ⟨g, 0, none⟩) r cap') r (xs.take r) rfl HRW4.out ⟨w3.heap.size, 0, none⟩ 1 1 [.slice oo ol oc] rfl rfl HCa.out (by intro y hy; simp at hy; subst hy; rfl) (by decide) ?d3 ?d4 HB4.out.2.2.2 w4.heap.size rfl ?_))
                case d3 => unfold maxLen; omega
                case d4 => omega
                intro g5 cap5 w5 hown5 hgrow5 hat5 hlt5
                have HG5 : Hid (w4.grownBy w5 (Value.slice (some ⟨g, 0, none⟩) r cap').ownBlock) := by first | exact hgrow5 | (rw [← HW4.out]; exact hgrow5)
                have HA5 : Hid ((Value.slice (some ⟨g, 0, none⟩) r cap').ownBlock = some g5 ∨ g5 = w4.heap.size) := by first | exact hat5 | exact hat5.imp id (fun h => by have := HB4.out.2.2.1; omega)
                have HN5 : Hid (pileC (c.take (k + 1)) [] = some (p.take r ++ [L]) ∧ Own3 K w5 (.slice (some ⟨g5, 0, none⟩) (r + 1) cap5) (p.take r ++ [L]) ∧ Below K w1 w5 ∧ K ≤ w5.heap.size) := by
                  refine ⟨HSt.out, ?_, HB4.out.2.1.grown HG5.out HB4.out.2.2.2 (fun j hj => (HRW4.out.lt j hj).1), by have := HG5.out.size; have := HB4.out.2.2.2; omega⟩
                  have e := HLr.out
                  have h := Own3.push (P := p.take r) (L := L) (g := g5) (cap := cap5) HXr.out HX4.out HR4.out (by rw [← e]; simpa using hown5) HG5.out HA5.out
                  rw [← e] at h
                  exact h
                clear hown5 hgrow5 hat5 hlt5 hw4
                go_wp2
                go_roundw
                case rel => exact ⟨k + 1, _, by omega, by go_num, HN5.out.1, HN5.out.2.1, HN5.out.2.2.1, HN5.out.2.2.2⟩
                case measure => simp [intOf]; omega
        by_cases h11 : s = 11
        · subst h11
          rw [show takesF 11 = 2 from rfl] at htk
          rcases hrow.2 with ⟨rfl, hp0⟩ | ⟨g, cap', cur, rfl, hg, hh, hmc, hmax, _, _⟩
          · omega
          · obtain ⟨r, hr⟩ : ∃ r, p.length = r + 2 := ⟨p.length - 2, by omega⟩
            have hgl : g < wr.heap.size := (Array.getElem?_eq_some_iff.1 hh).1
            have cell : ∀ j, j < p.length → ∃ o l cp, wr.cell? ⟨g, j, none⟩ = some (.slice o l cp) ∧ GoodC (fun b => K ≤ b ∧ some b ≠ some g) m wr (.slice o l cp) (p.getD j []) := fun j hj => by
              obtain ⟨u, hu, hr⟩ := HXS.out j _ (List.getElem?_eq_getElem hj)
              have hm := HPo.out _ (List.getElem_mem hj)
              obtain ⟨o, cp, rfl, _⟩ := hr.slice
              refine ⟨o, _, cp, by rw [hrow.cellAt j (by omega)]; exact hu, ?_⟩
              rw [List.getD_eq_getElem?_getD, List.getElem?_eq_getElem hj]
              exact ⟨hr, hm⟩
            obtain ⟨o0, l0, q0, hc0, hg0⟩ := cell r (by omega)
            obtain ⟨o1, l1, q1, hc1, hg1⟩ := cell (r + 1) (by omega)
            have HXR : Hid (∀ (j : Nat) t, (p.take r)[j]? = some t → ∃ u, (xs.take r)[j]? = some u ∧ RS2 (fun b => K ≤ b ∧ some b ≠ (Value.slice (some ⟨g, 0, none⟩) r cap').ownBlock) wr u t) := take_get HXS.out r
            have HXr : Hid ((xs.take r).length = (p.take r).length) := by have := HXL.out; unfold Hid; simp; omega
            have HLr : Hid (r = (p.take r).length) := by unfold Hid; simp; omega
            have HRW : Hid (wr.ownsRow K 57 1 (.slice (some ⟨g, 0, none⟩) r cap') r (xs.take r)) := ownsRow_take hrow (by omega)
            have HSr : Hid (pileC (c.take (k + 1)) [] = (madeC 11 [p.getD r [], p.getD (r + 1) []]).map (fun x => p.take r ++ [x])) := by unfold Hid; rw [HS.out, stepC_two p rfl hr]
            have HNn : Hid (madeC 11 [p.getD r [], p.getD (r + 1) []] = none → cubesC c = none) := fun hmd => by
              have h := HSr.out
              rw [hmd] at h
              unfold cubesC
              rw [pileC_none c [] (k + 1) h]; rfl
            have hcap : ¬ cap' = 0 := by omega
            have hcap2 : r < cap' := by omega
            have hcap3 : (r : Int) ≤ (cap' : Int) := by omega
            have hr0 : (0 : Int) ≤ (r : Int) := by omega
            have hr1 : (r : Int) + 2 - 1 = (r : Int) + 1 := by omega
            have hr2 : ((r : Int) + 1).toNat = r + 1 := by omega
            have hr3 : (r : Int) < (r : Int) + 2 := by omega
            have hr4 : (r : Int) + 1 < (r : Int) + 2 := by omega
            have hr5 : (0 : Int) ≤ (r : Int) + 1 := by omega
            have hr6 : r < r + 2 := by omega
            have hwr : IntKind.i64.wrap (r : Int) = (r : Int) := wrap_small (by omega) (by omega)
            have hwr1 : IntKind.i64.wrap ((r : Int) + 1) = (r : Int) + 1 := wrap_small (by omega) (by omega)
            have hr7 : r + 1 < r + 2 := by omega
            have hle : (r : Int) ≤ (r : Int) + 2 := by omega
            obtain ⟨q, hq⟩ : ∃ q, q = p.length := ⟨_, rfl⟩
            rw [← hq] at hmc hpl ⊢
            have hqr : q = r + 2 := by rw [hq]; exact hr
            subst hqr
            obtain ⟨L0, hL0⟩ : ∃ L0, L0 = p.getD r [] := ⟨_, rfl⟩
            rw [← hL0] at hg0 HSr HNn
            obtain ⟨L1, hL1⟩ : ∃ L1, L1 = p.getD (r + 1) [] := ⟨_, rfl⟩
            rw [← hL1] at hg1 HSr HNn
            clear hL1
            clear hrow hh hq hr htk hsg HS h4 hL0 cell
            have HM0 : ∀ W, Below wr.heap.size wr W → Calls Tryz.prog 46 #[.slice o0 l0 q0, .slice o1 l1 q1] W fun e w' => OutR (fun b => K ≤ b ∧ some b ≠ some g) W.heap.size w' e (capC (orC L0 L1)) ∧ Below W.heap.size W w' := fun W hW => refOr_any (fun b => K ≤ b ∧ some b ≠ some g) _ _ L0 L1 W (hg0.below hW).2.1.2 (hg0.below hW).2.2 (hg1.below hW).2.2 (hg0.below hW).1 (hg1.below hW).1
            cases hmd : capC (orC L0 L1) with
            | none =>
              have HM : Hid (∀ W, Below wr.heap.size wr W → Calls Tryz.prog 46 #[.slice o0 l0 q0, .slice o1 l1 q1] W fun e w' => e = .returned (.tuple #[.slice none 0 0, .int .i64 4]) ∧ Below wr.heap.size wr w') := outR_none hmd HM0
              have HNo : Hid (cubesC c = none) := HNn.out hmd
              clear hmd HM0
              go_wp2_with fail
              go_cut [8, 9] from 96 to 109 (fun x e wx => x = .slice none 0 0 ∧ e = .int .i64 4 ∧ Below wr.heap.size wr wx)
              case first =>
                go_region_with (go_at_call 46; refine (HM.out _ (by first | exact Below.refl _ _ | exact below_drewNs _ _)).mono ?_; rintro e w3 ⟨rfl, hb3⟩)
                all_goals (try go_wp2_with fail)
                all_goals go_meet
                all_goals exact ⟨rfl, rfl, hb3⟩
              case rest =>
                obtain ⟨rfl, rfl, hb3⟩ := hcut
                obtain ⟨w3, hw3⟩ : ∃ w3, w3 = wc := ⟨_, rfl⟩
                subst hw3
                have HB3 : Hid (Below w.heap.size w w3) := HB1.out.1.trans ((HI.out.2.2.1.trans (hb3.mono HI.out.2.2.2)).mono HKe.out.2)
                clear hb3
                go_wp2
                go_ret2
                refine ⟨?_, HB3.out⟩
                rw [HNo.out]; rfl
            | some L =>
              have HM : Hid (∀ W, Below wr.heap.size wr W → Calls Tryz.prog 46 #[.slice o0 l0 q0, .slice o1 l1 q1] W fun e w' => ∃ oo oc, e = .returned (.tuple #[.slice oo L.length oc, .int .i64 0]) ∧ RS2 (fun b => (fun b => K ≤ b ∧ some b ≠ some g) b ∨ wr.heap.size ≤ b) w' (.slice oo L.length oc) L ∧ Below wr.heap.size wr w') := outR_some hmd HM0
              have HSt : Hid (pileC (c.take (k + 1)) [] = some (p.take r ++ [L])) := by
                have h := HSr.out
                rw [show madeC 11 [L0, L1] = some L from hmd] at h
                exact h
              obtain ⟨ol, hol⟩ : ∃ ol, ol = L.length := ⟨_, rfl⟩
              rw [← hol] at HM
              clear hmd HM0 hol
              go_wp2_with fail
              go_cut [8, 9] from 96 to 109 (fun x e wx => ∃ oo oc, x = .slice oo ol oc ∧ e = .int .i64 0 ∧ RS2 (fun b => (fun b => K ≤ b ∧ some b ≠ some g) b ∨ wr.heap.size ≤ b) wx (.slice oo ol oc) L ∧ Below wr.heap.size wr wx)
              case first =>
                go_region_with (go_at_call 46; refine (HM.out _ (by first | exact Below.refl _ _ | exact below_drewNs _ _)).mono ?_; rintro e w3 ⟨oo, oc, rfl, hr3, hb3⟩)
                all_goals (try go_wp2_with fail)
                all_goals go_meet
                all_goals exact ⟨oo, oc, rfl, rfl, hr3, hb3⟩
              case rest =>
                obtain ⟨oo, oc, rfl, rfl, hr3, hb3⟩ := hcut
                obtain ⟨w3, hw3⟩ : ∃ w3, w3 = wc := ⟨_, rfl⟩
                subst hw3
                have HB3 : Hid (Below wr.heap.size wr w3 ∧ Below K w1 w3 ∧ K ≤ w3.heap.size) := ⟨hb3, HI.out.2.2.1.trans (hb3.mono HI.out.2.2.2), by have := hb3.size; have := HI.out.2.2.2; omega⟩
                have HR3 : Hid (RS2 (fun b => K ≤ b ∧ some b ≠ (Value.slice (some ⟨g, 0, none⟩) r cap').ownBlock) w3 (.slice oo ol oc) L) := hr3.mono fun b _ hb => by
                  rcases hb with hb | hb
                  · exact hb
                  · refine ⟨Nat.le_trans HI.out.2.2.2 hb, fun e => ?_⟩
                    have := (HRW.out.lt b e.symm).2
                    omega
                clear hr3 hb3
                obtain ⟨w4, hw4⟩ : ∃ w4, w4 = w3.alloc (.cells #[.slice oo ol oc] 57) := ⟨_, rfl⟩
                have HB4 : Hid (Below wr.heap.size wr w4 ∧ Below K w1 w4 ∧ (w4.heap.size = w3.heap.size + 1 ∧ K ≤ w4.heap.size)) := by
                  have b : Below w3.heap.size w3 w4 := by rw [hw4]; exact below_alloc1 _ _
                  exact ⟨HB3.out.1.trans (b.mono HB3.out.1.size), HB3.out.2.1.trans (b.mono HB3.out.2.2), by rw [hw4]; simp, by have := b.size; have := HB3.out.2.2; omega⟩
                have HR4 : Hid (RS2 (fun b => K ≤ b ∧ some b ≠ (Value.slice (some ⟨g, 0, none⟩) r cap').ownBlock) w4 (.slice oo ol oc) L) := HR3.out.kept (Kept.of_below (by rw [hw4]; exact below_alloc1 _ _))
                have HRW4 : Hid (w4.ownsRow K 57 1 (Value.slice (some ⟨g, 0, none⟩) r cap') r (xs.take r)) := ownsRow_same HRW.out HB4.out.1.block
                have HX4 : Hid (∀ (j : Nat) t, (p.take r)[j]? = some t → ∃ u, (xs.take r)[j]? = some u ∧ RS2 (fun b => K ≤ b ∧ some b ≠ (Value.slice (some ⟨g, 0, none⟩) r cap').ownBlock) w4 u t) := fun j t hj => by
                  obtain ⟨u, hu, hr⟩ := HXR.out j t hj
                  exact ⟨u, hu, hr.kept (Kept.of_below HB4.out.1)⟩
                have hca : w4.cell? ((⟨w3.heap.size, 0, none⟩ : Addr).add 0) = some (.slice oo ol oc) := by rw [hw4]; simp [Addr.add]
                have HCa : Hid (∀ j u, ([Value.slice oo ol oc] : List Value)[j]? = some u → w4.cell? ((⟨w3.heap.size, 0, none⟩ : Addr).add j) = some u) := fun j u hu => by
                  match j, hu with
                  | 0, hu => simp at hu; subst hu; exact hca
                have HW4 : Hid (w3.alloc (.cells #[.slice oo ol oc] 57) = w4) := hw4.symm
                clear hca
                go_wp2_with (first | (at_builtin; rw [HW4.out]; refine wpList_append_lies _ rfl (.tmp 117) (.tmp 119) 87 rfl K 57 i0 (.slice none 0 0) 1 24 Tryz.underlying87 hi hz0 hz1 hz2 rfl (by decide) (Value.slice (some ⟨g, 0, none⟩) r cap') r (xs.take r) rfl HRW4.out ⟨w3.heap.size, 0, none⟩ 1 1 [.slice oo ol oc] rfl rfl HCa.out (by intro y hy; simp at hy; subst hy; rfl) (by decide) ?d3 ?d4 HB4.out.2.2.2 w4.heap.size rfl ?_))
                case d3 => unfold maxLen; omega
                case d4 => omega
                intro g5 cap5 w5 hown5 hgrow5 hat5 hlt5
                have HG5 : Hid (w4.grownBy w5 (Value.slice (some ⟨g, 0, none⟩) r cap').ownBlock) := by first | exact hgrow5 | (rw [← HW4.out]; exact hgrow5)
                have HA5 : Hid ((Value.slice (some ⟨g, 0, none⟩) r cap').ownBlock = some g5 ∨ g5 = w4.heap.size) := by first | exact hat5 | exact hat5.imp id (fun h => by have := HB4.out.2.2.1; omega)
                have HN5 : Hid (pileC (c.take (k + 1)) [] = some (p.take r ++ [L]) ∧ Own3 K w5 (.slice (some ⟨g5, 0, none⟩) (r + 1) cap5) (p.take r ++ [L]) ∧ Below K w1 w5 ∧ K ≤ w5.heap.size) := by
                  refine ⟨HSt.out, ?_, HB4.out.2.1.grown HG5.out HB4.out.2.2.2 (fun j hj => (HRW4.out.lt j hj).1), by have := HG5.out.size; have := HB4.out.2.2.2; omega⟩
                  have e := HLr.out
                  have h := Own3.push (P := p.take r) (L := L) (g := g5) (cap := cap5) HXr.out HX4.out HR4.out (by rw [← e]; simpa using hown5) HG5.out HA5.out
                  rw [← e] at h
                  exact h
                clear hown5 hgrow5 hat5 hlt5 hw4
                go_wp2
                go_roundw
                case rel => exact ⟨k + 1, _, by omega, by go_num, HN5.out.1, HN5.out.2.1, HN5.out.2.2.1, HN5.out.2.2.2⟩
                case measure => simp [intOf]; omega
        obtain rfl : s = 13 := by omega
        rw [show takesF 13 = 2 from rfl] at htk
        rcases hrow.2 with ⟨rfl, hp0⟩ | ⟨g, cap', cur, rfl, hg, hh, hmc, hmax, _, _⟩
        · omega
        · obtain ⟨r, hr⟩ : ∃ r, p.length = r + 2 := ⟨p.length - 2, by omega⟩
          have hgl : g < wr.heap.size := (Array.getElem?_eq_some_iff.1 hh).1
          have cell : ∀ j, j < p.length → ∃ o l cp, wr.cell? ⟨g, j, none⟩ = some (.slice o l cp) ∧ GoodC (fun b => K ≤ b ∧ some b ≠ some g) m wr (.slice o l cp) (p.getD j []) := fun j hj => by
            obtain ⟨u, hu, hr⟩ := HXS.out j _ (List.getElem?_eq_getElem hj)
            have hm := HPo.out _ (List.getElem_mem hj)
            obtain ⟨o, cp, rfl, _⟩ := hr.slice
            refine ⟨o, _, cp, by rw [hrow.cellAt j (by omega)]; exact hu, ?_⟩
            rw [List.getD_eq_getElem?_getD, List.getElem?_eq_getElem hj]
            exact ⟨hr, hm⟩
          obtain ⟨o0, l0, q0, hc0, hg0⟩ := cell r (by omega)
          obtain ⟨o1, l1, q1, hc1, hg1⟩ := cell (r + 1) (by omega)
          have HXR : Hid (∀ (j : Nat) t, (p.take r)[j]? = some t → ∃ u, (xs.take r)[j]? = some u ∧ RS2 (fun b => K ≤ b ∧ some b ≠ (Value.slice (some ⟨g, 0, none⟩) r cap').ownBlock) wr u t) := take_get HXS.out r
          have HXr : Hid ((xs.take r).length = (p.take r).length) := by have := HXL.out; unfold Hid; simp; omega
          have HLr : Hid (r = (p.take r).length) := by unfold Hid; simp; omega
          have HRW : Hid (wr.ownsRow K 57 1 (.slice (some ⟨g, 0, none⟩) r cap') r (xs.take r)) := ownsRow_take hrow (by omega)
          have HSr : Hid (pileC (c.take (k + 1)) [] = (madeC 13 [p.getD r [], p.getD (r + 1) []]).map (fun x => p.take r ++ [x])) := by unfold Hid; rw [HS.out, stepC_two p rfl hr]
          have HNn : Hid (madeC 13 [p.getD r [], p.getD (r + 1) []] = none → cubesC c = none) := fun hmd => by
            have h := HSr.out
            rw [hmd] at h
            unfold cubesC
            rw [pileC_none c [] (k + 1) h]; rfl
          have hcap : ¬ cap' = 0 := by omega
          have hcap2 : r < cap' := by omega
          have hcap3 : (r : Int) ≤ (cap' : Int) := by omega
          have hr0 : (0 : Int) ≤ (r : Int) := by omega
          have hr1 : (r : Int) + 2 - 1 = (r : Int) + 1 := by omega
          have hr2 : ((r : Int) + 1).toNat = r + 1 := by omega
          have hr3 : (r : Int) < (r : Int) + 2 := by omega
          have hr4 : (r : Int) + 1 < (r : Int) + 2 := by omega
          have hr5 : (0 : Int) ≤ (r : Int) + 1 := by omega
          have hr6 : r < r + 2 := by omega
          have hwr : IntKind.i64.wrap (r : Int) = (r : Int) := wrap_small (by omega) (by omega)
          have hwr1 : IntKind.i64.wrap ((r : Int) + 1) = (r : Int) + 1 := wrap_small (by omega) (by omega)
          have hr7 : r + 1 < r + 2 := by omega
          have hle : (r : Int) ≤ (r : Int) + 2 := by omega
          obtain ⟨q, hq⟩ : ∃ q, q = p.length := ⟨_, rfl⟩
          rw [← hq] at hmc hpl ⊢
          have hqr : q = r + 2 := by rw [hq]; exact hr
          subst hqr
          obtain ⟨L0, hL0⟩ : ∃ L0, L0 = p.getD r [] := ⟨_, rfl⟩
          rw [← hL0] at hg0 HSr HNn
          obtain ⟨L1, hL1⟩ : ∃ L1, L1 = p.getD (r + 1) [] := ⟨_, rfl⟩
          rw [← hL1] at hg1 HSr HNn
          clear hL1
          clear hrow hh hq hr htk hsg HS h4 hL0 cell
          have HM0 : ∀ W, Below wr.heap.size wr W → Calls Tryz.prog 44 #[.slice o0 l0 q0] W fun e w' => OutR (fun b => K ≤ b ∧ some b ≠ some g) W.heap.size w' e (noC L0 [[]]) ∧ Below W.heap.size W w' := fun W hW => refNo_any (fun b => K ≤ b ∧ some b ≠ some g) _ L0 m hm6 W (hg0.below hW).2.1.1 (hg0.below hW).1
          cases hmn : noC L0 [[]] with
          | none =>
            have HM : Hid (∀ W, Below wr.heap.size wr W → Calls Tryz.prog 44 #[.slice o0 l0 q0] W fun e w' => e = .returned (.tuple #[.slice none 0 0, .int .i64 4]) ∧ Below wr.heap.size wr w') := outR_none hmn HM0
            have HNo : Hid (cubesC c = none) := HNn.out (by show (noC L0 [[]]).bind _ = none; rw [hmn]; rfl)
            clear hmn HM0
            go_wp2_with fail
            go_at_call 44
            refine (HM.out wr (Below.refl _ _)).mono ?_
            rintro e w3 ⟨rfl, hb3⟩
            have HB3 : Hid (Below w.heap.size w w3) := HB1.out.1.trans ((HI.out.2.2.1.trans (hb3.mono HI.out.2.2.2)).mono HKe.out.2)
            clear hb3
            go_wp2
            go_ret2
            refine ⟨?_, HB3.out⟩
            rw [HNo.out]; rfl
          | some X =>
            have HM : Hid (∀ W, Below wr.heap.size wr W → Calls Tryz.prog 44 #[.slice o0 l0 q0] W fun e w' => ∃ oo oc, e = .returned (.tuple #[.slice oo X.length oc, .int .i64 0]) ∧ RS2 (fun b => (fun b => K ≤ b ∧ some b ≠ some g) b ∨ wr.heap.size ≤ b) w' (.slice oo X.length oc) X ∧ Below wr.heap.size wr w') := outR_some hmn HM0
            have hokX := no_ok hm6 L0 [[]] X hg0.2.1.1 (okL_one m) (by simp) hmn
            have HOr : Hid (∀ W v, Below wr.heap.size wr W → RS2 (fun b => (fun b => K ≤ b ∧ some b ≠ some g) b ∨ wr.heap.size ≤ b) W v X → Calls Tryz.prog 46 #[v, .slice o1 l1 q1] W fun e w' => OutR (fun b => (fun b => K ≤ b ∧ some b ≠ some g) b ∨ wr.heap.size ≤ b) W.heap.size w' e (capC (orC X L1)) ∧ Below W.heap.size W w') := fun W v hW hv => refOr_any (fun b => (fun b => K ≤ b ∧ some b ≠ some g) b ∨ wr.heap.size ≤ b) v _ X L1 W hokX.1.2 hokX.2 (hg1.below hW).2.2 hv ((hg1.below hW).1.mono fun b _ hb => Or.inl hb)
            have HMd : Hid (madeC 13 [L0, L1] = capC (orC X L1)) := by unfold Hid; show (noC L0 [[]]).bind _ = _; rw [hmn]; rfl
            have HC1 : Hid (∀ W, Below wr.heap.size wr W → W.cell? ⟨g, r + 1, none⟩ = some (.slice o1 l1 q1)) := fun W hW => by rw [hW.cell (show (⟨g, r + 1, none⟩ : Addr).block < _ from hgl)]; exact hc1
            obtain ⟨xl, hxl⟩ : ∃ xl, xl = X.length := ⟨_, rfl⟩
            rw [← hxl] at HM
            clear hmn HM0 hokX hxl hc1
            go_wp2_with fail
            go_at_call 44
            refine (HM.out wr (Below.refl _ _)).mono ?_
            rintro e w2 ⟨xo, xc, rfl, hr2, hb2⟩
            have HB2 : Hid (Below wr.heap.size wr w2) := hb2
            have HOr2 := HOr.out w2 _ hb2 hr2
            have hc1 := HC1.out w2 hb2
            clear hr2 hb2
            cases hmd : capC (orC X L1) with
            | none =>
              have HNo : Hid (cubesC c = none) := HNn.out (HMd.out.trans hmd)
              have HO3 : Hid (Calls Tryz.prog 46 #[.slice xo xl xc, .slice o1 l1 q1] w2 fun e w' => e = .returned (.tuple #[.slice none 0 0, .int .i64 4]) ∧ Below wr.heap.size wr w') := HOr2.mono fun e w' h => by
                rw [hmd] at h
                exact ⟨h.1, HB2.out.trans (h.2.mono HB2.out.size)⟩
              clear hmd HOr2
              go_wp2_with fail
              go_at_call 46
              refine HO3.out.mono ?_
              rintro e w3 ⟨rfl, hb3⟩
              have HB3 : Hid (Below w.heap.size w w3) := HB1.out.1.trans ((HI.out.2.2.1.trans (hb3.mono HI.out.2.2.2)).mono HKe.out.2)
              clear hb3
              go_wp2
              go_ret2
              refine ⟨?_, HB3.out⟩
              rw [HNo.out]; rfl
            | some L =>
              have HO3 : Hid (Calls Tryz.prog 46 #[.slice xo xl xc, .slice o1 l1 q1] w2 fun e w' => ∃ oo oc, e = .returned (.tuple #[.slice oo L.length oc, .int .i64 0]) ∧ RS2 (fun b => (fun b => K ≤ b ∧ some b ≠ some g) b ∨ wr.heap.size ≤ b) w' (.slice oo L.length oc) L ∧ Below wr.heap.size wr w') := HOr2.mono fun e w' h => by
                rw [hmd] at h
                obtain ⟨v, rfl, hr⟩ : ∃ v, e = .returned (.tuple #[v, .int .i64 0]) ∧ RS2 (fun b => ((fun b => K ≤ b ∧ some b ≠ some g) b ∨ wr.heap.size ≤ b) ∨ w2.heap.size ≤ b) w' v L := h.1
                obtain ⟨oo, oc, rfl, _⟩ := hr.slice
                exact ⟨oo, oc, rfl, hr.mono fun b _ hb => hb.elim id (fun h2 => Or.inr (Nat.le_trans HB2.out.size h2)), HB2.out.trans (h.2.mono HB2.out.size)⟩
              have HSt : Hid (pileC (c.take (k + 1)) [] = some (p.take r ++ [L])) := by
                have h := HSr.out
                rw [HMd.out, hmd] at h
                exact h
              obtain ⟨ol, hol⟩ : ∃ ol, ol = L.length := ⟨_, rfl⟩
              rw [← hol] at HO3
              clear hmd HOr2 hol
              go_wp2_with fail
              go_at_call 46
              refine HO3.out.mono ?_
              rintro e w3 ⟨oo, oc, rfl, hr3, hb3⟩
              have HB3 : Hid (Below wr.heap.size wr w3 ∧ Below K w1 w3 ∧ K ≤ w3.heap.size) := ⟨hb3, HI.out.2.2.1.trans (hb3.mono HI.out.2.2.2), by have := hb3.size; have := HI.out.2.2.2; omega⟩
              have HR3 : Hid (RS2 (fun b => K ≤ b ∧ some b ≠ (Value.slice (some ⟨g, 0, none⟩) r cap').ownBlock) w3 (.slice oo ol oc) L) := hr3.mono fun b _ hb => by
                rcases hb with hb | hb
                · exact hb
                · refine ⟨Nat.le_trans HI.out.2.2.2 hb, fun e => ?_⟩
                  have := (HRW.out.lt b e.symm).2
                  omega
              clear hr3 hb3
              obtain ⟨w4, hw4⟩ : ∃ w4, w4 = w3.alloc (.cells #[.slice oo ol oc] 57) := ⟨_, rfl⟩
              have HB4 : Hid (Below wr.heap.size wr w4 ∧ Below K w1 w4 ∧ (w4.heap.size = w3.heap.size + 1 ∧ K ≤ w4.heap.size)) := by
                have b : Below w3.heap.size w3 w4 := by rw [hw4]; exact below_alloc1 _ _
                exact ⟨HB3.out.1.trans (b.mono HB3.out.1.size), HB3.out.2.1.trans (b.mono HB3.out.2.2), by rw [hw4]; simp, by have := b.size; have := HB3.out.2.2; omega⟩
              have HR4 : Hid (RS2 (fun b => K ≤ b ∧ some b ≠ (Value.slice (some ⟨g, 0, none⟩) r cap').ownBlock) w4 (.slice oo ol oc) L) := HR3.out.kept (Kept.of_below (by rw [hw4]; exact below_alloc1 _ _))
              have HRW4 : Hid (w4.ownsRow K 57 1 (Value.slice (some ⟨g, 0, none⟩) r cap') r (xs.take r)) := ownsRow_same HRW.out HB4.out.1.block
              have HX4 : Hid (∀ (j : Nat) t, (p.take r)[j]? = some t → ∃ u, (xs.take r)[j]? = some u ∧ RS2 (fun b => K ≤ b ∧ some b ≠ (Value.slice (some ⟨g, 0, none⟩) r cap').ownBlock) w4 u t) := fun j t hj => by
                obtain ⟨u, hu, hr⟩ := HXR.out j t hj
                exact ⟨u, hu, hr.kept (Kept.of_below HB4.out.1)⟩
              have hca : w4.cell? ((⟨w3.heap.size, 0, none⟩ : Addr).add 0) = some (.slice oo ol oc) := by rw [hw4]; simp [Addr.add]
              have HCa : Hid (∀ j u, ([Value.slice oo ol oc] : List Value)[j]? = some u → w4.cell? ((⟨w3.heap.size, 0, none⟩ : Addr).add j) = some u) := fun j u hu => by
                match j, hu with
                | 0, hu => simp at hu; subst hu; exact hca
              have HW4 : Hid (w3.alloc (.cells #[.slice oo ol oc] 57) = w4) := hw4.symm
              clear hca
              go_wp2_with (first | (at_builtin; rw [HW4.out]; refine wpList_append_lies _ rfl (.tmp 117) (.tmp 119) 87 rfl K 57 i0 (.slice none 0 0) 1 24 Tryz.underlying87 hi hz0 hz1 hz2 rfl (by decide) (Value.slice (some ⟨g, 0, none⟩) r cap') r (xs.take r) rfl HRW4.out ⟨w3.heap.size, 0, none⟩ 1 1 [.slice oo ol oc] rfl rfl HCa.out (by intro y hy; simp at hy; subst hy; rfl) (by decide) ?d3 ?d4 HB4.out.2.2.2 w4.heap.size rfl ?_))
              case d3 => unfold maxLen; omega
              case d4 => omega
              intro g5 cap5 w5 hown5 hgrow5 hat5 hlt5
              have HG5 : Hid (w4.grownBy w5 (Value.slice (some ⟨g, 0, none⟩) r cap').ownBlock) := by first | exact hgrow5 | (rw [← HW4.out]; exact hgrow5)
              have HA5 : Hid ((Value.slice (some ⟨g, 0, none⟩) r cap').ownBlock = some g5 ∨ g5 = w4.heap.size) := by first | exact hat5 | exact hat5.imp id (fun h => by have := HB4.out.2.2.1; omega)
              have HN5 : Hid (pileC (c.take (k + 1)) [] = some (p.take r ++ [L]) ∧ Own3 K w5 (.slice (some ⟨g5, 0, none⟩) (r + 1) cap5) (p.take r ++ [L]) ∧ Below K w1 w5 ∧ K ≤ w5.heap.size) := by
                refine ⟨HSt.out, ?_, HB4.out.2.1.grown HG5.out HB4.out.2.2.2 (fun j hj => (HRW4.out.lt j hj).1), by have := HG5.out.size; have := HB4.out.2.2.2; omega⟩
                have e := HLr.out
                have h := Own3.push (P := p.take r) (L := L) (g := g5) (cap := cap5) HXr.out HX4.out HR4.out (by rw [← e]; simpa using hown5) HG5.out HA5.out
                rw [← e] at h
                exact h
              clear hown5 hgrow5 hat5 hlt5 hw4
              go_wp2
              go_roundw
              case rel => exact ⟨k + 1, _, by omega, by go_num, HN5.out.1, HN5.out.2.1, HN5.out.2.2.1, HN5.out.2.2.2⟩
              case measure => simp [intOf]; omega
    · have hkn : k = n := by omega
      have hall : c.take k = c := List.take_of_length_le (by have := HN.out; omega)
      rw [hall] at hcn hp
      have h1 : p.length = 1 := by
        have := HOne.out.symm.trans hcn
        have := Option.some.inj this
        omega
      have HE : Hid (cubesC c = some (p.getD 0 [])) := by unfold Hid cubesC; rw [hp]; rfl
      obtain ⟨xs, hrow, hxs⟩ := hown0
      rw [h1] at hrow
      rcases hrow.2 with ⟨_, hz⟩ | ⟨g, cap', cur, rfl, hg, hh, hmc, hmax, _, _⟩
      · omega
      · obtain ⟨u, hu, hr⟩ := hxs 0 _ (List.getElem?_eq_getElem (show 0 < p.length by omega))
        obtain ⟨oo, oc, rfl, _⟩ := hr.slice
        have hcell : wr.cell? ⟨g, 0, none⟩ = some (.slice oo p[0].length oc) := by rw [hrow.cellAt 0 (by omega)]; exact hu
        have HR : Hid (RS2 (fun b => False ∨ w.heap.size ≤ b) wr (.slice oo p[0].length oc) (p.getD 0 [])) := by
          unfold Hid
          rw [List.getD_eq_getElem?_getD, List.getElem?_eq_getElem (show 0 < p.length by omega)]
          exact hr.mono fun b _ hb => Or.inr (Nat.le_trans HKe.out.2 hb.1)
        have HB3 : Hid (Below w.heap.size w wr) := HB1.out.1.trans (hbel.mono HKe.out.2)
        obtain ⟨ol, hol⟩ : ∃ ol, ol = p[0].length := ⟨_, rfl⟩
        rw [← hol] at hcell HR
        have hltz : ¬ (k : Int) < (n : Int) := by omega
        clear hrow hxs hr hu hh hol hp hcn hall hbel hKw HI
        go_wp2
        go_ret2
        refine ⟨?_, HB3.out⟩
        rw [HE.out]
        exact ⟨_, rfl, HR.out⟩

end Go.Proofs.YtedgbohobgnedaeGreatDoor

namespace Go.Proofs.YtedgbohobgnedaeGreatDoor
open Go.ChangeShapes Go.WideShapes Go.ChangeAt Go.RowKit
set_option maxRecDepth 100000

set_option maxHeartbeats 8000000 in
theorem refRow_1 (n : Int) (h : Bool) (X Y : Nat → Bool) (M : Nat → Int) (p : Int) (sao tao : Option Addr) (sl scap tl tcap : Nat) (w : World)
    (hM : ∀ f, f < 8 → M f = if h = true then timesK 1 (X f) (Y f) else - timesK 1 (X f) (Y f)) (hp : p = if h = true then 0 else -(0 + 1))
    (HS : Hid (∀ W (f : Nat), Below w.heap.size w W → f < 8 → Calls Tryz.prog 48 #[.slice sao sl scap, .int .i64 f] W fun e w' => e = .returned (.bool (X f)) ∧ Below W.heap.size W w'))
    (HT : Hid (∀ W (f : Nat), Below w.heap.size w W → f < 8 → Calls Tryz.prog 48 #[.slice tao tl tcap, .int .i64 f] W fun e w' => e = .returned (.bool (Y f)) ∧ Below W.heap.size W w'))
    : Calls Tryz.prog 23 #[.agg #[.int .i64 1, .slice sao sl scap, .slice tao tl tcap, .int .i64 n], .bool h] w fun e w' => e = .returned (.agg #[.int .i64 (M 0), .int .i64 (M 1), .int .i64 (M 2), .int .i64 (M 3), .int .i64 (M 4), .int .i64 (M 5), .int .i64 (M 6), .int .i64 (M 7), .int .i64 p]) ∧ Below w.heap.size w w' := by
  obtain ⟨Z, hZ⟩ : ∃ Z : Nat → Int, Z = fun _ => 0 := ⟨_, rfl⟩
  obtain ⟨w1, hw1⟩ : ∃ w1, w1 = ((w.alloc (.cells #[.int .i64 1, .slice sao sl scap, .slice tao tl tcap, .int .i64 n] 43)).alloc (.cells #[.int .i64 0, .int .i64 0, .int .i64 0, .int .i64 0, .int .i64 0, .int .i64 0, .int .i64 0, .int .i64 0, .int .i64 0] 65)).alloc (.cells #[.int .i64 0, .int .i64 0, .int .i64 0, .int .i64 0, .int .i64 0, .int .i64 0, .int .i64 0, .int .i64 0, .int .i64 0] 65) := ⟨_, rfl⟩
  have HW : Hid (Below w.heap.size w w1) := by unfold Hid; rw [hw1]; exact ((below_alloc1 _ _).alloc (by simp) _).alloc (by simp; omega) _
  have HK0 : Hid (Blk w1 w.heap.size 43 #[.int .i64 1, .slice sao sl scap, .slice tao tl tcap, .int .i64 n]) := by unfold Hid; rw [hw1]; exact ((Blk.new _ _ _).old _).old _
  have HK1 : Hid (Blk w1 (w.heap.size + 1) 65 (arrR Z 0)) := by
    unfold Hid; rw [hw1, hZ]
    have := Blk.new (w.alloc (.cells #[.int .i64 1, .slice sao sl scap, .slice tao tl tcap, .int .i64 n] 43)) 65 #[.int .i64 0, .int .i64 0, .int .i64 0, .int .i64 0, .int .i64 0, .int .i64 0, .int .i64 0, .int .i64 0, .int .i64 0]
    simp only [World.size_alloc] at this
    exact this.old _
  have HK2 : Hid (Blk w1 (w.heap.size + 1 + 1) 65 (arrR Z 0)) := by
    unfold Hid; rw [hw1, hZ]
    have := Blk.new ((w.alloc (.cells #[.int .i64 1, .slice sao sl scap, .slice tao tl tcap, .int .i64 n] 43)).alloc (.cells #[.int .i64 0, .int .i64 0, .int .i64 0, .int .i64 0, .int .i64 0, .int .i64 0, .int .i64 0, .int .i64 0, .int .i64 0] 65)) 65 #[.int .i64 0, .int .i64 0, .int .i64 0, .int .i64 0, .int .i64 0, .int .i64 0, .int .i64 0, .int .i64 0, .int .i64 0]
    simp only [World.size_alloc] at this
    exact this
  have HX : Hid (∀ W, Blk W w.heap.size 43 #[.int .i64 1, .slice sao sl scap, .slice tao tl tcap, .int .i64 n] → W.cell? ⟨w.heap.size, 0, none⟩ = some (.int .i64 1) ∧ W.cell? ⟨w.heap.size, 1, none⟩ = some (.slice sao sl scap) ∧ W.cell? ⟨w.heap.size, 2, none⟩ = some (.slice tao tl tcap) ∧ W.cell? ⟨w.heap.size, 3, none⟩ = some (.int .i64 n)) := fun W h => ⟨h.cell 0, h.cell 1, h.cell 2, h.cell 3⟩
  obtain ⟨D, hD⟩ : ∃ D : Nat → Int, D = fun f => timesK 1 (X f) (Y f) := ⟨_, rfl⟩
  have HDl : Hid (∀ f, f < 8 → -2 ≤ D f ∧ D f ≤ 2) := fun f _ => by
    have := timesK_le 1 (X f) (Y f)
    rw [hD]; show -2 ≤ timesK 1 (X f) (Y f) ∧ timesK 1 (X f) (Y f) ≤ 2; omega
  have HM : Hid (∀ f, f < 8 → M f = if h = true then D f else - D f) := fun f hf => by rw [hD]; exact hM f hf
  have HP : Hid (p = if h = true then 0 else -(0 + 1)) := hp
  have HD : Hid (∀ f, D f = timesK 1 (X f) (Y f)) := fun f => by rw [hD]
  have HZ : Hid (Z = fun _ => 0) := hZ
  clear hM hp hD hZ
  go_enter Tryz.func23, Tryz.ntmps23
  go_wp2
  rw [← hw1]
  clear hw1
  go_loopw [6] (fun i wr => ∃ f : Nat, f ≤ 8 ∧ i = .int .i64 f ∧ Below w.heap.size w wr ∧ Blk wr w.heap.size 43 #[.int .i64 1, .slice sao sl scap, .slice tao tl tcap, .int .i64 n] ∧ Blk wr (w.heap.size + 1) 65 (arrR Z 0) ∧ Blk wr (w.heap.size + 1 + 1) 65 (arrR (fun g => if g < f then D g else 0) 0)) (fun i _ => 8 - (intOf i).toNat)
  case atStart => exact ⟨0, Nat.zero_le _, rfl, HW.out, HK0.out, HK1.out, by have := HK2.out; rw [HZ.out] at this; exact this⟩
  case round =>
    obtain ⟨f, hf, rfl, hb, ha, hr, hq⟩ := hrel
    have HB1 : Hid (Below w.heap.size w wr) := hb
    have HA1 : Hid (Blk wr w.heap.size 43 #[.int .i64 1, .slice sao sl scap, .slice tao tl tcap, .int .i64 n]) := ha
    have HR1 : Hid (Blk wr (w.heap.size + 1) 65 (arrR Z 0)) := hr
    have HP1 : Hid (Blk wr (w.heap.size + 1 + 1) 65 (arrR (fun g => if g < f then D g else 0) 0)) := hq
    clear hb ha hr hq
    obtain ⟨x0, x1, x2, x3⟩ := HX.out _ HA1.out
    by_cases hlt : f < 8
    · have hDf : D f = timesK 1 (X f) (Y f) := HD.out f
      have HE : Hid (∀ W d, d = D f → Blk W (w.heap.size + 1 + 1) 65 (arrR (fun g => if g < f then D g else 0) 0) → Blk (W.setCell ⟨w.heap.size + 1 + 1, f, none⟩ (.int .i64 d)) (w.heap.size + 1 + 1) 65 (arrR (fun g => if g < f + 1 then D g else 0) 0)) := fun W d hd hW => by
        have := hW.set f (.int .i64 d)
        rw [arrR_set _ _ _ hlt] at this
        rw [arrR_same (M := fun g => if g = f then d else if g < f then D g else 0)]
        · exact this
        · intro g hg
          by_cases e : g = f
          · subst e; rw [if_pos (by omega), if_pos rfl, hd]
          · simp only [if_neg e]
            by_cases e' : g < f
            · rw [if_pos (by omega), if_pos e']
            · rw [if_neg (by omega), if_neg e']
      have HS1 : Hid (Calls Tryz.prog 48 #[.slice sao sl scap, .int .i64 f] wr fun e w' => e = .returned (.bool (X f)) ∧ Below wr.heap.size wr w') := HS.out wr f HB1.out hlt
      have HT1 : Hid (∀ W, Below w.heap.size w W → Calls Tryz.prog 48 #[.slice tao tl tcap, .int .i64 f] W fun e w' => e = .returned (.bool (Y f)) ∧ Below W.heap.size W w') := fun W hW => HT.out W f hW hlt
      obtain ⟨y, hy⟩ : ∃ y, y = Y f := ⟨_, rfl⟩
      rw [← hy] at HT1 hDf
      clear hy
      obtain ⟨x, hx⟩ : ∃ x, x = X f := ⟨_, rfl⟩
      rw [← hx] at HS1 hDf
      have HDf : Hid (D f = timesK 1 x y) := hDf
      clear hx hDf
      go_wp2_with fail
      go_at_call 48
      refine HS1.out.mono ?_
      rintro e w2 ⟨rfl, hb⟩
      have HB2 : Hid (Below w.heap.size w w2) := HB1.out.trans (hb.mono HB1.out.size)
      have HA2 : Hid (Blk w2 w.heap.size 43 #[.int .i64 1, .slice sao sl scap, .slice tao tl tcap, .int .i64 n]) := HA1.out.below hb
      have HR2 : Hid (Blk w2 (w.heap.size + 1) 65 (arrR Z 0)) := HR1.out.below hb
      have HP2 : Hid (Blk w2 (w.heap.size + 1 + 1) 65 (arrR (fun g => if g < f then D g else 0) 0)) := HP1.out.below hb
      clear hb x0 x1 x2 x3
      obtain ⟨x0, x1, x2, x3⟩ := HX.out _ HA2.out
      go_wp2_with fail
      go_at_call 48
      refine (HT1.out _ HB2.out).mono ?_
      rintro e w3 ⟨rfl, hb⟩
      have HB3 : Hid (Below w.heap.size w w3) := HB2.out.trans (hb.mono HB2.out.size)
      have HA3 : Hid (Blk w3 w.heap.size 43 #[.int .i64 1, .slice sao sl scap, .slice tao tl tcap, .int .i64 n]) := HA2.out.below hb
      have HR3 : Hid (Blk w3 (w.heap.size + 1) 65 (arrR Z 0)) := HR2.out.below hb
      have HP3 : Hid (Blk w3 (w.heap.size + 1 + 1) 65 (arrR (fun g => if g < f then D g else 0) 0)) := HP2.out.below hb
      clear hb x0 x1 x2 x3
      obtain ⟨x0, x1, x2, x3⟩ := HX.out _ HA3.out
      have c : w3.cell? ⟨w.heap.size + 1 + 1, f, none⟩ = some (.int .i64 0) := by rw [HP3.out.cell, arrR_get _ _ hlt]; simp
      have z := HP3.out.frozen f
      cases x <;> cases y
      · have HEE := HE.out w3 0 (by rw [HDf.out]; rfl) HP3.out
        have HEH : Hid _ := HEE
        clear HEE
        go_wp2
        go_roundw
        case rel => exact ⟨f + 1, by omega, by go_num, HB3.out.setCell (by show w.heap.size ≤ w.heap.size + 1 + 1; omega) _, HA3.out.far (by omega) _ _, HR3.out.far (by omega) _ _, HEH.out⟩
        case measure => simp [intOf]; omega
      · have HEE := HE.out w3 0 (by rw [HDf.out]; rfl) HP3.out
        have HEH : Hid _ := HEE
        clear HEE
        go_wp2
        go_roundw
        case rel => exact ⟨f + 1, by omega, by go_num, HB3.out.setCell (by show w.heap.size ≤ w.heap.size + 1 + 1; omega) _, HA3.out.far (by omega) _ _, HR3.out.far (by omega) _ _, HEH.out⟩
        case measure => simp [intOf]; omega
      · have HEE := HE.out w3 1 (by rw [HDf.out]; rfl) HP3.out
        have HEH : Hid _ := HEE
        clear HEE
        go_wp2
        go_roundw
        case rel => exact ⟨f + 1, by omega, by go_num, HB3.out.setCell (by show w.heap.size ≤ w.heap.size + 1 + 1; omega) _, HA3.out.far (by omega) _ _, HR3.out.far (by omega) _ _, HEH.out⟩
        case measure => simp [intOf]; omega
      · have HEE := HE.out w3 0 (by rw [HDf.out]; rfl) HP3.out
        have HEH : Hid _ := HEE
        clear HEE
        go_wp2
        go_roundw
        case rel => exact ⟨f + 1, by omega, by go_num, HB3.out.setCell (by show w.heap.size ≤ w.heap.size + 1 + 1; omega) _, HA3.out.far (by omega) _ _, HR3.out.far (by omega) _ _, HEH.out⟩
        case measure => simp [intOf]; omega
    · obtain rfl : f = 8 := by omega
      have HP8 : Hid (Blk wr (w.heap.size + 1 + 1) 65 (arrR D 0)) := by
        have := HP1.out
        unfold Hid
        rw [arrR_same (M := fun g => if g < 8 then D g else 0)]
        · exact this
        · intro g hg; rw [if_pos hg]
      clear HP1
      go_upto_region 35 with fail
      obtain ⟨w6, hw6⟩ : ∃ x, x = wr := ⟨_, rfl⟩
      rw [← hw6] at HB1 HR1 HP8 ⊢
      have HB6 : Hid (Below w.heap.size w w6) := HB1.out
      have HR6 : Hid (Blk w6 (w.heap.size + 1) 65 (arrR Z 0)) := HR1.out
      have HP6 : Hid (Blk w6 (w.heap.size + 1 + 1) 65 (arrR D 0)) := HP8.out
      clear hw6 x0 x1 x2 x3
      clear HB1 HA1 HR1 HP8 HS HT HX HW HK0 HK1 HK2
      cases h with
      | true =>
        have HMD : Hid (arrR D 0 = arrR M p) := by
          unfold Hid
          rw [HP.out]
          exact arrR_same (fun f hf => by rw [HM.out f hf]; rfl) _
        obtain ⟨n0', n1', n2', n3', n4', n5', n6', n7', n8'⟩ := HP6.out.cells9
        obtain ⟨r0, r1, r2, r3, r4, r5, r6, r7, r8⟩ := HR6.out.cells9
        obtain ⟨f0, f1, f2, f3, f4, f5, f6, f7, f8⟩ := HR6.out.frozen9
        go_wp2
        refine bodyPost_ret (v := .agg (arrR D 0)) ?_ rfl ⟨by rw [HMD.out]; rfl, ?_⟩
        · exact results_cell_row rfl _ _ (w.heap.size + 1) 65 (arrR D 0) (0, 0) _ rfl (putR_blk HR6.out D 0) Tryz.underlying65 rfl infoR
        · exact putR_below HB6.out (by omega) _ _
      | false =>
        go_wp2
        go_loopw [10] (fun i wr => ∃ f : Nat, f ≤ 8 ∧ i = .int .i64 f ∧ Below w.heap.size w wr ∧ Blk wr (w.heap.size + 1) 65 (arrR Z 0) ∧ Blk wr (w.heap.size + 1 + 1) 65 (arrR (fun g => if g < f then M g else D g) 0)) (fun i _ => 8 - (intOf i).toNat)
        case atStart => exact ⟨0, Nat.zero_le _, rfl, HB6.out, HR6.out, HP6.out⟩
        case round =>
          obtain ⟨f, hf, rfl, hb, hr, hq⟩ := hrel
          have HB7 : Hid (Below w.heap.size w wr) := hb
          have HR7 : Hid (Blk wr (w.heap.size + 1) 65 (arrR Z 0)) := hr
          have HP7 : Hid (Blk wr (w.heap.size + 1 + 1) 65 (arrR (fun g => if g < f then M g else D g) 0)) := hq
          clear hb hr hq
          by_cases hlt2 : f < 8
          · obtain ⟨x, hx⟩ : ∃ x, x = D f := ⟨_, rfl⟩
            have c : wr.cell? ⟨w.heap.size + 1 + 1, f, none⟩ = some (.int .i64 x) := by rw [HP7.out.cell, arrR_get _ _ hlt2, hx]; simp
            have z := HP7.out.frozen f
            have hxl := HDl.out f hlt2
            rw [← hx] at hxl
            obtain ⟨l0, l1⟩ := hxl
            have HE : Hid (Blk (wr.setCell ⟨w.heap.size + 1 + 1, f, none⟩ (.int .i64 (-x))) (w.heap.size + 1 + 1) 65 (arrR (fun g => if g < f + 1 then M g else D g) 0)) := by
              have := HP7.out.set f (.int .i64 (-x))
              rw [arrR_set _ _ _ hlt2] at this
              unfold Hid
              rw [arrR_same (M := fun g => if g = f then -x else if g < f then M g else D g)]
              · exact this
              · intro g hg
                by_cases e : g = f
                · subst e; rw [if_pos (by omega), if_pos rfl, HM.out g hg, hx]; rfl
                · simp only [if_neg e]
                  by_cases e' : g < f
                  · rw [if_pos (by omega), if_pos e']
                  · rw [if_neg (by omega), if_neg e']
            clear hx
            go_wp2
            go_roundw
            case rel => exact ⟨f + 1, by omega, by go_num, HB7.out.setCell (by show w.heap.size ≤ w.heap.size + 1 + 1; omega) _, HR7.out.far (by omega) _ _, HE.out⟩
            case measure => simp [intOf]; omega
          · obtain rfl : f = 8 := by omega
            have HP8 : Hid (Blk wr (w.heap.size + 1 + 1) 65 (arrR M 0)) := by
              have := HP7.out
              unfold Hid
              rw [arrR_same (M := fun g => if g < 8 then M g else D g)]
              · exact this
              · intro g hg; rw [if_pos hg]
            clear HP7
            have HPp : Hid (p = (-1)) := HP.out
            obtain ⟨n0', n1', n2', n3', n4', n5', n6', n7', n8'⟩ := HP8.out.cells9
            have nz := HP8.out.frozen 8
            obtain ⟨r0, r1, r2, r3, r4, r5, r6, r7, r8⟩ := HR7.out.cells9
            obtain ⟨f0, f1, f2, f3, f4, f5, f6, f7, f8⟩ := HR7.out.frozen9
            go_wp2
            refine bodyPost_ret (v := .agg (arrR M (-1))) ?_ rfl ⟨by rw [HPp.out]; rfl, ?_⟩
            · exact results_cell_row rfl _ _ (w.heap.size + 1) 65 (arrR M (-1)) (0, 0) _ rfl (putR_blk (HR7.out.far (by omega) 8 (.int .i64 (-1))) M (-1)) Tryz.underlying65 rfl infoR
            · exact putR_below (HB7.out.setCell (by show w.heap.size ≤ w.heap.size + 1 + 1; omega) _) (by omega) _ _

set_option maxHeartbeats 8000000 in
theorem refRow_2 (n : Int) (h : Bool) (X Y : Nat → Bool) (M : Nat → Int) (p : Int) (sao tao : Option Addr) (sl scap tl tcap : Nat) (w : World)
    (hM : ∀ f, f < 8 → M f = if h = true then timesK 2 (X f) (Y f) else - timesK 2 (X f) (Y f)) (hp : p = if h = true then 0 else -(0 + 1))
    (HS : Hid (∀ W (f : Nat), Below w.heap.size w W → f < 8 → Calls Tryz.prog 48 #[.slice sao sl scap, .int .i64 f] W fun e w' => e = .returned (.bool (X f)) ∧ Below W.heap.size W w'))
    (HT : Hid (∀ W (f : Nat), Below w.heap.size w W → f < 8 → Calls Tryz.prog 48 #[.slice tao tl tcap, .int .i64 f] W fun e w' => e = .returned (.bool (Y f)) ∧ Below W.heap.size W w'))
    : Calls Tryz.prog 23 #[.agg #[.int .i64 2, .slice sao sl scap, .slice tao tl tcap, .int .i64 n], .bool h] w fun e w' => e = .returned (.agg #[.int .i64 (M 0), .int .i64 (M 1), .int .i64 (M 2), .int .i64 (M 3), .int .i64 (M 4), .int .i64 (M 5), .int .i64 (M 6), .int .i64 (M 7), .int .i64 p]) ∧ Below w.heap.size w w' := by
  obtain ⟨Z, hZ⟩ : ∃ Z : Nat → Int, Z = fun _ => 0 := ⟨_, rfl⟩
  obtain ⟨w1, hw1⟩ : ∃ w1, w1 = ((w.alloc (.cells #[.int .i64 2, .slice sao sl scap, .slice tao tl tcap, .int .i64 n] 43)).alloc (.cells #[.int .i64 0, .int .i64 0, .int .i64 0, .int .i64 0, .int .i64 0, .int .i64 0, .int .i64 0, .int .i64 0, .int .i64 0] 65)).alloc (.cells #[.int .i64 0, .int .i64 0, .int .i64 0, .int .i64 0, .int .i64 0, .int .i64 0, .int .i64 0, .int .i64 0, .int .i64 0] 65) := ⟨_, rfl⟩
  have HW : Hid (Below w.heap.size w w1) := by unfold Hid; rw [hw1]; exact ((below_alloc1 _ _).alloc (by simp) _).alloc (by simp; omega) _
  have HK0 : Hid (Blk w1 w.heap.size 43 #[.int .i64 2, .slice sao sl scap, .slice tao tl tcap, .int .i64 n]) := by unfold Hid; rw [hw1]; exact ((Blk.new _ _ _).old _).old _
  have HK1 : Hid (Blk w1 (w.heap.size + 1) 65 (arrR Z 0)) := by
    unfold Hid; rw [hw1, hZ]
    have := Blk.new (w.alloc (.cells #[.int .i64 2, .slice sao sl scap, .slice tao tl tcap, .int .i64 n] 43)) 65 #[.int .i64 0, .int .i64 0, .int .i64 0, .int .i64 0, .int .i64 0, .int .i64 0, .int .i64 0, .int .i64 0, .int .i64 0]
    simp only [World.size_alloc] at this
    exact this.old _
  have HK2 : Hid (Blk w1 (w.heap.size + 1 + 1) 65 (arrR Z 0)) := by
    unfold Hid; rw [hw1, hZ]
    have := Blk.new ((w.alloc (.cells #[.int .i64 2, .slice sao sl scap, .slice tao tl tcap, .int .i64 n] 43)).alloc (.cells #[.int .i64 0, .int .i64 0, .int .i64 0, .int .i64 0, .int .i64 0, .int .i64 0, .int .i64 0, .int .i64 0, .int .i64 0] 65)) 65 #[.int .i64 0, .int .i64 0, .int .i64 0, .int .i64 0, .int .i64 0, .int .i64 0, .int .i64 0, .int .i64 0, .int .i64 0]
    simp only [World.size_alloc] at this
    exact this
  have HX : Hid (∀ W, Blk W w.heap.size 43 #[.int .i64 2, .slice sao sl scap, .slice tao tl tcap, .int .i64 n] → W.cell? ⟨w.heap.size, 0, none⟩ = some (.int .i64 2) ∧ W.cell? ⟨w.heap.size, 1, none⟩ = some (.slice sao sl scap) ∧ W.cell? ⟨w.heap.size, 2, none⟩ = some (.slice tao tl tcap) ∧ W.cell? ⟨w.heap.size, 3, none⟩ = some (.int .i64 n)) := fun W h => ⟨h.cell 0, h.cell 1, h.cell 2, h.cell 3⟩
  obtain ⟨D, hD⟩ : ∃ D : Nat → Int, D = fun f => timesK 2 (X f) (Y f) := ⟨_, rfl⟩
  have HDl : Hid (∀ f, f < 8 → -2 ≤ D f ∧ D f ≤ 2) := fun f _ => by
    have := timesK_le 2 (X f) (Y f)
    rw [hD]; show -2 ≤ timesK 2 (X f) (Y f) ∧ timesK 2 (X f) (Y f) ≤ 2; omega
  have HM : Hid (∀ f, f < 8 → M f = if h = true then D f else - D f) := fun f hf => by rw [hD]; exact hM f hf
  have HP : Hid (p = if h = true then 0 else -(0 + 1)) := hp
  have HD : Hid (∀ f, D f = timesK 2 (X f) (Y f)) := fun f => by rw [hD]
  have HZ : Hid (Z = fun _ => 0) := hZ
  clear hM hp hD hZ
  go_enter Tryz.func23, Tryz.ntmps23
  go_wp2
  rw [← hw1]
  clear hw1
  go_loopw [6] (fun i wr => ∃ f : Nat, f ≤ 8 ∧ i = .int .i64 f ∧ Below w.heap.size w wr ∧ Blk wr w.heap.size 43 #[.int .i64 2, .slice sao sl scap, .slice tao tl tcap, .int .i64 n] ∧ Blk wr (w.heap.size + 1) 65 (arrR Z 0) ∧ Blk wr (w.heap.size + 1 + 1) 65 (arrR (fun g => if g < f then D g else 0) 0)) (fun i _ => 8 - (intOf i).toNat)
  case atStart => exact ⟨0, Nat.zero_le _, rfl, HW.out, HK0.out, HK1.out, by have := HK2.out; rw [HZ.out] at this; exact this⟩
  case round =>
    obtain ⟨f, hf, rfl, hb, ha, hr, hq⟩ := hrel
    have HB1 : Hid (Below w.heap.size w wr) := hb
    have HA1 : Hid (Blk wr w.heap.size 43 #[.int .i64 2, .slice sao sl scap, .slice tao tl tcap, .int .i64 n]) := ha
    have HR1 : Hid (Blk wr (w.heap.size + 1) 65 (arrR Z 0)) := hr
    have HP1 : Hid (Blk wr (w.heap.size + 1 + 1) 65 (arrR (fun g => if g < f then D g else 0) 0)) := hq
    clear hb ha hr hq
    obtain ⟨x0, x1, x2, x3⟩ := HX.out _ HA1.out
    by_cases hlt : f < 8
    · have hDf : D f = timesK 2 (X f) (Y f) := HD.out f
      have HE : Hid (∀ W d, d = D f → Blk W (w.heap.size + 1 + 1) 65 (arrR (fun g => if g < f then D g else 0) 0) → Blk (W.setCell ⟨w.heap.size + 1 + 1, f, none⟩ (.int .i64 d)) (w.heap.size + 1 + 1) 65 (arrR (fun g => if g < f + 1 then D g else 0) 0)) := fun W d hd hW => by
        have := hW.set f (.int .i64 d)
        rw [arrR_set _ _ _ hlt] at this
        rw [arrR_same (M := fun g => if g = f then d else if g < f then D g else 0)]
        · exact this
        · intro g hg
          by_cases e : g = f
          · subst e; rw [if_pos (by omega), if_pos rfl, hd]
          · simp only [if_neg e]
            by_cases e' : g < f
            · rw [if_pos (by omega), if_pos e']
            · rw [if_neg (by omega), if_neg e']
      have HS1 : Hid (Calls Tryz.prog 48 #[.slice sao sl scap, .int .i64 f] wr fun e w' => e = .returned (.bool (X f)) ∧ Below wr.heap.size wr w') := HS.out wr f HB1.out hlt
      have HT1 : Hid (∀ W, Below w.heap.size w W → Calls Tryz.prog 48 #[.slice tao tl tcap, .int .i64 f] W fun e w' => e = .returned (.bool (Y f)) ∧ Below W.heap.size W w') := fun W hW => HT.out W f hW hlt
      obtain ⟨y, hy⟩ : ∃ y, y = Y f := ⟨_, rfl⟩
      rw [← hy] at HT1 hDf
      clear hy
      obtain ⟨x, hx⟩ : ∃ x, x = X f := ⟨_, rfl⟩
      rw [← hx] at HS1 hDf
      have HDf : Hid (D f = timesK 2 x y) := hDf
      clear hx hDf
      go_wp2_with fail
      go_at_call 48
      refine HS1.out.mono ?_
      rintro e w2 ⟨rfl, hb⟩
      have HB2 : Hid (Below w.heap.size w w2) := HB1.out.trans (hb.mono HB1.out.size)
      have HA2 : Hid (Blk w2 w.heap.size 43 #[.int .i64 2, .slice sao sl scap, .slice tao tl tcap, .int .i64 n]) := HA1.out.below hb
      have HR2 : Hid (Blk w2 (w.heap.size + 1) 65 (arrR Z 0)) := HR1.out.below hb
      have HP2 : Hid (Blk w2 (w.heap.size + 1 + 1) 65 (arrR (fun g => if g < f then D g else 0) 0)) := HP1.out.below hb
      clear hb x0 x1 x2 x3
      obtain ⟨x0, x1, x2, x3⟩ := HX.out _ HA2.out
      go_wp2_with fail
      go_at_call 48
      refine (HT1.out _ HB2.out).mono ?_
      rintro e w3 ⟨rfl, hb⟩
      have HB3 : Hid (Below w.heap.size w w3) := HB2.out.trans (hb.mono HB2.out.size)
      have HA3 : Hid (Blk w3 w.heap.size 43 #[.int .i64 2, .slice sao sl scap, .slice tao tl tcap, .int .i64 n]) := HA2.out.below hb
      have HR3 : Hid (Blk w3 (w.heap.size + 1) 65 (arrR Z 0)) := HR2.out.below hb
      have HP3 : Hid (Blk w3 (w.heap.size + 1 + 1) 65 (arrR (fun g => if g < f then D g else 0) 0)) := HP2.out.below hb
      clear hb x0 x1 x2 x3
      obtain ⟨x0, x1, x2, x3⟩ := HX.out _ HA3.out
      have c : w3.cell? ⟨w.heap.size + 1 + 1, f, none⟩ = some (.int .i64 0) := by rw [HP3.out.cell, arrR_get _ _ hlt]; simp
      have z := HP3.out.frozen f
      cases x <;> cases y
      · have HEE := HE.out w3 0 (by rw [HDf.out]; rfl) HP3.out
        have HEH : Hid _ := HEE
        clear HEE
        go_wp2
        go_roundw
        case rel => exact ⟨f + 1, by omega, by go_num, HB3.out.setCell (by show w.heap.size ≤ w.heap.size + 1 + 1; omega) _, HA3.out.far (by omega) _ _, HR3.out.far (by omega) _ _, HEH.out⟩
        case measure => simp [intOf]; omega
      · have HEE := HE.out w3 1 (by rw [HDf.out]; rfl) HP3.out
        have HEH : Hid _ := HEE
        clear HEE
        go_wp2
        go_roundw
        case rel => exact ⟨f + 1, by omega, by go_num, HB3.out.setCell (by show w.heap.size ≤ w.heap.size + 1 + 1; omega) _, HA3.out.far (by omega) _ _, HR3.out.far (by omega) _ _, HEH.out⟩
        case measure => simp [intOf]; omega
      · have HEE := HE.out w3 1 (by rw [HDf.out]; rfl) HP3.out
        have HEH : Hid _ := HEE
        clear HEE
        go_wp2
        go_roundw
        case rel => exact ⟨f + 1, by omega, by go_num, HB3.out.setCell (by show w.heap.size ≤ w.heap.size + 1 + 1; omega) _, HA3.out.far (by omega) _ _, HR3.out.far (by omega) _ _, HEH.out⟩
        case measure => simp [intOf]; omega
      · have HEE := HE.out w3 0 (by rw [HDf.out]; rfl) HP3.out
        have HEH : Hid _ := HEE
        clear HEE
        go_wp2
        go_roundw
        case rel => exact ⟨f + 1, by omega, by go_num, HB3.out.setCell (by show w.heap.size ≤ w.heap.size + 1 + 1; omega) _, HA3.out.far (by omega) _ _, HR3.out.far (by omega) _ _, HEH.out⟩
        case measure => simp [intOf]; omega
    · obtain rfl : f = 8 := by omega
      have HP8 : Hid (Blk wr (w.heap.size + 1 + 1) 65 (arrR D 0)) := by
        have := HP1.out
        unfold Hid
        rw [arrR_same (M := fun g => if g < 8 then D g else 0)]
        · exact this
        · intro g hg; rw [if_pos hg]
      clear HP1
      go_upto_region 35 with fail
      obtain ⟨w6, hw6⟩ : ∃ x, x = wr := ⟨_, rfl⟩
      rw [← hw6] at HB1 HR1 HP8 ⊢
      have HB6 : Hid (Below w.heap.size w w6) := HB1.out
      have HR6 : Hid (Blk w6 (w.heap.size + 1) 65 (arrR Z 0)) := HR1.out
      have HP6 : Hid (Blk w6 (w.heap.size + 1 + 1) 65 (arrR D 0)) := HP8.out
      clear hw6 x0 x1 x2 x3
      clear HB1 HA1 HR1 HP8 HS HT HX HW HK0 HK1 HK2
      cases h with
      | true =>
        have HMD : Hid (arrR D 0 = arrR M p) := by
          unfold Hid
          rw [HP.out]
          exact arrR_same (fun f hf => by rw [HM.out f hf]; rfl) _
        obtain ⟨n0', n1', n2', n3', n4', n5', n6', n7', n8'⟩ := HP6.out.cells9
        obtain ⟨r0, r1, r2, r3, r4, r5, r6, r7, r8⟩ := HR6.out.cells9
        obtain ⟨f0, f1, f2, f3, f4, f5, f6, f7, f8⟩ := HR6.out.frozen9
        go_wp2
        refine bodyPost_ret (v := .agg (arrR D 0)) ?_ rfl ⟨by rw [HMD.out]; rfl, ?_⟩
        · exact results_cell_row rfl _ _ (w.heap.size + 1) 65 (arrR D 0) (0, 0) _ rfl (putR_blk HR6.out D 0) Tryz.underlying65 rfl infoR
        · exact putR_below HB6.out (by omega) _ _
      | false =>
        go_wp2
        go_loopw [10] (fun i wr => ∃ f : Nat, f ≤ 8 ∧ i = .int .i64 f ∧ Below w.heap.size w wr ∧ Blk wr (w.heap.size + 1) 65 (arrR Z 0) ∧ Blk wr (w.heap.size + 1 + 1) 65 (arrR (fun g => if g < f then M g else D g) 0)) (fun i _ => 8 - (intOf i).toNat)
        case atStart => exact ⟨0, Nat.zero_le _, rfl, HB6.out, HR6.out, HP6.out⟩
        case round =>
          obtain ⟨f, hf, rfl, hb, hr, hq⟩ := hrel
          have HB7 : Hid (Below w.heap.size w wr) := hb
          have HR7 : Hid (Blk wr (w.heap.size + 1) 65 (arrR Z 0)) := hr
          have HP7 : Hid (Blk wr (w.heap.size + 1 + 1) 65 (arrR (fun g => if g < f then M g else D g) 0)) := hq
          clear hb hr hq
          by_cases hlt2 : f < 8
          · obtain ⟨x, hx⟩ : ∃ x, x = D f := ⟨_, rfl⟩
            have c : wr.cell? ⟨w.heap.size + 1 + 1, f, none⟩ = some (.int .i64 x) := by rw [HP7.out.cell, arrR_get _ _ hlt2, hx]; simp
            have z := HP7.out.frozen f
            have hxl := HDl.out f hlt2
            rw [← hx] at hxl
            obtain ⟨l0, l1⟩ := hxl
            have HE : Hid (Blk (wr.setCell ⟨w.heap.size + 1 + 1, f, none⟩ (.int .i64 (-x))) (w.heap.size + 1 + 1) 65 (arrR (fun g => if g < f + 1 then M g else D g) 0)) := by
              have := HP7.out.set f (.int .i64 (-x))
              rw [arrR_set _ _ _ hlt2] at this
              unfold Hid
              rw [arrR_same (M := fun g => if g = f then -x else if g < f then M g else D g)]
              · exact this
              · intro g hg
                by_cases e : g = f
                · subst e; rw [if_pos (by omega), if_pos rfl, HM.out g hg, hx]; rfl
                · simp only [if_neg e]
                  by_cases e' : g < f
                  · rw [if_pos (by omega), if_pos e']
                  · rw [if_neg (by omega), if_neg e']
            clear hx
            go_wp2
            go_roundw
            case rel => exact ⟨f + 1, by omega, by go_num, HB7.out.setCell (by show w.heap.size ≤ w.heap.size + 1 + 1; omega) _, HR7.out.far (by omega) _ _, HE.out⟩
            case measure => simp [intOf]; omega
          · obtain rfl : f = 8 := by omega
            have HP8 : Hid (Blk wr (w.heap.size + 1 + 1) 65 (arrR M 0)) := by
              have := HP7.out
              unfold Hid
              rw [arrR_same (M := fun g => if g < 8 then M g else D g)]
              · exact this
              · intro g hg; rw [if_pos hg]
            clear HP7
            have HPp : Hid (p = (-1)) := HP.out
            obtain ⟨n0', n1', n2', n3', n4', n5', n6', n7', n8'⟩ := HP8.out.cells9
            have nz := HP8.out.frozen 8
            obtain ⟨r0, r1, r2, r3, r4, r5, r6, r7, r8⟩ := HR7.out.cells9
            obtain ⟨f0, f1, f2, f3, f4, f5, f6, f7, f8⟩ := HR7.out.frozen9
            go_wp2
            refine bodyPost_ret (v := .agg (arrR M (-1))) ?_ rfl ⟨by rw [HPp.out]; rfl, ?_⟩
            · exact results_cell_row rfl _ _ (w.heap.size + 1) 65 (arrR M (-1)) (0, 0) _ rfl (putR_blk (HR7.out.far (by omega) 8 (.int .i64 (-1))) M (-1)) Tryz.underlying65 rfl infoR
            · exact putR_below (HB7.out.setCell (by show w.heap.size ≤ w.heap.size + 1 + 1; omega) _) (by omega) _ _

set_option maxHeartbeats 8000000 in
theorem refRow_5 (n : Int) (h : Bool) (X Y : Nat → Bool) (M : Nat → Int) (p : Int) (n0 : -20 ≤ n) (n1 : n ≤ 20) (sao tao : Option Addr) (sl scap tl tcap : Nat) (w : World)
    (hM : ∀ f, f < 8 → M f = if h = true then timesK 5 (X f) (Y f) else - timesK 5 (X f) (Y f)) (hp : p = if h = true then n else -(n + 1))
    (HS : Hid (∀ W (f : Nat), Below w.heap.size w W → f < 8 → Calls Tryz.prog 48 #[.slice sao sl scap, .int .i64 f] W fun e w' => e = .returned (.bool (X f)) ∧ Below W.heap.size W w'))
    (HT : Hid (∀ W (f : Nat), Below w.heap.size w W → f < 8 → Calls Tryz.prog 48 #[.slice tao tl tcap, .int .i64 f] W fun e w' => e = .returned (.bool (Y f)) ∧ Below W.heap.size W w'))
    : Calls Tryz.prog 23 #[.agg #[.int .i64 5, .slice sao sl scap, .slice tao tl tcap, .int .i64 n], .bool h] w fun e w' => e = .returned (.agg #[.int .i64 (M 0), .int .i64 (M 1), .int .i64 (M 2), .int .i64 (M 3), .int .i64 (M 4), .int .i64 (M 5), .int .i64 (M 6), .int .i64 (M 7), .int .i64 p]) ∧ Below w.heap.size w w' := by
  obtain ⟨Z, hZ⟩ : ∃ Z : Nat → Int, Z = fun _ => 0 := ⟨_, rfl⟩
  obtain ⟨w1, hw1⟩ : ∃ w1, w1 = ((w.alloc (.cells #[.int .i64 5, .slice sao sl scap, .slice tao tl tcap, .int .i64 n] 43)).alloc (.cells #[.int .i64 0, .int .i64 0, .int .i64 0, .int .i64 0, .int .i64 0, .int .i64 0, .int .i64 0, .int .i64 0, .int .i64 0] 65)).alloc (.cells #[.int .i64 0, .int .i64 0, .int .i64 0, .int .i64 0, .int .i64 0, .int .i64 0, .int .i64 0, .int .i64 0, .int .i64 0] 65) := ⟨_, rfl⟩
  have HW : Hid (Below w.heap.size w w1) := by unfold Hid; rw [hw1]; exact ((below_alloc1 _ _).alloc (by simp) _).alloc (by simp; omega) _
  have HK0 : Hid (Blk w1 w.heap.size 43 #[.int .i64 5, .slice sao sl scap, .slice tao tl tcap, .int .i64 n]) := by unfold Hid; rw [hw1]; exact ((Blk.new _ _ _).old _).old _
  have HK1 : Hid (Blk w1 (w.heap.size + 1) 65 (arrR Z 0)) := by
    unfold Hid; rw [hw1, hZ]
    have := Blk.new (w.alloc (.cells #[.int .i64 5, .slice sao sl scap, .slice tao tl tcap, .int .i64 n] 43)) 65 #[.int .i64 0, .int .i64 0, .int .i64 0, .int .i64 0, .int .i64 0, .int .i64 0, .int .i64 0, .int .i64 0, .int .i64 0]
    simp only [World.size_alloc] at this
    exact this.old _
  have HK2 : Hid (Blk w1 (w.heap.size + 1 + 1) 65 (arrR Z 0)) := by
    unfold Hid; rw [hw1, hZ]
    have := Blk.new ((w.alloc (.cells #[.int .i64 5, .slice sao sl scap, .slice tao tl tcap, .int .i64 n] 43)).alloc (.cells #[.int .i64 0, .int .i64 0, .int .i64 0, .int .i64 0, .int .i64 0, .int .i64 0, .int .i64 0, .int .i64 0, .int .i64 0] 65)) 65 #[.int .i64 0, .int .i64 0, .int .i64 0, .int .i64 0, .int .i64 0, .int .i64 0, .int .i64 0, .int .i64 0, .int .i64 0]
    simp only [World.size_alloc] at this
    exact this
  have HX : Hid (∀ W, Blk W w.heap.size 43 #[.int .i64 5, .slice sao sl scap, .slice tao tl tcap, .int .i64 n] → W.cell? ⟨w.heap.size, 0, none⟩ = some (.int .i64 5) ∧ W.cell? ⟨w.heap.size, 1, none⟩ = some (.slice sao sl scap) ∧ W.cell? ⟨w.heap.size, 2, none⟩ = some (.slice tao tl tcap) ∧ W.cell? ⟨w.heap.size, 3, none⟩ = some (.int .i64 n)) := fun W h => ⟨h.cell 0, h.cell 1, h.cell 2, h.cell 3⟩
  obtain ⟨D, hD⟩ : ∃ D : Nat → Int, D = fun f => timesK 5 (X f) (Y f) := ⟨_, rfl⟩
  have HDl : Hid (∀ f, f < 8 → -2 ≤ D f ∧ D f ≤ 2) := fun f _ => by
    have := timesK_le 5 (X f) (Y f)
    rw [hD]; show -2 ≤ timesK 5 (X f) (Y f) ∧ timesK 5 (X f) (Y f) ≤ 2; omega
  have HM : Hid (∀ f, f < 8 → M f = if h = true then D f else - D f) := fun f hf => by rw [hD]; exact hM f hf
  have HP : Hid (p = if h = true then n else -(n + 1)) := hp
  have HD : Hid (∀ f, D f = timesK 5 (X f) (Y f)) := fun f => by rw [hD]
  have HZ : Hid (Z = fun _ => 0) := hZ
  clear hM hp hD hZ
  go_enter Tryz.func23, Tryz.ntmps23
  go_wp2
  rw [← hw1]
  clear hw1
  go_loopw [6] (fun i wr => ∃ f : Nat, f ≤ 8 ∧ i = .int .i64 f ∧ Below w.heap.size w wr ∧ Blk wr w.heap.size 43 #[.int .i64 5, .slice sao sl scap, .slice tao tl tcap, .int .i64 n] ∧ Blk wr (w.heap.size + 1) 65 (arrR Z 0) ∧ Blk wr (w.heap.size + 1 + 1) 65 (arrR (fun g => if g < f then D g else 0) 0)) (fun i _ => 8 - (intOf i).toNat)
  case atStart => exact ⟨0, Nat.zero_le _, rfl, HW.out, HK0.out, HK1.out, by have := HK2.out; rw [HZ.out] at this; exact this⟩
  case round =>
    obtain ⟨f, hf, rfl, hb, ha, hr, hq⟩ := hrel
    have HB1 : Hid (Below w.heap.size w wr) := hb
    have HA1 : Hid (Blk wr w.heap.size 43 #[.int .i64 5, .slice sao sl scap, .slice tao tl tcap, .int .i64 n]) := ha
    have HR1 : Hid (Blk wr (w.heap.size + 1) 65 (arrR Z 0)) := hr
    have HP1 : Hid (Blk wr (w.heap.size + 1 + 1) 65 (arrR (fun g => if g < f then D g else 0) 0)) := hq
    clear hb ha hr hq
    obtain ⟨x0, x1, x2, x3⟩ := HX.out _ HA1.out
    by_cases hlt : f < 8
    · have hDf : D f = timesK 5 (X f) (Y f) := HD.out f
      have HE : Hid (∀ W d, d = D f → Blk W (w.heap.size + 1 + 1) 65 (arrR (fun g => if g < f then D g else 0) 0) → Blk (W.setCell ⟨w.heap.size + 1 + 1, f, none⟩ (.int .i64 d)) (w.heap.size + 1 + 1) 65 (arrR (fun g => if g < f + 1 then D g else 0) 0)) := fun W d hd hW => by
        have := hW.set f (.int .i64 d)
        rw [arrR_set _ _ _ hlt] at this
        rw [arrR_same (M := fun g => if g = f then d else if g < f then D g else 0)]
        · exact this
        · intro g hg
          by_cases e : g = f
          · subst e; rw [if_pos (by omega), if_pos rfl, hd]
          · simp only [if_neg e]
            by_cases e' : g < f
            · rw [if_pos (by omega), if_pos e']
            · rw [if_neg (by omega), if_neg e']
      have HS1 : Hid (Calls Tryz.prog 48 #[.slice sao sl scap, .int .i64 f] wr fun e w' => e = .returned (.bool (X f)) ∧ Below wr.heap.size wr w') := HS.out wr f HB1.out hlt
      have HT1 : Hid (∀ W, Below w.heap.size w W → Calls Tryz.prog 48 #[.slice tao tl tcap, .int .i64 f] W fun e w' => e = .returned (.bool (Y f)) ∧ Below W.heap.size W w') := fun W hW => HT.out W f hW hlt
      obtain ⟨y, hy⟩ : ∃ y, y = Y f := ⟨_, rfl⟩
      rw [← hy] at HT1 hDf
      clear hy
      obtain ⟨x, hx⟩ : ∃ x, x = X f := ⟨_, rfl⟩
      rw [← hx] at HS1 hDf
      have HDf : Hid (D f = timesK 5 x y) := hDf
      clear hx hDf
      go_wp2_with fail
      go_at_call 48
      refine HS1.out.mono ?_
      rintro e w2 ⟨rfl, hb⟩
      have HB2 : Hid (Below w.heap.size w w2) := HB1.out.trans (hb.mono HB1.out.size)
      have HA2 : Hid (Blk w2 w.heap.size 43 #[.int .i64 5, .slice sao sl scap, .slice tao tl tcap, .int .i64 n]) := HA1.out.below hb
      have HR2 : Hid (Blk w2 (w.heap.size + 1) 65 (arrR Z 0)) := HR1.out.below hb
      have HP2 : Hid (Blk w2 (w.heap.size + 1 + 1) 65 (arrR (fun g => if g < f then D g else 0) 0)) := HP1.out.below hb
      clear hb x0 x1 x2 x3
      obtain ⟨x0, x1, x2, x3⟩ := HX.out _ HA2.out
      go_wp2_with fail
      go_at_call 48
      refine (HT1.out _ HB2.out).mono ?_
      rintro e w3 ⟨rfl, hb⟩
      have HB3 : Hid (Below w.heap.size w w3) := HB2.out.trans (hb.mono HB2.out.size)
      have HA3 : Hid (Blk w3 w.heap.size 43 #[.int .i64 5, .slice sao sl scap, .slice tao tl tcap, .int .i64 n]) := HA2.out.below hb
      have HR3 : Hid (Blk w3 (w.heap.size + 1) 65 (arrR Z 0)) := HR2.out.below hb
      have HP3 : Hid (Blk w3 (w.heap.size + 1 + 1) 65 (arrR (fun g => if g < f then D g else 0) 0)) := HP2.out.below hb
      clear hb x0 x1 x2 x3
      obtain ⟨x0, x1, x2, x3⟩ := HX.out _ HA3.out
      have c : w3.cell? ⟨w.heap.size + 1 + 1, f, none⟩ = some (.int .i64 0) := by rw [HP3.out.cell, arrR_get _ _ hlt]; simp
      have z := HP3.out.frozen f
      cases x <;> cases y
      · have HEE := HE.out w3 0 (by rw [HDf.out]; rfl) HP3.out
        have HEH : Hid _ := HEE
        clear HEE
        go_wp2
        go_roundw
        case rel => exact ⟨f + 1, by omega, by go_num, HB3.out.setCell (by show w.heap.size ≤ w.heap.size + 1 + 1; omega) _, HA3.out.far (by omega) _ _, HR3.out.far (by omega) _ _, HEH.out⟩
        case measure => simp [intOf]; omega
      · have HEE := HE.out w3 (-1) (by rw [HDf.out]; rfl) HP3.out
        have HEH : Hid _ := HEE
        clear HEE
        go_wp2
        go_roundw
        case rel => exact ⟨f + 1, by omega, by go_num, HB3.out.setCell (by show w.heap.size ≤ w.heap.size + 1 + 1; omega) _, HA3.out.far (by omega) _ _, HR3.out.far (by omega) _ _, HEH.out⟩
        case measure => simp [intOf]; omega
      · have HEE := HE.out w3 1 (by rw [HDf.out]; rfl) HP3.out
        have HEH : Hid _ := HEE
        clear HEE
        go_wp2
        go_roundw
        case rel => exact ⟨f + 1, by omega, by go_num, HB3.out.setCell (by show w.heap.size ≤ w.heap.size + 1 + 1; omega) _, HA3.out.far (by omega) _ _, HR3.out.far (by omega) _ _, HEH.out⟩
        case measure => simp [intOf]; omega
      · have HEE := HE.out w3 0 (by rw [HDf.out]; rfl) HP3.out
        have HEH : Hid _ := HEE
        clear HEE
        go_wp2
        go_roundw
        case rel => exact ⟨f + 1, by omega, by go_num, HB3.out.setCell (by show w.heap.size ≤ w.heap.size + 1 + 1; omega) _, HA3.out.far (by omega) _ _, HR3.out.far (by omega) _ _, HEH.out⟩
        case measure => simp [intOf]; omega
    · obtain rfl : f = 8 := by omega
      have HP8 : Hid (Blk wr (w.heap.size + 1 + 1) 65 (arrR D 0)) := by
        have := HP1.out
        unfold Hid
        rw [arrR_same (M := fun g => if g < 8 then D g else 0)]
        · exact this
        · intro g hg; rw [if_pos hg]
      clear HP1
      have q0 : wr.cell? ⟨w.heap.size + 1 + 1, 8, none⟩ = some (.int .i64 0) := HP8.out.cell 8
      have q1 := HP8.out.frozen 8
      obtain ⟨w6, hw6⟩ : ∃ x, x = wr.setCell ⟨w.heap.size + 1 + 1, 8, none⟩ (.int .i64 n) := ⟨_, rfl⟩
      have HB6 : Hid (Below w.heap.size w w6) := by unfold Hid; rw [hw6]; exact HB1.out.setCell (by show w.heap.size ≤ w.heap.size + 1 + 1; omega) _
      have HR6 : Hid (Blk w6 (w.heap.size + 1) 65 (arrR Z 0)) := by unfold Hid; rw [hw6]; exact HR1.out.far (by omega) _ _
      have HP6 : Hid (Blk w6 (w.heap.size + 1 + 1) 65 (arrR D n)) := by
        unfold Hid; rw [hw6]
        have := HP8.out.set 8 (.int .i64 n)
        rw [arrR_most] at this
        exact this
      go_upto_region 35 with fail
      rw [← hw6]
      clear hw6 q0 q1 x0 x1 x2 x3
      clear HB1 HA1 HR1 HP8 HS HT HX HW HK0 HK1 HK2
      cases h with
      | true =>
        have HMD : Hid (arrR D n = arrR M p) := by
          unfold Hid
          rw [HP.out]
          exact arrR_same (fun f hf => by rw [HM.out f hf]; rfl) _
        obtain ⟨n0', n1', n2', n3', n4', n5', n6', n7', n8'⟩ := HP6.out.cells9
        obtain ⟨r0, r1, r2, r3, r4, r5, r6, r7, r8⟩ := HR6.out.cells9
        obtain ⟨f0, f1, f2, f3, f4, f5, f6, f7, f8⟩ := HR6.out.frozen9
        go_wp2
        refine bodyPost_ret (v := .agg (arrR D n)) ?_ rfl ⟨by rw [HMD.out]; rfl, ?_⟩
        · exact results_cell_row rfl _ _ (w.heap.size + 1) 65 (arrR D n) (0, 0) _ rfl (putR_blk HR6.out D n) Tryz.underlying65 rfl infoR
        · exact putR_below HB6.out (by omega) _ _
      | false =>
        go_wp2
        go_loopw [10] (fun i wr => ∃ f : Nat, f ≤ 8 ∧ i = .int .i64 f ∧ Below w.heap.size w wr ∧ Blk wr (w.heap.size + 1) 65 (arrR Z 0) ∧ Blk wr (w.heap.size + 1 + 1) 65 (arrR (fun g => if g < f then M g else D g) n)) (fun i _ => 8 - (intOf i).toNat)
        case atStart => exact ⟨0, Nat.zero_le _, rfl, HB6.out, HR6.out, HP6.out⟩
        case round =>
          obtain ⟨f, hf, rfl, hb, hr, hq⟩ := hrel
          have HB7 : Hid (Below w.heap.size w wr) := hb
          have HR7 : Hid (Blk wr (w.heap.size + 1) 65 (arrR Z 0)) := hr
          have HP7 : Hid (Blk wr (w.heap.size + 1 + 1) 65 (arrR (fun g => if g < f then M g else D g) n)) := hq
          clear hb hr hq
          by_cases hlt2 : f < 8
          · obtain ⟨x, hx⟩ : ∃ x, x = D f := ⟨_, rfl⟩
            have c : wr.cell? ⟨w.heap.size + 1 + 1, f, none⟩ = some (.int .i64 x) := by rw [HP7.out.cell, arrR_get _ _ hlt2, hx]; simp
            have z := HP7.out.frozen f
            have hxl := HDl.out f hlt2
            rw [← hx] at hxl
            obtain ⟨l0, l1⟩ := hxl
            have HE : Hid (Blk (wr.setCell ⟨w.heap.size + 1 + 1, f, none⟩ (.int .i64 (-x))) (w.heap.size + 1 + 1) 65 (arrR (fun g => if g < f + 1 then M g else D g) n)) := by
              have := HP7.out.set f (.int .i64 (-x))
              rw [arrR_set _ _ _ hlt2] at this
              unfold Hid
              rw [arrR_same (M := fun g => if g = f then -x else if g < f then M g else D g)]
              · exact this
              · intro g hg
                by_cases e : g = f
                · subst e; rw [if_pos (by omega), if_pos rfl, HM.out g hg, hx]; rfl
                · simp only [if_neg e]
                  by_cases e' : g < f
                  · rw [if_pos (by omega), if_pos e']
                  · rw [if_neg (by omega), if_neg e']
            clear hx
            go_wp2
            go_roundw
            case rel => exact ⟨f + 1, by omega, by go_num, HB7.out.setCell (by show w.heap.size ≤ w.heap.size + 1 + 1; omega) _, HR7.out.far (by omega) _ _, HE.out⟩
            case measure => simp [intOf]; omega
          · obtain rfl : f = 8 := by omega
            have HP8 : Hid (Blk wr (w.heap.size + 1 + 1) 65 (arrR M n)) := by
              have := HP7.out
              unfold Hid
              rw [arrR_same (M := fun g => if g < 8 then M g else D g)]
              · exact this
              · intro g hg; rw [if_pos hg]
            clear HP7
            have HPp : Hid (p = (-(n + 1))) := HP.out
            obtain ⟨n0', n1', n2', n3', n4', n5', n6', n7', n8'⟩ := HP8.out.cells9
            have nz := HP8.out.frozen 8
            obtain ⟨r0, r1, r2, r3, r4, r5, r6, r7, r8⟩ := HR7.out.cells9
            obtain ⟨f0, f1, f2, f3, f4, f5, f6, f7, f8⟩ := HR7.out.frozen9
            go_wp2
            refine bodyPost_ret (v := .agg (arrR M (-(n + 1)))) ?_ rfl ⟨by rw [HPp.out]; rfl, ?_⟩
            · exact results_cell_row rfl _ _ (w.heap.size + 1) 65 (arrR M (-(n + 1))) (0, 0) _ rfl (putR_blk (HR7.out.far (by omega) 8 (.int .i64 (-(n + 1)))) M (-(n + 1))) Tryz.underlying65 rfl infoR
            · exact putR_below (HB7.out.setCell (by show w.heap.size ≤ w.heap.size + 1 + 1; omega) _) (by omega) _ _
end Go.Proofs.YtedgbohobgnedaeGreatDoor
