/-
  Proved: vennlaw3.LogStops returns true, of any three numbers, where package log answers as chapter 19 says; what was in memory is as it was (the walk that the statement leans on).
-/
import Derived.Test.YtjmeakkmfeoigaaGreatDoorLibA5
import Derived.Test.YtjmeakkmfeoigaaGreatDoorLibA6
import Derived.Deep.CutRange
namespace Go.Proofs.YtjmeakkmfeoigaaGreatDoor
open Go.ChangeShapes Go.WideShapes Go.ChangeAt Go.RowKit
set_option maxRecDepth 100000

/-- a log, and the atom that is said, with its row. -/
structure LSt (w : World) (Rep : Addr → Lg → (Nat → Prop) → World → Prop) (p : Addr) (G : Nat) (l : Lg) (S : Nat → Prop) (W : World) : Prop where
  bel : Below w.heap.size w W
  rep : Rep p l S W
  row : Blk W G 3 #[.int .i64 1]
  atm : Blk W (G + 1) 29 #[.int .i64 4, .slice (some ⟨G, 0, none⟩) 1 1, .slice none 0 0, .int .i64 1]
  off0 : ¬ S G
  off1 : ¬ S (G + 1)
  ge : ∀ b, S b → w.heap.size ≤ b
theorem LSt.step {w : World} {Rep : Addr → Lg → (Nat → Prop) → World → Prop} (hok : LogOk w Rep) {p : Addr} {G : Nat} {l : Lg} {S : Nat → Prop} {W W' : World} (h : LSt w Rep p G l S W) (hb : Below W.heap.size W W') : LSt w Rep p G l S W' :=
  ⟨h.bel.trans (hb.mono h.bel.size), hok.step h.rep hb, h.row.below hb, h.atm.below hb, h.off0, h.off1, h.ge⟩
theorem LSt.move {w : World} {Rep : Addr → Lg → (Nat → Prop) → World → Prop} {p : Addr} {G : Nat} {l l' : Lg} {S S' : Nat → Prop} {W W' : World} (h : LSt w Rep p G l S W) (hr : Rep p l' S' W') (hk : LKeep S W W') (hg : Grows S S' W) : LSt w Rep p G l' S' W' :=
  ⟨h.bel.trans (hk.below h.ge h.bel.size), hr, hk.blk h.row h.off0, hk.blk h.atm h.off1, hg.off h.off0 h.row.lt, hg.off h.off1 h.atm.lt, hg.ge h.ge h.bel.size⟩
theorem LSt.reads {w : World} {Rep : Addr → Lg → (Nat → Prop) → World → Prop} {p : Addr} {G : Nat} {l : Lg} {S : Nat → Prop} {W : World} (h : LSt w Rep p G l S W) : Reads W (.slice (some ⟨G, 0, none⟩) 1 1) [1] :=
  Or.inr ⟨G, 0, 1, rfl, h.row.lt, by simp, ⟨by simp, by simp⟩, fun k hk => by
    obtain rfl : k = 0 := by simp at hk; exact hk
    exact h.row.cell 0⟩

set_option maxHeartbeats 8000000 in
theorem logStops_out (after many keep : Int) (h : ¬ ((0 ≤ after ∧ after ≤ 5) ∧ 0 ≤ many ∧ many ≤ 5)) (w : World)
    (HNew : Hid (Calls Tryz.prog 7 #[.int .i64 1] w fun e w' => ∃ p, e = .returned (.tuple #[.pointer (some p), .nilIface]) ∧ Below w.heap.size w w')) :
    Calls Tryz.prog 3 #[.int .i64 after, .int .i64 many, .int .i64 keep] w fun e w' => e = .returned (.bool true) ∧ Below w.heap.size w w' := by
  have HU : Hid (after < 0 ∨ (¬ after < 0 ∧ 5 < after) ∨ ((¬ after < 0 ∧ ¬ 5 < after) ∧ many < 0) ∨ ((¬ after < 0 ∧ ¬ 5 < after) ∧ ¬ many < 0 ∧ 5 < many)) := by unfold Hid; omega
  clear h
  go_enter Tryz.func3, Tryz.ntmps3
  go_wp2_with fail
  go_at_call 7
  refine HNew.out.mono ?_
  rintro e w2 ⟨p, rfl, hb⟩
  have HB2 : Hid (Below w.heap.size w w2) := hb
  clear hb
  rcases HU.out with h | ⟨h1, h⟩ | ⟨⟨h1, h2⟩, h⟩ | ⟨⟨h1, h2⟩, h3, h⟩
  all_goals
    go_wp2
    go_ret
    exact ⟨rfl, HB2.out⟩

set_option maxHeartbeats 32000000 in
theorem logStops_in (a m : Nat) (ha : a ≤ 5) (hm : m ≤ 5) (keep : Int) (w : World) (Rep : Addr → Lg → (Nat → Prop) → World → Prop) (hok : LogOk w Rep) (hK : ∀ W va vc, Below w.heap.size w W → ReadsA W va [stopC] → Reads W vc [0] → Calls Tryz.prog 14 #[.agg #[va, vc]] W fun e w' => e = .returned .nilIface ∧ Below W.heap.size W w')
    (HEn : Hid (∀ n W, Calls Tryz.prog 10 #[.nilIface, .int .i64 n] W fun e w' => e = .returned (.bool (0 == n)) ∧ W = w'))
    (HEr : Hid (∀ k n W, Below w.heap.size w W → Calls Tryz.prog 10 #[.iface 64 (.int .i64 k), .int .i64 n] W fun e w' => e = .returned (.bool (k == n)) ∧ Below W.heap.size W w')) :
    Calls Tryz.prog 3 #[.int .i64 a, .int .i64 m, .int .i64 keep] w fun e w' => e = .returned (.bool true) ∧ Below w.heap.size w w' := by
  have Hok : Hid (LogOk w Rep) := hok
  have HCk : Hid (∀ W va vc, Below w.heap.size w W → ReadsA W va [stopC] → Reads W vc [0] → Calls Tryz.prog 14 #[.agg #[va, vc]] W fun e w' => e = .returned .nilIface ∧ Below W.heap.size W w') := hK
  have HNew : Hid (Calls Tryz.prog 7 #[.int .i64 1] w fun e w' => ∃ p S, e = .returned (.tuple #[.pointer (some p), .nilIface]) ∧ Rep p (lg0 1) S w' ∧ (∀ b, S b → w.heap.size ≤ b) ∧ Below w.heap.size w w') := hok.new 1 w (Below.refl _ _) ⟨by decide, by decide⟩
  have HSayA : Hid (∀ p G l S W, LSt w Rep p G l S W → Calls Tryz.prog 9 #[.pointer (some p), .agg #[.int .i64 4, .slice (some ⟨G, 0, none⟩) 1 1, .slice none 0 0, .int .i64 1], .bool true] W fun e w' => ∃ n S', e = .returned (errV (l.sayE stopA true)) ∧ LSt w Rep p G (l.say stopA true n) S' w') := fun p G l S W h =>
    (hok.say p l S W stopA true _ _ h.bel h.rep h.reads (Or.inl ⟨none, 0, rfl, rfl⟩)).mono fun e w' ⟨n, S', _, h1, h2, h3, h4⟩ => ⟨n, S', h1, h.move h2 h3 h4⟩
  have HSayZ : Hid (∀ p G l S W, LSt w Rep p G l S W → Calls Tryz.prog 9 #[.pointer (some p), .agg #[.int .i64 0, .slice none 0 0, .slice none 0 0, .int .i64 0], .bool true] W fun e w' => ∃ n S', e = .returned (errV (l.sayE stopZ true)) ∧ LSt w Rep p G (l.say stopZ true n) S' w') := fun p G l S W h =>
    (hok.say p l S W stopZ true _ _ h.bel h.rep (Or.inl ⟨none, 0, rfl, rfl⟩) (Or.inl ⟨none, 0, rfl, rfl⟩)).mono fun e w' ⟨n, S', _, h1, h2, h3, h4⟩ => ⟨n, S', h1, h.move h2 h3 h4⟩
  have HSayC : Hid (∀ p G l S W vs, LSt w Rep p G l S W → Reads W vs [2] → Calls Tryz.prog 9 #[.pointer (some p), .agg #[.int .i64 4, vs, .slice none 0 0, .int .i64 1], .bool true] W fun e w' => ∃ n S', e = .returned (errV (l.sayE stopC true)) ∧ LSt w Rep p G (l.say stopC true n) S' w') := fun p G l S W vs h hv =>
    (hok.say p l S W stopC true _ _ h.bel h.rep hv (Or.inl ⟨none, 0, rfl, rfl⟩)).mono fun e w' ⟨n, S', _, h1, h2, h3, h4⟩ => ⟨n, S', h1, h.move h2 h3 h4⟩
  have HSy : Hid (∀ p G l S W, LSt w Rep p G l S W → Calls Tryz.prog 11 #[.pointer (some p)] W fun e w' => ∃ S', e = .returned (errV l.syncE) ∧ LSt w Rep p G l.sync S' w') := fun p G l S W h =>
    (hok.sync p l S W h.bel h.rep).mono fun e w' ⟨S', h1, h2, h3, h4⟩ => ⟨S', h1, h.move h2 h3 h4⟩
  have HFa : Hid (∀ p G l S W n, LSt w Rep p G l S W → Calls Tryz.prog 8 #[.pointer (some p), .int .i64 n] W fun e w' => (∃ v, e = .returned v) ∧ ∃ S', LSt w Rep p G (l.fail n) S' w') := fun p G l S W n h =>
    (hok.fail p l S W n h.bel h.rep).mono fun e w' ⟨S', h1, h2, h3, h4⟩ => ⟨h1, S', h.move h2 h3 h4⟩
  have HCr : Hid (∀ p G l S W n, LSt w Rep p G l S W → Calls Tryz.prog 12 #[.pointer (some p), .int .i64 n] W fun e w' => (∃ v, e = .returned v) ∧ ∃ S', LSt w Rep p G (l.crash n) S' w') := fun p G l S W n h =>
    (hok.crash p l S W n h.bel h.rep).mono fun e w' ⟨S', h1, h2, h3, h4⟩ => ⟨h1, S', h.move h2 h3 h4⟩
  have HAl : Hid (∀ p G l S W, LSt w Rep p G l S W → Calls Tryz.prog 13 #[.pointer (some p)] W fun e w' => ∃ v, e = .returned v ∧ ReadsF w' v l.fs ∧ LSt w Rep p G l S w') := fun p G l S W h =>
    (hok.all p l S W h.bel h.rep).mono fun e w' ⟨v, h1, h2, _, h4⟩ => ⟨v, h1, h2, h.step hok h4⟩
  have HBy : Hid (∀ p G l S W, LSt w Rep p G l S W → Calls Tryz.prog 16 #[.pointer (some p)] W fun e w' => e = .returned (.int .i64 l.bytes) ∧ LSt w Rep p G l S w') := fun p G l S W h =>
    (hok.bytes p l S W h.bel h.rep).mono fun e w' ⟨h1, _, h4⟩ => ⟨h1, h.step hok h4⟩
  have HSf : Hid (∀ p G l S W, LSt w Rep p G l S W → Calls Tryz.prog 15 #[.pointer (some p)] W fun e w' => e = .returned (.int .i64 l.safe) ∧ LSt w Rep p G l S w') := fun p G l S W h =>
    (hok.safe p l S W h.bel h.rep).mono fun e w' ⟨h1, _, h4⟩ => ⟨h1, h.step hok h4⟩
  clear hok hK
  have g1 : ¬ (a : Int) < 0 := by omega
  have g2 : ¬ (5 : Int) < (a : Int) := by omega
  have g3 : ¬ (m : Int) < 0 := by omega
  have g4 : ¬ (5 : Int) < (m : Int) := by omega
  go_enter Tryz.func3, Tryz.ntmps3
  go_wp2_with fail
  go_at_call 7
  refine HNew.out.mono ?_
  rintro e w2 ⟨p, S2, rfl, hr, hge, hb⟩
  obtain ⟨w3, hw3⟩ : ∃ x, x = (w2.alloc (.cells #[.int .i64 1] 3)).alloc (.cells #[.int .i64 4, .slice (some ⟨w2.heap.size, 0, none⟩) 1 1, .slice none 0 0, .int .i64 1] 29) := ⟨_, rfl⟩
  obtain ⟨G, hG⟩ : ∃ G, G = w2.heap.size := ⟨_, rfl⟩
  have hb3 : Below w2.heap.size w2 w3 := by rw [hw3]; exact (below_alloc1 _ _).alloc (by simp) _
  have HL3 : Hid (LSt w Rep p G (lg0 1) S2 w3) := by
    refine ⟨hb.trans (hb3.mono hb.size), Hok.out.step hr hb3, ?_, ?_, fun hs => ?_, fun hs => ?_, hge⟩
    · rw [hw3, hG]; exact (Blk.new _ _ _).old _
    · rw [hw3, hG]
      have := Blk.new (w2.alloc (.cells #[.int .i64 1] 3)) 29 #[.int .i64 4, .slice (some ⟨w2.heap.size, 0, none⟩) 1 1, .slice none 0 0, .int .i64 1]
      rw [World.size_alloc] at this
      exact this
    · have := Hok.out.lt _ _ _ _ hr _ hs; omega
    · have := Hok.out.lt _ _ _ _ hr _ hs; omega
  clear hr hge hb hb3
  go_upto_region 5 with fail
  rw [← hG] at hw3
  rw [← hG, ← hw3]
  clear hw3 hG g1 g2 g3 g4
  go_wp2_with fail
  go_at_call 8
  refine (HFa.out _ _ _ _ _ _ HL3.out).mono ?_
  rintro e w4 ⟨⟨v, rfl⟩, S4, h4⟩
  have HL4 : Hid (LSt w Rep p G ((lg0 1).fail a) S4 w4) := h4
  clear h4
  go_wp2
  go_loopw [10, 11] (fun st i wr => ∃ k : Nat, k ≤ m ∧ st = .int .i64 k ∧ i = .int .i64 k ∧ ∃ l S, StA a (min k a) k l ∧ LSt w Rep p G l S wr) (fun _ i _ => m - (intOf i).toNat)
  case atStart => exact ⟨0, Nat.zero_le _, rfl, rfl, _, _, by rw [Nat.zero_min]; exact st_start ha, HL4.out⟩
  case round =>
    obtain ⟨k, hk, rfl, rfl, l, S, hst, hls⟩ := hrel
    have HL : Hid (LSt w Rep p G l S wr) := hls
    have HSt : Hid (StA a (min k a) k l) := hst
    clear hls hst
    by_cases hlt : k < m
    · have hltz : (k : Int) < (m : Int) := by omega
      obtain ⟨z1, z2, z3⟩ := st_bad HSt.out
      obtain ⟨q1, q2⟩ := st_say HSt.out (by omega) ha
      have HZ1 : Hid (k ≤ a → l.sayE stopZ true = 1) := z1
      have HZ2 : Hid (a < k → l.sayE stopZ true = 6) := z2
      have HZ3 : Hid (∀ n, l.say stopZ true n = l) := z3
      have HQ1 : Hid (k < a → l.sayE stopA true = 0 ∧ ∀ n, StA a (min k a + 1) (k + 1) (l.say stopA true n)) := q1
      have HQ2 : Hid (a ≤ k → l.sayE stopA true = 6 ∧ ∀ n, StA a (min k a) (k + 1) (l.say stopA true n)) := q2
      clear z1 z2 z3 q1 q2
      go_wp2_with fail
      go_at_call 9
      refine (HSayZ.out _ _ _ _ _ HL.out).mono ?_
      rintro e w5 ⟨n5, S5, rfl, h5⟩
      rw [HZ3.out] at h5
      have HL5 : Hid (LSt w Rep p G l S5 w5) := h5
      clear h5
      have b0 : w5.cell? ⟨G + 1, 0, none⟩ = some (.int .i64 4) := HL5.out.atm.cell 0
      have b1 : w5.cell? ⟨G + 1, 1, none⟩ = some (.slice (some ⟨G, 0, none⟩) 1 1) := HL5.out.atm.cell 1
      have b2 : w5.cell? ⟨G + 1, 2, none⟩ = some (.slice none 0 0) := HL5.out.atm.cell 2
      have b3 : w5.cell? ⟨G + 1, 3, none⟩ = some (.int .i64 1) := HL5.out.atm.cell 3
      rcases Nat.lt_trichotomy k a with hc | hc | hc
      · have ez : l.sayE stopZ true = 1 := HZ1.out (by omega)
        obtain ⟨ea, es⟩ := HQ1.out hc
        have ez2 : errV (l.sayE stopZ true) = .iface 64 (.int .i64 1) := by rw [ez]; rfl
        rw [ez2]
        have HSn : Hid (∀ n, StA a (min (k + 1) a) (k + 1) (l.say stopA true n)) := fun n => by
          have h := es n
          rw [show min k a + 1 = min (k + 1) a by omega] at h
          exact h
        have HSy' : Hid (Calls Tryz.prog 9 #[.pointer (some p), .agg #[.int .i64 4, .slice (some ⟨G, 0, none⟩) 1 1, .slice none 0 0, .int .i64 1], .bool true] w5 fun e w' => ∃ n S', e = .returned .nilIface ∧ LSt w Rep p G (l.say stopA true n) S' w') := by
          have h := HSayA.out _ _ _ _ _ HL5.out
          rw [ea] at h
          exact h
        clear ez ea es ez2
        have c1 : ¬ (a : Int) < (k : Int) := by omega
        have c2 : (k : Int) ≤ (a : Int) := by omega
        have c3 : ((k : Int) == (a : Int)) = false := by simp; omega
        have c4 : (k : Int) < (a : Int) := by omega
        go_wp2_with fail
        go_at_call 9
        refine HSy'.out.mono ?_
        rintro e w6 ⟨n6, S6, rfl, h6⟩
        have HL6 : Hid (LSt w Rep p G (l.say stopA true n6) S6 w6) := h6
        clear h6 b0 b1 b2 b3
        go_wp2_with fail
        go_at_call 10
        refine (HEr.out 1 6 _ HL6.out.bel).mono ?_
        rintro e w7 ⟨rfl, hb⟩
        have HL7 : Hid (LSt w Rep p G (l.say stopA true n6) S6 w7) := HL6.out.step Hok.out hb
        clear hb
        have eb6 : ((1 : Int) == 6) = false := by decide
        rw [eb6]
        clear eb6
        go_wp2_with fail
        go_at_call 10
        refine (HEr.out 1 1 _ HL7.out.bel).mono ?_
        rintro e w8 ⟨rfl, hb⟩
        have HL8 : Hid (LSt w Rep p G (l.say stopA true n6) S6 w8) := HL7.out.step Hok.out hb
        clear hb
        have eb7 : ((1 : Int) == 1) = true := by decide
        rw [eb7]
        clear eb7
        go_wp2_with fail
        go_at_call 10
        refine (HEn.out 6 _).mono ?_
        rintro e w9 ⟨rfl, rfl⟩
        have eb : ((0 : Int) == 6) = false := by decide
        rw [eb]
        clear eb
        go_wp2
        go_roundw
        case rel => exact ⟨k + 1, by omega, by go_num, by go_num, _, _, HSn.out n6, HL8.out⟩
        case measure => first | (simp [intOf]; done) | (simp [intOf]; omega)
      · subst hc
        have ez : l.sayE stopZ true = 1 := HZ1.out (Nat.le_refl _)
        obtain ⟨ea, es⟩ := HQ2.out (Nat.le_refl _)
        have ez2 : errV (l.sayE stopZ true) = .iface 64 (.int .i64 1) := by rw [ez]; rfl
        rw [ez2]
        have HSn : Hid (∀ n, StA k (min (k + 1) k) (k + 1) (l.say stopA true n)) := fun n => by
          have h := es n
          rw [show min k k = min (k + 1) k by omega] at h
          exact h
        have HSy' : Hid (Calls Tryz.prog 9 #[.pointer (some p), .agg #[.int .i64 4, .slice (some ⟨G, 0, none⟩) 1 1, .slice none 0 0, .int .i64 1], .bool true] w5 fun e w' => ∃ n S', e = .returned (.iface 64 (.int .i64 6)) ∧ LSt w Rep p G (l.say stopA true n) S' w') := by
          have h := HSayA.out _ _ _ _ _ HL5.out
          rw [ea] at h
          exact h
        clear ez ea es ez2
        have c1 : ¬ (k : Int) < (k : Int) := by omega
        have c2 : (k : Int) ≤ (k : Int) := by omega
        go_wp2_with fail
        go_at_call 9
        refine HSy'.out.mono ?_
        rintro e w6 ⟨n6, S6, rfl, h6⟩
        have HL6 : Hid (LSt w Rep p G (l.say stopA true n6) S6 w6) := h6
        clear h6 b0 b1 b2 b3
        go_wp2_with fail
        go_at_call 10
        refine (HEr.out 1 6 _ HL6.out.bel).mono ?_
        rintro e w7 ⟨rfl, hb⟩
        have HL7 : Hid (LSt w Rep p G (l.say stopA true n6) S6 w7) := HL6.out.step Hok.out hb
        clear hb
        have eb6 : ((1 : Int) == 6) = false := by decide
        rw [eb6]
        clear eb6
        go_wp2_with fail
        go_at_call 10
        refine (HEr.out 1 1 _ HL7.out.bel).mono ?_
        rintro e w8 ⟨rfl, hb⟩
        have HL8 : Hid (LSt w Rep p G (l.say stopA true n6) S6 w8) := HL7.out.step Hok.out hb
        clear hb
        have eb7 : ((1 : Int) == 1) = true := by decide
        rw [eb7]
        clear eb7
        go_wp2_with fail
        go_at_call 10
        refine (HEr.out 6 6 _ HL8.out.bel).mono ?_
        rintro e w9 ⟨rfl, hb⟩
        have HL9 : Hid (LSt w Rep p G (l.say stopA true n6) S6 w9) := HL8.out.step Hok.out hb
        clear hb
        have eb8 : ((6 : Int) == 6) = true := by decide
        rw [eb8]
        clear eb8
        go_wp2
        go_roundw
        case rel => exact ⟨k + 1, by omega, by go_num, by go_num, _, _, HSn.out n6, HL9.out⟩
        case measure => first | (simp [intOf]; done) | (simp [intOf]; omega)
      · have ez : l.sayE stopZ true = 6 := HZ2.out hc
        obtain ⟨ea, es⟩ := HQ2.out (by omega)
        have ez2 : errV (l.sayE stopZ true) = .iface 64 (.int .i64 6) := by rw [ez]; rfl
        rw [ez2]
        have HSn : Hid (∀ n, StA a (min (k + 1) a) (k + 1) (l.say stopA true n)) := fun n => by
          have h := es n
          rw [show min k a = min (k + 1) a by omega] at h
          exact h
        have HSy' : Hid (Calls Tryz.prog 9 #[.pointer (some p), .agg #[.int .i64 4, .slice (some ⟨G, 0, none⟩) 1 1, .slice none 0 0, .int .i64 1], .bool true] w5 fun e w' => ∃ n S', e = .returned (.iface 64 (.int .i64 6)) ∧ LSt w Rep p G (l.say stopA true n) S' w') := by
          have h := HSayA.out _ _ _ _ _ HL5.out
          rw [ea] at h
          exact h
        clear ez ea es ez2
        have c1 : (a : Int) < (k : Int) := by omega
        have c2 : ¬ (k : Int) ≤ (a : Int) := by omega
        have c3 : ((k : Int) == (a : Int)) = false := by simp; omega
        have c4 : ¬ (k : Int) < (a : Int) := by omega
        go_wp2_with fail
        go_at_call 9
        refine HSy'.out.mono ?_
        rintro e w6 ⟨n6, S6, rfl, h6⟩
        have HL6 : Hid (LSt w Rep p G (l.say stopA true n6) S6 w6) := h6
        clear h6 b0 b1 b2 b3
        go_wp2_with fail
        go_at_call 10
        refine (HEr.out 6 6 _ HL6.out.bel).mono ?_
        rintro e w7 ⟨rfl, hb⟩
        have HL7 : Hid (LSt w Rep p G (l.say stopA true n6) S6 w7) := HL6.out.step Hok.out hb
        clear hb
        have eb6 : ((6 : Int) == 6) = true := by decide
        rw [eb6]
        clear eb6
        go_wp2_with fail
        go_at_call 10
        refine (HEr.out 6 1 _ HL7.out.bel).mono ?_
        rintro e w8 ⟨rfl, hb⟩
        have HL8 : Hid (LSt w Rep p G (l.say stopA true n6) S6 w8) := HL7.out.step Hok.out hb
        clear hb
        have eb7 : ((6 : Int) == 1) = false := by decide
        rw [eb7]
        clear eb7
        go_wp2_with fail
        go_at_call 10
        refine (HEr.out 6 6 _ HL8.out.bel).mono ?_
        rintro e w9 ⟨rfl, hb⟩
        have HL9 : Hid (LSt w Rep p G (l.say stopA true n6) S6 w9) := HL8.out.step Hok.out hb
        clear hb
        have eb8 : ((6 : Int) == 6) = true := by decide
        rw [eb8]
        clear eb8
        go_wp2
        go_roundw
        case rel => exact ⟨k + 1, by omega, by go_num, by go_num, _, _, HSn.out n6, HL9.out⟩
        case measure => first | (simp [intOf]; done) | (simp [intOf]; omega)
    · obtain rfl : k = m := by omega
      have hltz : ¬ (k : Int) < (k : Int) := by omega
      go_wp2
      go_loopw [10] (fun st wx => ∃ s : Nat, k ≤ s ∧ s ≤ max k (a + 1) ∧ st = .int .i64 s ∧ ∃ l S, StA a (min k a) s l ∧ LSt w Rep p G l S wx) (fun st _ => a + 1 - (intOf st).toNat)
      case atStart => exact ⟨k, Nat.le_refl _, by omega, rfl, _, _, HSt.out, HL.out⟩
      case round =>
        obtain ⟨s, hs1, hs2, rfl, l', S', hst, hls⟩ := hrel
        have HL' : Hid (LSt w Rep p G l' S' wr) := hls
        have HSt' : Hid (StA a (min k a) s l') := hst
        clear hls hst HL HSt
        by_cases hle : s ≤ a
        · have hlez : (s : Int) ≤ (a : Int) := by omega
          obtain ⟨q1, q2⟩ := st_sync HSt'.out
          rcases Nat.lt_or_ge s a with hc | hc
          · obtain ⟨e1, e2⟩ := q1 hc
            have HSn : Hid (StA a (min k a) (s + 1) l'.sync) := e2
            have HSy' : Hid (Calls Tryz.prog 11 #[.pointer (some p)] wr fun e w' => ∃ S'', e = .returned .nilIface ∧ LSt w Rep p G l'.sync S'' w') := by
              have h := HSy.out _ _ _ _ _ HL'.out
              rw [e1] at h
              exact h
            have hne : ((s : Int) == (a : Int)) = false := by simp; omega
            clear q1 q2 e1 e2
            go_wp2_with fail
            go_at_call 11
            refine HSy'.out.mono ?_
            rintro e w5 ⟨S5, rfl, h5⟩
            have HL5 : Hid (LSt w Rep p G l'.sync S5 w5) := h5
            clear h5
            go_wp2
            go_roundw
            case rel => exact ⟨s + 1, by omega, by omega, by go_num, _, _, HSn.out, HL5.out⟩
            case measure => first | (simp [intOf]; done) | (simp [intOf]; omega)
          · obtain rfl : s = a := by omega
            obtain ⟨e1, e2⟩ := q2 (Nat.le_refl _)
            have HSn : Hid (StA s (min k s) (s + 1) l'.sync) := e2
            have HSy' : Hid (Calls Tryz.prog 11 #[.pointer (some p)] wr fun e w' => ∃ S'', e = .returned (.iface 64 (.int .i64 6)) ∧ LSt w Rep p G l'.sync S'' w') := by
              have h := HSy.out _ _ _ _ _ HL'.out
              rw [e1] at h
              exact h
            clear q1 q2 e1 e2
            go_wp2_with fail
            go_at_call 11
            refine HSy'.out.mono ?_
            rintro e w5 ⟨S5, rfl, h5⟩
            have HL5 : Hid (LSt w Rep p G l'.sync S5 w5) := h5
            clear h5
            go_wp2
            go_roundw
            case rel => exact ⟨s + 1, by omega, by omega, by go_num, _, _, HSn.out, HL5.out⟩
            case measure => first | (simp [intOf]; done) | (simp [intOf]; omega)
        · have hlez : ¬ (s : Int) ≤ (a : Int) := by omega
          have hoff := HSt'.out
          have t1 := (st_sync hoff).2 (by omega)
          have HSy1 : Hid (Calls Tryz.prog 11 #[.pointer (some p)] wr fun e w' => ∃ S'', e = .returned (.iface 64 (.int .i64 6)) ∧ LSt w Rep p G l'.sync S'' w') := by
            have h := HSy.out _ _ _ _ _ HL'.out
            rw [t1.1] at h
            exact h
          have t2 := (st_say t1.2 (by omega) ha).2 (by omega)
          have HE2 : Hid (l'.sync.sayE stopA true = 6) := t2.1
          have HS2 : Hid (∀ n, StA a (min k a) (s + 1 + 1) (l'.sync.say stopA true n)) := t2.2
          clear hoff t1 t2
          go_wp2_with fail
          go_at_call 11
          refine HSy1.out.mono ?_
          rintro e w5 ⟨S5, rfl, h5⟩
          have HL5 : Hid (LSt w Rep p G l'.sync S5 w5) := h5
          clear h5
          have b0 : w5.cell? ⟨G + 1, 0, none⟩ = some (.int .i64 4) := HL5.out.atm.cell 0
          have b1 : w5.cell? ⟨G + 1, 1, none⟩ = some (.slice (some ⟨G, 0, none⟩) 1 1) := HL5.out.atm.cell 1
          have b2 : w5.cell? ⟨G + 1, 2, none⟩ = some (.slice none 0 0) := HL5.out.atm.cell 2
          have b3 : w5.cell? ⟨G + 1, 3, none⟩ = some (.int .i64 1) := HL5.out.atm.cell 3
          have HSa : Hid (Calls Tryz.prog 9 #[.pointer (some p), .agg #[.int .i64 4, .slice (some ⟨G, 0, none⟩) 1 1, .slice none 0 0, .int .i64 1], .bool true] w5 fun e w' => ∃ n S', e = .returned (.iface 64 (.int .i64 6)) ∧ LSt w Rep p G (l'.sync.say stopA true n) S' w') := by
            have h := HSayA.out _ _ _ _ _ HL5.out
            rw [HE2.out] at h
            exact h
          go_wp2_with fail
          go_at_call 9
          refine HSa.out.mono ?_
          rintro e w6 ⟨n6, S6, rfl, h6⟩
          obtain ⟨l2, hl2⟩ : ∃ x, x = l'.sync.say stopA true n6 := ⟨_, rfl⟩
          rw [← hl2] at h6
          have HSt2 : Hid (StA a (min k a) (s + 1 + 1) l2) := by unfold Hid; rw [hl2]; exact HS2.out n6
          have HL6 : Hid (LSt w Rep p G l2 S6 w6) := h6
          clear h6 hl2 b0 b1 b2 b3
          have e66 : ((6 : Int) == 6) = true := by decide
          go_wp2_with fail
          go_at_call 10
          refine (HEr.out 6 6 _ HL6.out.bel).mono ?_
          rintro e w7 ⟨rfl, hb⟩
          rw [e66]
          have HL7 : Hid (LSt w Rep p G l2 S6 w7) := HL6.out.step Hok.out hb
          clear hb
          go_wp2_with fail
          go_at_call 10
          refine (HEr.out 6 6 _ HL7.out.bel).mono ?_
          rintro e w8 ⟨rfl, hb⟩
          rw [e66]
          have HL8 : Hid (LSt w Rep p G l2 S6 w8) := HL7.out.step Hok.out hb
          clear hb e66
          go_wp2_with fail
          go_at_call 12
          refine (HCr.out _ _ _ _ _ _ HL8.out).mono ?_
          rintro e w9 ⟨⟨v9, rfl⟩, S9, h9⟩
          obtain ⟨mc, hm5, hfs, hs3, hs4⟩ := st_crash HSt2.out keep
          obtain ⟨lc, hlc⟩ : ∃ x, x = l2.crash keep := ⟨_, rfl⟩
          rw [← hlc] at h9 hfs hs3 hs4
          have HL9 : Hid (LSt w Rep p G lc S9 w9) := h9
          have HFs : Hid (lc.fs = List.replicate mc (aloneF stopA true)) := hfs
          have HE3 : Hid (lc.sayE stopC true = 0) := hs3
          have HE4 : Hid (∀ n, (lc.say stopC true n).syncE = 0 ∧ (lc.say stopC true n).sync.fs = List.replicate mc (aloneF stopA true) ++ [aloneF stopC true] ∧ (lc.say stopC true n).sync.safe = (lc.say stopC true n).sync.bytes) := hs4
          clear h9 hlc hfs hs3 hs4
          have HAl9 : Hid (Calls Tryz.prog 13 #[.pointer (some p)] w9 fun e w' => (∃ vo vc, e = .returned (.slice vo mc vc)) ∧ LSt w Rep p G lc S9 w') := by
            refine (HAl.out _ _ _ _ _ HL9.out).mono ?_
            rintro e w' ⟨v, rfl, hv, hl⟩
            obtain ⟨vo, vc, rfl, _⟩ := hv.slice
            rw [HFs.out, List.length_replicate]
            exact ⟨⟨vo, vc, rfl⟩, hl⟩
          go_wp2_with fail
          go_at_call 13
          refine HAl9.out.mono ?_
          rintro e w10 ⟨⟨vo, vc, rfl⟩, h10⟩
          obtain ⟨w11, hw11⟩ : ∃ x, x = w10.alloc (.cells #[.int .i64 2] 3) := ⟨_, rfl⟩
          have hb11 : Below w10.heap.size w10 w11 := by rw [hw11]; exact below_alloc1 _ _
          have HL11 : Hid (LSt w Rep p G lc S9 w11) := h10.step Hok.out hb11
          have HRd : Hid (Reads w11 (.slice (some ⟨w10.heap.size, 0, none⟩) 1 1) [2]) := by
            have hk : Blk w11 w10.heap.size 3 #[.int .i64 2] := by rw [hw11]; exact Blk.new _ _ _
            refine Or.inr ⟨w10.heap.size, 0, 1, rfl, hk.lt, by simp, ⟨by simp, by simp⟩, fun j hj => ?_⟩
            obtain rfl : j = 0 := by simp at hj; exact hj
            exact hk.cell 0
          have HSc : Hid (Calls Tryz.prog 9 #[.pointer (some p), .agg #[.int .i64 4, .slice (some ⟨w10.heap.size, 0, none⟩) 1 1, .slice none 0 0, .int .i64 1], .bool true] w11 fun e w' => ∃ n S', e = .returned .nilIface ∧ LSt w Rep p G (lc.say stopC true n) S' w') := by
            have h := HSayC.out _ _ _ _ _ _ HL11.out HRd.out
            rw [HE3.out] at h
            exact h
          clear h10 hb11
          go_wp2_with fail
          rw [← hw11]
          clear hw11
          go_at_call 9
          refine HSc.out.mono ?_
          rintro e w12 ⟨n12, S12, rfl, h12⟩
          obtain ⟨d1, d2, d3⟩ := HE4.out n12
          have HSy2 : Hid (Calls Tryz.prog 11 #[.pointer (some p)] w12 fun e w' => ∃ S'', e = .returned .nilIface ∧ LSt w Rep p G (lc.say stopC true n12).sync S'' w') := by
            have h := HSy.out _ _ _ _ _ h12
            rw [d1] at h
            exact h
          obtain ⟨lf, hlf⟩ : ∃ x, x = (lc.say stopC true n12).sync := ⟨_, rfl⟩
          rw [← hlf] at HSy2 d2 d3
          have HD2 : Hid (lf.fs = List.replicate mc (aloneF stopA true) ++ [aloneF stopC true]) := d2
          have HD3 : Hid (lf.safe = lf.bytes) := d3
          clear h12 d1 d2 d3 hlf
          go_wp2_with fail
          go_at_call 11
          refine HSy2.out.mono ?_
          rintro e w13 ⟨S13, rfl, h13⟩
          have HAlF : Hid (Calls Tryz.prog 13 #[.pointer (some p)] w13 fun e w' => ∃ bL oL cL, e = .returned (.slice (some ⟨bL, oL, none⟩) (mc + 1) cL) ∧ (bL < w'.heap.size ∧ FormAt w' bL (oL + mc * 2) (aloneF stopC true)) ∧ LSt w Rep p G lf S13 w') := by
            refine (HAl.out _ _ _ _ _ h13).mono ?_
            rintro e w' ⟨v, rfl, hv, hl⟩
            rw [HD2.out] at hv
            obtain ⟨bL, oL, cL, rfl⟩ := hv.place (by simp)
            have hat := hv.at (i := mc) (f := aloneF stopC true) (by rw [List.getElem?_append_right (by simp)]; simp)
            rw [show (List.replicate mc (aloneF stopA true) ++ [aloneF stopC true]).length = mc + 1 by simp]
            exact ⟨bL, oL, cL, rfl, hat, hl⟩
          clear h13
          go_wp2_with fail
          go_at_call 13
          refine HAlF.out.mono ?_
          rintro e w14 ⟨bL, oL, cL, rfl, ⟨hbL, va, vcc, f0, f1, hA, hC⟩, h14⟩
          have HL14 : Hid (LSt w Rep p G lf S13 w14) := h14
          have hC' : Reads w14 vcc [0] := hC
          have hA' : ReadsA w14 va [stopC] := hA
          have HCk14 : Hid (Calls Tryz.prog 14 #[.agg #[va, vcc]] w14 fun e w' => e = .returned .nilIface ∧ Below w14.heap.size w14 w') := HCk.out w14 va vcc HL14.out.bel hA' hC'
          obtain ⟨co, ccap, rfl, _⟩ := hC.slice
          obtain ⟨bA, oA, cA, rfl, hbA, hat⟩ : ∃ bA oA cA, va = .slice (some ⟨bA, oA, none⟩) 1 cA ∧ bA < w14.heap.size ∧ AtomAt w14 bA oA stopC := by
            rcases hA' with ⟨_, _, _, h0⟩ | ⟨b, off, cap, rfl, hb, _, _, hc⟩
            · exact absurd h0 (by decide)
            · have := hc 0 stopC rfl
              rw [Nat.zero_mul, Nat.add_zero] at this
              exact ⟨b, off, cap, rfl, hb, this⟩
          obtain ⟨vs, vt, _, g1, _, _, hs, _⟩ := hat
          obtain ⟨bS, oS, cS, rfl, hbS, hcS⟩ : ∃ bS oS cS, vs = .slice (some ⟨bS, oS, none⟩) 1 cS ∧ bS < w14.heap.size ∧ w14.cell? ⟨bS, oS, none⟩ = some (.int .i64 2) := by
            rcases hs with ⟨_, _, _, h0⟩ | ⟨b, off, cap, rfl, hb, _, _, hc⟩
            · exact absurd h0 (by decide)
            · exact ⟨b, off, cap, rfl, hb, hc 0 (by decide)⟩
          have HCe : Hid (∀ W, Below w14.heap.size w14 W → W.cell? ⟨bL, oL + mc * 2, none⟩ = some (.slice (some ⟨bA, oA, none⟩) 1 cA) ∧ W.cell? ⟨bA, oA + 1, none⟩ = some (.slice (some ⟨bS, oS, none⟩) 1 cS) ∧ W.cell? ⟨bS, oS, none⟩ = some (.int .i64 2)) := fun W hW => ⟨(hW.cell hbL).trans f0, (hW.cell hbA).trans g1, (hW.cell hbS).trans hcS⟩
          obtain ⟨cl, hcl⟩ : ∃ x, x = (aloneF stopC true).c.length := ⟨_, rfl⟩
          rw [← hcl] at f1 HCk14
          clear h14 hbL hA hC hC' hA' hbA g1 hs hbS hcS hcl
          have hmz : (mc : Int) < ((mc + 1 : Nat) : Int) := by omega
          have hmz2 : (mc : Int) < (mc : Int) + 1 := by omega
          have hcast : ((mc + 1 : Nat) : Int) = (mc : Int) + 1 := by omega
          have hwr : wrap64 ((mc : Int) + 1) = (mc : Int) + 1 := by unfold wrap64; omega
          go_wp2_with fail
          go_at_call 14
          refine HCk14.out.mono ?_
          rintro e w15 ⟨rfl, hb⟩
          have HL15 : Hid (LSt w Rep p G lf S13 w15) := HL14.out.step Hok.out hb
          obtain ⟨c1, c2, c3⟩ := HCe.out w15 hb
          clear hb f0 f1
          go_wp2_with fail
          go_at_call 15
          refine (HSf.out _ _ _ _ _ HL15.out).mono ?_
          rintro e w16 ⟨rfl, h16⟩
          have HL16 : Hid (LSt w Rep p G lf S13 w16) := h16
          rw [HD3.out]
          clear h16 c1 c2 c3
          go_wp2_with fail
          go_at_call 16
          refine (HBy.out _ _ _ _ _ HL16.out).mono ?_
          rintro e w17 ⟨rfl, h17⟩
          have HB17 : Hid (Below w.heap.size w w17) := h17.bel
          clear h17
          go_wp2
          go_ret
          exact ⟨by first | rfl | simp, HB17.out⟩

theorem logStops_of (after many keep : Int) (w : World) (hg : Laid w) (Rep : Addr → Lg → (Nat → Prop) → World → Prop) (hok : LogOk w Rep)
    (cCk : ∀ (va vc : Value) (ats : List At) (c : List Int) (W : World), Below w.heap.size w W → ReadsA W va ats → Reads W vc c → Calls Tryz.prog 14 #[.agg #[va, vc]] W fun e w' => e = .returned (errV (formFault ats c)) ∧ Below W.heap.size W w') :
    Calls Tryz.prog 3 #[.int .i64 after, .int .i64 many, .int .i64 keep] w fun e w' => e = .returned (.bool true) ∧ Below w.heap.size w w' := by
  by_cases h : (0 ≤ after ∧ after ≤ 5) ∧ 0 ≤ many ∧ many ≤ 5
  · obtain ⟨h1, h2⟩ := h
    obtain ⟨a, rfl⟩ := Int.eq_ofNat_of_zero_le h1.1
    obtain ⟨m, rfl⟩ := Int.eq_ofNat_of_zero_le h2.1
    refine logStops_in a m (by omega) (by omega) keep w Rep hok (fun W va vc hW hA hC => ?_) (fun n W => same_nil n W) (fun k n W hW => same_err k n W (hg.below hW))
    have e : formFault [stopC] [0] = 0 := stop_faults.2.2.2
    have hc := cCk va vc [stopC] [0] W hW hA hC
    rw [e] at hc
    exact hc
  · refine logStops_out after many keep h w ((hok.new 1 w (Below.refl _ _) ⟨by decide, by decide⟩).mono ?_)
    rintro e w' ⟨p, S, rfl, _, _, hb⟩
    exact ⟨p, rfl, hb⟩
end Go.Proofs.YtjmeakkmfeoigaaGreatDoor
