/-
  Proved: vennlaw3.LogKeeps returns true, of any number of things, any atoms and any numbers, where package log answers as chapter 19 says; what was in memory is as it was (the walk that the statement leans on).
-/
import Derived.Test.YtjmeakkmfeoigaaGreatDoorLibA8
import Derived.Test.YtjmeakkmfeoigaaGreatDoorLibA12
import Derived.Test.YtjmeakkmfeoigaaGreatDoorLibA10
import Derived.Test.YtjmeakkmfeoigaaGreatDoorLibA5
import Derived.Deep.CutRange
import Derived.Deep.RegionHeld3
import Derived.Laws.AppendOwnNone
namespace Go.Proofs.YtjmeakkmfeoigaaGreatDoor
open Go.ChangeShapes Go.WideShapes Go.ChangeAt Go.RowKit
set_option maxRecDepth 100000

/-- the first log, the atom that is said, and its row. -/
def L1 (w : World) (Rep : Addr → Lg → (Nat → Prop) → World → Prop) (p : Addr) (G : Nat) (l : Lg) (S : Nat → Prop) (W : World) : Prop :=
  LS2 w Rep p l S W ∧ Kp S W (fun X => Blk X G 3 #[.int .i64 0] ∧ Blk X (G + 1) 29 #[.int .i64 3, .slice (some ⟨G, 0, none⟩) 1 1, .slice none 0 0, .int .i64 1])
theorem L1.step {w : World} {Rep : Addr → Lg → (Nat → Prop) → World → Prop} (hok : LogOk w Rep) {p : Addr} {G : Nat} {l : Lg} {S : Nat → Prop} {W W' : World} (h : L1 w Rep p G l S W) (hb : Below W.heap.size W W') : L1 w Rep p G l S W' := ⟨h.1.step hok hb, h.2.step hb⟩
theorem L1.move {w : World} {Rep : Addr → Lg → (Nat → Prop) → World → Prop} {p : Addr} {G : Nat} {l l' : Lg} {S S' : Nat → Prop} {W W' : World} (h : L1 w Rep p G l S W) (hr : Rep p l' S' W') (hk : LKeep S W W') (hg : Grows S S' W) : L1 w Rep p G l' S' W' := ⟨h.1.move hr hk hg, h.2.move hk hg⟩
theorem L1.reads {w : World} {Rep : Addr → Lg → (Nat → Prop) → World → Prop} {p : Addr} {G : Nat} {l : Lg} {S : Nat → Prop} {W : World} (h : L1 w Rep p G l S W) : Reads W (.slice (some ⟨G, 0, none⟩) 1 1) [0] :=
  Or.inr ⟨G, 0, 1, rfl, h.2.now.1.lt, by simp, ⟨by simp, by simp⟩, fun k hk => by
    obtain rfl : k = 0 := by simp at hk; exact hk
    exact h.2.now.1.cell 0⟩

set_option maxHeartbeats 800000000 in
theorem logKeeps_in (u : Int) (ats : List At) (lo : Option Addr) (lcap : Nat) (dt st ft kt : List Int) (do' so fo ko : Option Addr) (dcap scap fcap kcap : Nat) (w : World) (hl63 : ats.length ≤ 9223372036854775807) (Rep : Addr → Lg → (Nat → Prop) → World → Prop) (hok : LogOk w Rep)
    (HA : Hid (ReadsA w (.slice lo ats.length lcap) ats)) (HDt : Hid (Reads w (.slice do' dt.length dcap) dt)) (HSt : Hid (Reads w (.slice so st.length scap) st)) (HFt : Hid (Reads w (.slice fo ft.length fcap) ft)) (HKt : Hid (Reads w (.slice ko kt.length kcap) kt))
    (HEn : Hid (∀ n W, Calls Tryz.prog 10 #[.nilIface, .int .i64 n] W fun e w' => e = .returned (.bool (0 == n)) ∧ W = w'))
    (HEr : Hid (∀ k n W, Below w.heap.size w W → Calls Tryz.prog 10 #[.iface 64 (.int .i64 k), .int .i64 n] W fun e w' => e = .returned (.bool (k == n)) ∧ Below W.heap.size W w')) :
    Calls Tryz.prog 5 #[.int .i64 u, .slice lo ats.length lcap, .slice do' dt.length dcap, .slice so st.length scap, .slice fo ft.length fcap, .slice ko kt.length kcap] w fun e w' => e = .returned (.bool true) ∧ Below w.heap.size w w' := by
  have Hok : Hid (LogOk w Rep) := hok
  have HNew : Hid (∀ W, Below w.heap.size w W → Calls Tryz.prog 7 #[.int .i64 2] W fun e w' => ∃ p S, e = .returned (.tuple #[.pointer (some p), .nilIface]) ∧ LS2 w Rep p (lg0 2) S w') := fun W hW =>
    (hok.new 2 W hW ⟨by decide, by decide⟩).mono fun e w' ⟨p, S, h1, h2, h3, h4⟩ => ⟨p, S, h1, hW.trans (h4.mono hW.size), h2, fun b hs => Nat.le_trans hW.size (h3 b hs)⟩
  have HSayA : Hid (∀ p G l S W h, L1 w Rep p G l S W → Calls Tryz.prog 9 #[.pointer (some p), .agg #[.int .i64 3, .slice (some ⟨G, 0, none⟩) 1 1, .slice none 0 0, .int .i64 1], .bool h] W fun e w' => ∃ n S', 2 ≤ n ∧ e = .returned (errV (l.sayE keepA h)) ∧ L1 w Rep p G (l.say keepA h n) S' w') := fun p G l S W h hl =>
    (hok.say p l S W keepA h _ _ hl.1.bel hl.1.rep hl.reads (Or.inl ⟨none, 0, rfl, rfl⟩)).mono fun e w' ⟨n, S', h0, h1, h2, h3, h4⟩ => ⟨n, S', h0.1, h1, hl.move h2 h3 h4⟩
  have HSy : Hid (∀ p G l S W, L1 w Rep p G l S W → Calls Tryz.prog 11 #[.pointer (some p)] W fun e w' => ∃ S', e = .returned (errV l.syncE) ∧ L1 w Rep p G l.sync S' w') := fun p G l S W h =>
    (hok.sync p l S W h.1.bel h.1.rep).mono fun e w' ⟨S', h1, h2, h3, h4⟩ => ⟨S', h1, h.move h2 h3 h4⟩
  have HCr : Hid (∀ p G l S W n, L1 w Rep p G l S W → Calls Tryz.prog 12 #[.pointer (some p), .int .i64 n] W fun e w' => (∃ v, e = .returned v) ∧ ∃ S', LS2 w Rep p (l.crash n) S' w') := fun p G l S W n h =>
    (hok.crash p l S W n h.1.bel h.1.rep).mono fun e w' ⟨S', h1, h2, h3, h4⟩ => ⟨h1, S', h.1.move h2 h3 h4⟩
  have HAl : Hid (∀ p l S W, LS2 w Rep p l S W → Calls Tryz.prog 13 #[.pointer (some p)] W fun e w' => ∃ v, e = .returned v ∧ ReadsF w' v l.fs ∧ LS2 w Rep p l S w') := fun p l S W h =>
    (hok.all p l S W h.bel h.rep).mono fun e w' ⟨v, h1, h2, _, h4⟩ => ⟨v, h1, h2, h.step hok h4⟩
  have HBy : Hid (∀ p l S W, LS2 w Rep p l S W → Calls Tryz.prog 16 #[.pointer (some p)] W fun e w' => e = .returned (.int .i64 l.bytes) ∧ LS2 w Rep p l S w') := fun p l S W h =>
    (hok.bytes p l S W h.bel h.rep).mono fun e w' ⟨h1, _, h4⟩ => ⟨h1, h.step hok h4⟩
  have HSf : Hid (∀ p l S W, LS2 w Rep p l S W → Calls Tryz.prog 15 #[.pointer (some p)] W fun e w' => e = .returned (.int .i64 l.safe) ∧ LS2 w Rep p l S w') := fun p l S W h =>
    (hok.safe p l S W h.bel h.rep).mono fun e w' ⟨h1, _, h4⟩ => ⟨h1, h.step hok h4⟩
  have KSy : Hid (∀ p l S g es vm fs xs vd W, KSt w Rep p l S g es vm fs xs vd W → Calls Tryz.prog 11 #[.pointer (some p)] W fun e w' => ∃ S', e = .returned (errV l.syncE) ∧ KSt w Rep p l.sync S' g es vm fs xs vd w') := fun p l S g es vm fs xs vd W h =>
    (hok.sync p l S W h.bel h.rep).mono fun e w' ⟨S', h1, h2, h3, h4⟩ => ⟨S', h1, h.move h2 h3 h4⟩
  have KSa : Hid (∀ p l S g es vm fs xs vd W (a : At) (h : Bool) vs vt, KSt w Rep p l S g es vm fs xs vd W → Reads W vs a.s → Reads W vt a.t → Calls Tryz.prog 9 #[.pointer (some p), .agg #[.int .i64 a.k, vs, vt, .int .i64 a.n], .bool h] W fun e w' => ∃ n S', (2 ≤ n ∧ n ≤ 1000000) ∧ e = .returned (errV (l.sayE a h)) ∧ KSt w Rep p (l.say a h n) S' g es vm fs xs vd w' ∧ LKeep S W w' ∧ Grows S S' W) := fun p l S g es vm fs xs vd W a h vs vt hl hs ht =>
    (hok.say p l S W a h vs vt hl.bel hl.rep hs ht).mono fun e w' ⟨n, S', h0, h1, h2, h3, h4⟩ => ⟨n, S', h0, h1, hl.move h2 h3 h4, h3, h4⟩
  have KFa : Hid (∀ p l S g es vm fs xs vd W n, KSt w Rep p l S g es vm fs xs vd W → Calls Tryz.prog 8 #[.pointer (some p), .int .i64 n] W fun e w' => (∃ v, e = .returned v) ∧ ∃ S', KSt w Rep p (l.fail n) S' g es vm fs xs vd w') := fun p l S g es vm fs xs vd W n h =>
    (hok.fail p l S W n h.bel h.rep).mono fun e w' ⟨S', h1, h2, h3, h4⟩ => ⟨h1, S', h.move h2 h3 h4⟩
  have KCr : Hid (∀ p l S g es vm fs xs vd W n, KSt w Rep p l S g es vm fs xs vd W → Calls Tryz.prog 12 #[.pointer (some p), .int .i64 n] W fun e w' => (∃ v, e = .returned v) ∧ ∃ S', KSt w Rep p (l.crash n) S' g es vm fs xs vd w') := fun p l S g es vm fs xs vd W n h =>
    (hok.crash p l S W n h.bel h.rep).mono fun e w' ⟨S', h1, h2, h3, h4⟩ => ⟨h1, S', h.move h2 h3 h4⟩
  have KAl : Hid (∀ p l S g es vm fs xs vd W, KSt w Rep p l S g es vm fs xs vd W → Calls Tryz.prog 13 #[.pointer (some p)] W fun e w' => ∃ v, e = .returned v ∧ ReadsF w' v l.fs ∧ Below W.heap.size W w') := fun p l S g es vm fs xs vd W h =>
    (hok.all p l S W h.bel h.rep).mono fun e w' ⟨v, h1, h2, _, h4⟩ => ⟨v, h1, h2, h4⟩
  have KOp : Hid (∀ p l S g es vm fs xs vd W, KSt w Rep p l S g es vm fs xs vd W → LgK u l → Calls Tryz.prog 17 #[.pointer (some p)] W fun e w' => e = .returned (.bool true) ∧ Below W.heap.size W w') := fun p l S g es vm fs xs vd W h hk =>
    (hok.openS p l S W h.bel h.rep).mono fun e w' ⟨h1, _, h4⟩ => ⟨by rw [lgk_open hk] at h1; exact h1, h4⟩
  have KBy : Hid (∀ p l S g es vm fs xs vd W, KSt w Rep p l S g es vm fs xs vd W → Calls Tryz.prog 16 #[.pointer (some p)] W fun e w' => e = .returned (.int .i64 l.bytes) ∧ Below W.heap.size W w') := fun p l S g es vm fs xs vd W h =>
    (hok.bytes p l S W h.bel h.rep).mono fun e w' ⟨h1, _, h4⟩ => ⟨h1, h4⟩
  have KSf : Hid (∀ p l S g es vm fs xs vd W, KSt w Rep p l S g es vm fs xs vd W → Calls Tryz.prog 15 #[.pointer (some p)] W fun e w' => e = .returned (.int .i64 l.safe) ∧ Below W.heap.size W w') := fun p l S g es vm fs xs vd W h =>
    (hok.safe p l S W h.bel h.rep).mono fun e w' ⟨h1, _, h4⟩ => ⟨h1, h4⟩
  have HNo : Hid (∀ W, Below w.heap.size w W → ¬ (0 ≤ u ∧ u ≤ 6) → Calls Tryz.prog 7 #[.int .i64 u] W fun e w' => ∃ q, e = .returned (.tuple #[.pointer q, .iface 64 (.int .i64 1)]) ∧ Below W.heap.size W w') := fun W hW hu => hok.newE u W hW hu
  have HNe : Hid (∀ W, Below w.heap.size w W → 0 ≤ u ∧ u ≤ 6 → Calls Tryz.prog 7 #[.int .i64 u] W fun e w' => ∃ p S, e = .returned (.tuple #[.pointer (some p), .nilIface]) ∧ LS2 w Rep p (lg0 u) S w') := fun W hW hu =>
    (hok.new u W hW hu).mono fun e w' ⟨p, S, h1, h2, h3, h4⟩ => ⟨p, S, h1, hW.trans (h4.mono hW.size), h2, fun b hs => Nat.le_trans hW.size (h3 b hs)⟩
  obtain ⟨n, hn⟩ : ∃ n, n = ats.length := ⟨_, rfl⟩
  obtain ⟨dn, hdn⟩ : ∃ n, n = dt.length := ⟨_, rfl⟩
  obtain ⟨sn, hsn⟩ : ∃ n, n = st.length := ⟨_, rfl⟩
  obtain ⟨fn, hfn⟩ : ∃ n, n = ft.length := ⟨_, rfl⟩
  obtain ⟨kn, hkn⟩ : ∃ n, n = kt.length := ⟨_, rfl⟩
  rw [← hn] at HA hl63 ⊢
  rw [← hdn] at HDt ⊢
  rw [← hsn] at HSt ⊢
  rw [← hfn] at HFt ⊢
  rw [← hkn] at HKt ⊢
  have HN : Hid (n = ats.length ∧ dn = dt.length ∧ sn = st.length ∧ fn = ft.length ∧ kn = kt.length) := ⟨hn, hdn, hsn, hfn, hkn⟩
  clear hok hn hdn hsn hfn hkn
  go_enter Tryz.func5, Tryz.ntmps5
  go_wp2_with fail
  go_at_call 7
  refine (HNew.out _ (Below.refl _ _)).mono ?_
  rintro e w2 ⟨p, S2, rfl, h2⟩
  obtain ⟨w3, hw3⟩ : ∃ x, x = (w2.alloc (.cells #[.int .i64 0] 3)).alloc (.cells #[.int .i64 3, .slice (some ⟨w2.heap.size, 0, none⟩) 1 1, .slice none 0 0, .int .i64 1] 29) := ⟨_, rfl⟩
  obtain ⟨G, hG⟩ : ∃ G, G = w2.heap.size := ⟨_, rfl⟩
  have hb3 : Below w2.heap.size w2 w3 := by rw [hw3]; exact (below_alloc1 _ _).alloc (by simp) _
  have HL3 : Hid (L1 w Rep p G (lg0 2) S2 w3) := by
    have hlt := Hok.out.lt _ _ _ _ h2.rep
    refine ⟨h2.step Hok.out hb3, fun X hX => ⟨hX.blk ?_ fun hs => ?_, hX.blk ?_ fun hs => ?_⟩⟩
    · rw [hw3, hG]; exact (Blk.new _ _ _).old _
    · have := hlt _ hs; omega
    · rw [hw3, hG]
      have := Blk.new (w2.alloc (.cells #[.int .i64 0] 3)) 29 #[.int .i64 3, .slice (some ⟨w2.heap.size, 0, none⟩) 1 1, .slice none 0 0, .int .i64 1]
      rw [World.size_alloc] at this
      exact this
    · have := hlt _ hs; omega
  clear h2 hb3
  go_upto_region 5 with fail
  rw [← hG] at hw3
  rw [← hG, ← hw3]
  clear hw3 hG
  have HAt : Hid (∀ l S W, L1 w Rep p G l S W → W.cell? ⟨G + 1, 0, none⟩ = some (.int .i64 3) ∧ W.cell? ⟨G + 1, 1, none⟩ = some (.slice (some ⟨G, 0, none⟩) 1 1) ∧ W.cell? ⟨G + 1, 2, none⟩ = some (.slice none 0 0) ∧ W.cell? ⟨G + 1, 3, none⟩ = some (.int .i64 1)) := fun l S W h => ⟨h.2.now.2.cell 0, h.2.now.2.cell 1, h.2.now.2.cell 2, h.2.now.2.cell 3⟩
  obtain ⟨b0, b1, b2, b3⟩ := HAt.out _ _ _ HL3.out
  have HS1 : Hid (Calls Tryz.prog 9 #[.pointer (some p), .agg #[.int .i64 3, .slice (some ⟨G, 0, none⟩) 1 1, .slice none 0 0, .int .i64 1], .bool true] w3 fun e w' => ∃ n S', 2 ≤ n ∧ e = .returned .nilIface ∧ L1 w Rep p G (keepL1 n) S' w') := by
    have h := HSayA.out _ _ _ _ _ true HL3.out
    rw [keep_one.1] at h
    refine h.mono fun e w' ⟨n, S', h0, h1, h2⟩ => ⟨n, S', h0, h1, ?_⟩
    rw [keep_one.2] at h2
    exact h2
  go_wp2_with fail
  go_at_call 9
  refine HS1.out.mono ?_
  rintro e w4 ⟨n4, S4, hn4, rfl, h4⟩
  have HL4 : Hid (L1 w Rep p G (keepL1 n4) S4 w4) := h4
  clear h4 b0 b1 b2 b3
  have HS2 : Hid (Calls Tryz.prog 11 #[.pointer (some p)] w4 fun e w' => ∃ S', e = .returned .nilIface ∧ L1 w Rep p G (keepL2 n4) S' w') := HSy.out _ _ _ _ _ HL4.out
  go_wp2_with fail
  go_at_call 11
  refine HS2.out.mono ?_
  rintro e w5 ⟨S5, rfl, h5⟩
  have HL5 : Hid (L1 w Rep p G (keepL2 n4) S5 w5) := h5
  clear h5
  obtain ⟨b0, b1, b2, b3⟩ := HAt.out _ _ _ HL5.out
  have HS3 : Hid (Calls Tryz.prog 9 #[.pointer (some p), .agg #[.int .i64 3, .slice (some ⟨G, 0, none⟩) 1 1, .slice none 0 0, .int .i64 1], .bool true] w5 fun e w' => ∃ n S', 2 ≤ n ∧ e = .returned .nilIface ∧ L1 w Rep p G (keepL3 n4 n) S' w') := by
    have h := HSayA.out _ _ _ _ _ true HL5.out
    rw [(keep_three n4).1] at h
    refine h.mono fun e w' ⟨n, S', h0, h1, h2⟩ => ⟨n, S', h0, h1, ?_⟩
    rw [(keep_three n4).2] at h2
    exact h2
  go_wp2_with fail
  go_at_call 9
  refine HS3.out.mono ?_
  rintro e w6 ⟨n6, S6, hn6, rfl, h6⟩
  have HL6 : Hid (L1 w Rep p G (keepL3 n4 n6) S6 w6) := h6
  have HN6 : Hid (2 ≤ n6) := hn6
  clear h6 b0 b1 b2 b3 hn4 hn6
  obtain ⟨b0, b1, b2, b3⟩ := HAt.out _ _ _ HL6.out
  have HS4 : Hid (Calls Tryz.prog 9 #[.pointer (some p), .agg #[.int .i64 3, .slice (some ⟨G, 0, none⟩) 1 1, .slice none 0 0, .int .i64 1], .bool false] w6 fun e w' => ∃ S', e = .returned (.iface 64 (.int .i64 7)) ∧ L1 w Rep p G (keepL3 n4 n6) S' w') := by
    have h := HSayA.out _ _ _ _ _ false HL6.out
    rw [(keep_four n4 n6).1] at h
    refine h.mono fun e w' ⟨n, S', h0, h1, h2⟩ => ⟨S', h1, ?_⟩
    rw [(keep_four n4 n6).2] at h2
    exact h2
  go_wp2_with fail
  go_at_call 9
  refine HS4.out.mono ?_
  rintro e w7 ⟨S7, rfl, h7⟩
  have HL7 : Hid (L1 w Rep p G (keepL3 n4 n6) S7 w7) := h7
  clear h7 b0 b1 b2 b3
  go_wp2_with fail
  go_at_call 12
  refine (HCr.out _ _ _ _ _ _ HL7.out).mono ?_
  rintro e w8 ⟨⟨v8, rfl⟩, S8, h8⟩
  obtain ⟨lc, hlc⟩ : ∃ x, x = (keepL3 n4 n6).crash 0 := ⟨_, rfl⟩
  obtain ⟨k1, k2⟩ := keep_five (n := n4) HN6.out
  rw [← hlc] at h8 k1 k2
  have HL8 : Hid (LS2 w Rep p lc S8 w8) := h8
  have HF8 : Hid (lc.fs = [aloneF keepA true]) := k1
  have HE8 : Hid (lc.bytes = lc.safe) := k2
  clear h8 k1 k2 hlc
  have HAl9 : Hid (Calls Tryz.prog 13 #[.pointer (some p)] w8 fun e w' => ∃ bL oL cL bA oA cA, e = .returned (.slice (some ⟨bL, oL, none⟩) 1 cL) ∧ (∀ X, Below w'.heap.size w' X → X.cell? ⟨bL, oL, none⟩ = some (.slice (some ⟨bA, oA, none⟩) 1 cA) ∧ X.cell? ⟨bA, oA + 3, none⟩ = some (.int .i64 1)) ∧ LS2 w Rep p lc S8 w') := by
    refine (HAl.out _ _ _ _ HL8.out).mono ?_
    rintro e w' ⟨v, rfl, hv, hl⟩
    rw [HF8.out] at hv
    obtain ⟨bL, oL, cL, rfl⟩ := hv.place (by simp)
    obtain ⟨hbL, va, vcc, f0, f1, hA, hC⟩ := hv.at (i := 0) (f := aloneF keepA true) rfl
    obtain ⟨bA, oA, cA, rfl, hbA, hat⟩ : ∃ bA oA cA, va = .slice (some ⟨bA, oA, none⟩) 1 cA ∧ bA < w'.heap.size ∧ AtomAt w' bA oA keepA := by
      have hA' : ReadsA w' va [keepA] := hA
      rcases hA' with ⟨_, _, _, h0⟩ | ⟨b, off, cap, rfl, hb, _, _, hc⟩
      · exact absurd h0 (by decide)
      · have := hc 0 keepA rfl
        rw [Nat.zero_mul, Nat.add_zero] at this
        exact ⟨b, off, cap, rfl, hb, this⟩
    obtain ⟨vs, vt, _, _, _, g3, _, _⟩ := hat
    rw [Nat.zero_mul, Nat.add_zero] at f0
    exact ⟨bL, oL, cL, bA, oA, cA, rfl, fun X hX => ⟨(hX.cell hbL).trans f0, (hX.cell hbA).trans g3⟩, hl⟩
  go_wp2_with fail
  go_at_call 13
  refine HAl9.out.mono ?_
  rintro e w9 ⟨bL, oL, cL, bA, oA, cA, rfl, hcell, h9⟩
  have HL9 : Hid (LS2 w Rep p lc S8 w9) := h9
  have HCe : Hid (∀ X, Below w9.heap.size w9 X → X.cell? ⟨bL, oL, none⟩ = some (.slice (some ⟨bA, oA, none⟩) 1 cA) ∧ X.cell? ⟨bA, oA + 3, none⟩ = some (.int .i64 1)) := hcell
  clear h9 hcell
  go_wp2_with fail
  go_at_call 10
  refine (HEr.out 7 7 _ HL9.out.bel).mono ?_
  rintro e w10 ⟨rfl, hb⟩
  have HL10 : Hid (LS2 w Rep p lc S8 w10) := HL9.out.step Hok.out hb
  obtain ⟨c1, c2⟩ := HCe.out w10 hb
  clear hb
  have e77 : ((7 : Int) == 7) = true := by decide
  rw [e77]
  clear e77
  go_wp2_with fail
  go_at_call 16
  refine (HBy.out _ _ _ _ HL10.out).mono ?_
  rintro e w11 ⟨rfl, h11⟩
  have HL11 : Hid (LS2 w Rep p lc S8 w11) := h11
  rw [HE8.out]
  clear h11 c1 c2
  go_wp2_with fail
  go_at_call 15
  refine (HSf.out _ _ _ _ HL11.out).mono ?_
  rintro e w12 ⟨rfl, h12⟩
  have HB12 : Hid (Below w.heap.size w w12) := h12.bel
  clear h12 HL3 HL4 HL5 HL6 HL7 HL8 HL9 HL10 HL11
  clear HNew HSayA HSy HCr HAl HBy HSf HAt HS1 HS2 HS3 HS4 HAl9 HCe HF8 HE8 HN6
  by_cases hu : 0 ≤ u ∧ u ≤ 6
  · have Hu : Hid (0 ≤ u ∧ u ≤ 6) := hu
    have g1 : ¬ u < 0 := by omega
    have g2 : ¬ 6 < u := by omega
    have HNi : Hid (Calls Tryz.prog 7 #[.int .i64 u] w12 fun e w' => ∃ p S, e = .returned (.tuple #[.pointer (some p), .nilIface]) ∧ LS2 w Rep p (lg0 u) S w') := HNe.out _ HB12.out hu
    have HOpR : Hid (∀ v fs W, (∀ f ∈ fs, f.fault = 0) → ReadsF W v fs → Calls Tryz.prog 20 #[v, .int .i64 u] W fun e w' => e = .returned (.bool (openN fs u.toNat)) ∧ Below W.heap.size W w') := fun v fs W hg hF => by
      have h := refOpen_any v fs hg u.toNat (by omega) W hF
      rw [Int.toNat_of_nonneg hu.1] at h
      exact h
    clear hu HNe HNo
    go_wp2_with fail
    go_at_call 7
    refine HNi.out.mono ?_
    rintro e w13 ⟨pj, S13, rfl, h13⟩
    have HL13 : Hid (LS2 w Rep pj (lg0 u) S13 w13) := h13
    clear h13 HNi g1 g2
    go_wp2_with fail
    go_at_call 10
    refine (HEn.out 0 _).mono ?_
    rintro e w14 ⟨rfl, rfl⟩
    have e00 : ((0 : Int) == 0) = true := by decide
    rw [e00]
    clear e00
    obtain ⟨w15, hw15⟩ : ∃ x, x = w13.alloc (.cells #[.int .i64 0] 3) := ⟨_, rfl⟩
    obtain ⟨gm, hgm⟩ : ∃ G, G = w13.heap.size := ⟨_, rfl⟩
    have HK0 : Hid (KSt w Rep pj (lg0 u) S13 gm [] (.slice (some ⟨gm, 0, none⟩) 1 1) [] [] (.slice none 0 0) w15) := by
      have hb15 : Below w13.heap.size w13 w15 := by rw [hw15]; exact below_alloc1 _ _
      have hk : Blk w15 gm 3 #[.int .i64 0] := by rw [hw15, hgm]; exact Blk.new _ _ _
      have h1 := HL13.out.step Hok.out hb15
      refine ⟨h1.bel, h1.rep, h1.ge, fun hs => ?_, by rw [hgm]; exact HL13.out.bel.size, hk.lt, ⟨1, rfl⟩, ⟨rfl, Or.inr ⟨gm, 1, #[.int .i64 0], rfl, by rw [hgm]; exact HL13.out.bel.size, hk, by decide, by decide, rfl, rfl⟩⟩, fun X _ => ⟨rfl, Or.inl ⟨rfl, rfl⟩⟩, fun X _ => CellsF.nil X⟩
      have := Hok.out.lt _ _ _ _ HL13.out.rep _ hs
      omega
    go_wp2_with fail
    rw [← hw15, ← hgm]
    clear hw15 hgm HL13
    go_loopw [25, 26, 27, 28] (fun vd vm av rd wr => ∃ r m : Nat, r ≤ 4 ∧ rd = .int .i64 r ∧ av = .int .i64 m ∧ m ≤ 6 * r ∧ ∃ l S g xs, LgK u l ∧ LgB (1000000 * m) l ∧ KSt w Rep pj l S g l.ends vm l.fs xs vd wr) (fun _ _ _ rd _ => 5 - (intOf rd).toNat)
    case atStart => exact ⟨0, 0, Nat.zero_le _, rfl, rfl, Nat.le_refl _, lg0 u, S13, gm, [], lgk0 u, lgb0 u, HK0.out⟩
    case round =>
      as_aux_lemma =>
      obtain ⟨r, m, hr, rfl, rfl, hm, l, S, g, xs, hlk, hlb, hks⟩ := hrel
      have HLk : Hid (LgK u l) := hlk
      have HLb : Hid (LgB (1000000 * m) l) := hlb
      have HK : Hid (KSt w Rep pj l S g l.ends u26 l.fs xs u25 wr) := hks
      clear hlk hlb hks HK0
      by_cases hlt : r ≤ fn ∧ r < 4
      · obtain ⟨hlt1, hlt2⟩ := hlt
        have hz1 : (r : Int) ≤ (fn : Int) := by omega
        have hz2 : (r : Int) < 4 := by omega
        go_upto_if 138 with fail
        go_cut [144] from 135 to 144 (fun _ wx => ∃ l' S', LgK u l' ∧ LgB (1000000 * m) l' ∧ l'.fs = l.fs ∧ l'.ends = l.ends ∧ KSt w Rep pj l' S' g l.ends u26 l.fs xs u25 wx)
        case first =>
          as_aux_lemma =>
            by_cases hf : r < fn
            · have hfz : (r : Int) < (fn : Int) := by omega
              obtain ⟨bF, oF, rfl, cF⟩ := ints_at (HFt.out.below HK.out.bel) (i := r) (by rw [← HN.out.2.2.2.1]; exact hf)
              obtain ⟨z, hz⟩ : ∃ z, z = ft.getD r 0 := ⟨_, rfl⟩
              rw [← hz] at cF
              clear hz
              go_wp2_with fail
              go_at_call 8
              refine (KFa.out _ _ _ _ _ _ _ _ _ _ _ HK.out).mono ?_
              rintro e w16 ⟨⟨v16, rfl⟩, S16, h16⟩
              have HK16 : Hid (KSt w Rep pj (l.fail z) S16 g l.ends u26 l.fs xs u25 w16) := h16
              clear h16
              go_wp2_with fail
              go_meet
              case rel => exact ⟨l.fail z, S16, (lgk_fail HLk.out z).1, lgb_fail HLb.out z, rfl, rfl, HK16.out⟩
            · have hfz : ¬ (r : Int) < (fn : Int) := by omega
              go_wp2_with fail
              go_meet
              case rel => exact ⟨l, S, HLk.out, HLb.out, rfl, rfl, HK.out⟩
        case rest =>
        as_aux_lemma =>
        obtain ⟨l0, S0, hlk, hlb, hfs, hes, hks⟩ := hcut
        rw [← hfs, ← hes] at hks
        obtain ⟨wa, hwa⟩ : ∃ x, x = wc := ⟨_, rfl⟩
        subst hwa
        have HLk0 : Hid (LgK u l0) := hlk
        have HLb0 : Hid (LgB (1000000 * m) l0) := hlb
        have HKa : Hid (KSt w Rep pj l0 S0 g l0.ends u26 l0.fs xs u25 wa) := hks
        clear hlk hlb hfs hes hks HLk HLb HK hz1 hz2
        go_wp2
        go_loopw [25, 26, 27, 29] (fun vd vm av kv wx => ∃ k mm : Nat, k ≤ 6 ∧ kv = .int .i64 k ∧ av = .int .i64 mm ∧ mm ≤ 6 * r + k ∧ ∃ l S g xs, LgK u l ∧ LgB (1000000 * mm) l ∧ KSt w Rep pj l S g l.ends vm l.fs xs vd wx) (fun _ _ _ kv _ => 6 - (intOf kv).toNat)
        case atStart => exact ⟨0, m, Nat.zero_le _, rfl, rfl, by omega, l0, S0, g, xs, HLk0.out, HLb0.out, HKa.out⟩
        case round =>
          as_aux_lemma =>
          clear HLk0 HLb0 HKa
          obtain ⟨k, mm, hk, rfl, rfl, hmm, l, S, g, xs, hlk, hlb, hks⟩ := hrel
          have HLk : Hid (LgK u l) := hlk
          have HLb : Hid (LgB (1000000 * mm) l) := hlb
          have HK : Hid (KSt w Rep pj l S g l.ends u26 l.fs xs u25 wr) := hks
          clear hlk hlb hks
          by_cases hlt : k < 6 ∧ mm < n
          · obtain ⟨hk6, hmn⟩ := hlt
            have hz1 : (k : Int) < 6 := by omega
            have hz2 : (mm : Int) < (n : Int) := by omega
            go_upto_region 31 with fail
            go_cut [177] from 145 to 177 (fun x wx => x = .bool false ∧ ∃ l' S', LgK u l' ∧ LgB (1000000 * mm) l' ∧ l'.fs = l.fs ∧ l'.ends = l.ends ∧ KSt w Rep pj l' S' g l.ends u26 l.fs xs u25 wx)
            case first =>
              as_aux_lemma =>
                by_cases hs : mm < sn
                · have hsz : (mm : Int) < (sn : Int) := by omega
                  obtain ⟨bS, oS, rfl, cS⟩ := ints_at (HSt.out.below HK.out.bel) (i := mm) (by rw [← HN.out.2.2.1]; exact hs)
                  obtain ⟨z, hz⟩ : ∃ z, z = st.getD mm 0 := ⟨_, rfl⟩
                  rw [← hz] at cS
                  clear hz
                  by_cases hz1 : z = 1
                  · subst hz1
                    obtain ⟨y1, y2, y3, y4, y5⟩ := lgk_sync HLk.out
                    have HLk5 : Hid (LgK u l.sync) := y1
                    have HLb5 : Hid (LgB (1000000 * mm) l.sync) := lgb_sync HLb.out
                    have HFE : Hid (l.sync.fs = l.fs ∧ l.sync.ends = l.ends) := ⟨y2, y3⟩
                    have HSE : Hid (l.syncE = 0 → l.sync.safe = l.sync.bytes) := y4
                    clear y1 y2 y3 y4 y5
                    by_cases hse : l.syncE = 0
                    · have HSn : Hid (Calls Tryz.prog 11 #[.pointer (some pj)] wr fun e w' => ∃ S', e = .returned .nilIface ∧ KSt w Rep pj l.sync S' g l.ends u26 l.fs xs u25 w') := by
                        have h := KSy.out _ _ _ _ _ _ _ _ _ _ HK.out
                        rw [hse] at h
                        exact h
                      have HEq : Hid (l.sync.safe = l.sync.bytes) := HSE.out hse
                      clear hse
                      go_wp2_with fail
                      go_at_call 11
                      refine HSn.out.mono ?_
                      rintro e w17 ⟨S17, rfl, h17⟩
                      have HK17 : Hid (KSt w Rep pj l.sync S17 g l.ends u26 l.fs xs u25 w17) := h17
                      clear h17
                      go_wp2_with fail
                      go_at_call 15
                      refine (KSf.out _ _ _ _ _ _ _ _ _ _ HK17.out).mono ?_
                      rintro e w18 ⟨rfl, hb⟩
                      have HK18 : Hid (KSt w Rep pj l.sync S17 g l.ends u26 l.fs xs u25 w18) := HK17.out.step Hok.out hb
                      rw [HEq.out]
                      clear hb
                      go_wp2_with fail
                      go_at_call 16
                      refine (KBy.out _ _ _ _ _ _ _ _ _ _ HK18.out).mono ?_
                      rintro e w19 ⟨rfl, hb⟩
                      have HK19 : Hid (KSt w Rep pj l.sync S17 g l.ends u26 l.fs xs u25 w19) := HK18.out.step Hok.out hb
                      clear hb
                      go_wp2_with fail
                      go_meet
                      case rel => exact ⟨by first | rfl | simp, l.sync, S17, HLk5.out, HLb5.out, HFE.out.1, HFE.out.2, HK19.out⟩
                    · have HSn : Hid (Calls Tryz.prog 11 #[.pointer (some pj)] wr fun e w' => ∃ S' F, e = .returned (.iface 64 (.int .i64 F)) ∧ KSt w Rep pj l.sync S' g l.ends u26 l.fs xs u25 w') := by
                        have h := KSy.out _ _ _ _ _ _ _ _ _ _ HK.out
                        rw [errV_no hse] at h
                        exact h.mono fun e w' ⟨S', h1, h2⟩ => ⟨S', _, h1, h2⟩
                      clear hse
                      go_wp2_with fail
                      go_at_call 11
                      refine HSn.out.mono ?_
                      rintro e w17 ⟨S17, F17, rfl, h17⟩
                      have HK17 : Hid (KSt w Rep pj l.sync S17 g l.ends u26 l.fs xs u25 w17) := h17
                      clear h17
                      go_wp2_with fail
                      go_meet
                      case rel => exact ⟨rfl, l.sync, S17, HLk5.out, HLb5.out, HFE.out.1, HFE.out.2, HK17.out⟩
                  · have hz1z : (z == 1) = false := by simpa using hz1
                    clear hz1
                    go_wp2_with fail
                    go_meet
                    case rel => exact ⟨rfl, l, S, HLk.out, HLb.out, rfl, rfl, HK.out⟩
                · have hsz : ¬ (mm : Int) < (sn : Int) := by omega
                  go_wp2_with fail
                  go_meet
                  case rel => exact ⟨rfl, l, S, HLk.out, HLb.out, rfl, rfl, HK.out⟩
            case rest =>
            as_aux_lemma =>
            obtain ⟨rfl, l1, S1, hlk, hlb, hfs, hes, hks⟩ := hcut
            rw [← hfs, ← hes] at hks
            obtain ⟨wb, hwb⟩ : ∃ x, x = wc := ⟨_, rfl⟩
            subst hwb
            have HLk1 : Hid (LgK u l1) := hlk
            have HLb1 : Hid (LgB (1000000 * mm) l1) := hlb
            have HKb : Hid (KSt w Rep pj l1 S1 g l1.ends u26 l1.fs xs u25 wb) := hks
            clear hlk hlb hfs hes hks HLk HLb HK hz1
            go_upto_region 33 with fail
            go_cut [30] from 145 to 188 (fun x wx => ∃ h : Bool, x = .bool h ∧ wb = wx)
            case first =>
              as_aux_lemma =>
                by_cases hd : mm < dn
                · have hdz : ¬ (dn : Int) ≤ (mm : Int) := by omega
                  have hdz2 : (mm : Int) < (dn : Int) := by omega
                  obtain ⟨bD, oD, rfl, cD⟩ := ints_at (HDt.out.below HKb.out.bel) (i := mm) (by rw [← HN.out.2.1]; exact hd)
                  obtain ⟨z, hz⟩ : ∃ z, z = dt.getD mm 0 := ⟨_, rfl⟩
                  rw [← hz] at cD
                  clear hz
                  go_wp2_with fail
                  go_meet
                  case rel => exact ⟨_, rfl, rfl⟩
                · have hdz : (dn : Int) ≤ (mm : Int) := by omega
                  go_wp2_with fail
                  go_meet
                  case rel => exact ⟨_, rfl, rfl⟩
            case rest =>
            as_aux_lemma =>
            obtain ⟨h, rfl, hwc⟩ := hcut
            subst hwc
            obtain ⟨a, haj⟩ : ∃ a, ats[mm]? = some a := ⟨_, List.getElem?_eq_getElem (by rw [← HN.out.1]; exact hmn)⟩
            obtain ⟨bT, oT, vs, vt, hao, hcl⟩ : ∃ bT oT vs vt, lo = some ⟨bT, oT, none⟩ ∧ ∀ W, Below w.heap.size w W → (W.cell? ⟨bT, oT + mm * 4, none⟩ = some (.int .i64 a.k) ∧ W.cell? ⟨bT, oT + mm * 4 + 1, none⟩ = some vs ∧ W.cell? ⟨bT, oT + mm * 4 + 2, none⟩ = some vt ∧ W.cell? ⟨bT, oT + mm * 4 + 3, none⟩ = some (.int .i64 a.n)) ∧ Reads W vs a.s ∧ Reads W vt a.t := by
              rcases HA.out with ⟨ao', cap, hv, h0⟩ | ⟨b, off, cap, hv, hb, _, _, hcell⟩
              · rw [h0] at haj; simp at haj
              · obtain ⟨h1, _, _⟩ := Value.slice.inj hv
                obtain ⟨vs, vt, c0, c1, c2, c3, hs, ht⟩ := hcell mm a haj
                exact ⟨b, off, vs, vt, h1, fun W hW => ⟨⟨(hW.cell hb).trans c0, (hW.cell hb).trans c1, (hW.cell hb).trans c2, (hW.cell hb).trans c3⟩, hs.below hW, ht.below hW⟩⟩
            subst hao
            have HCl : Hid (∀ W, Below w.heap.size w W → W.cell? ⟨bT, oT + mm * 4, none⟩ = some (.int .i64 a.k) ∧ W.cell? ⟨bT, oT + mm * 4 + 1, none⟩ = some vs ∧ W.cell? ⟨bT, oT + mm * 4 + 2, none⟩ = some vt ∧ W.cell? ⟨bT, oT + mm * 4 + 3, none⟩ = some (.int .i64 a.n)) := fun W hW => (hcl W hW).1
            have HAtm : Hid (∀ W, Below w.heap.size w W → Calls Tryz.prog 18 #[.agg #[.int .i64 a.k, vs, vt, .int .i64 a.n]] W fun e w' => e = .returned (.int .i64 a.fault) ∧ Below W.heap.size W w') := fun W hW => refAtom_any a.k a.n vs vt a.s a.t W (hcl W hW).2.1 (hcl W hW).2.2
            have HAlo : Hid (∀ W S, Below w.heap.size w W → (∀ b, S b → w.heap.size ≤ b) → (∀ b, S b → b < W.heap.size) → Calls Tryz.prog 19 #[.agg #[.int .i64 a.k, vs, vt, .int .i64 a.n], .bool h] W fun e w' => ∃ o1 l1 c1 o2 l2 c2, e = .returned (.agg #[.slice o1 l1 c1, .slice o2 l2 c2]) ∧ Kp S w' (fun X => ReadsA X (.slice o1 l1 c1) (aloneF a h).ats ∧ Reads X (.slice o2 l2 c2) (aloneF a h).c) ∧ Below W.heap.size W w') := fun W S hW hge hlt => refAlone_kp a h vs vt W S hlt (fun X hX => (hcl X (hX.old hge hW)).2.1) (fun X hX => (hcl X (hX.old hge hW)).2.2)
            have HSa : Hid (∀ l S g es vm fs xs vd W, KSt w Rep pj l S g es vm fs xs vd W → Calls Tryz.prog 9 #[.pointer (some pj), .agg #[.int .i64 a.k, vs, vt, .int .i64 a.n], .bool h] W fun e w' => ∃ n S', (2 ≤ n ∧ n ≤ 1000000) ∧ e = .returned (errV (l.sayE a h)) ∧ KSt w Rep pj (l.say a h n) S' g es vm fs xs vd w' ∧ LKeep S W w' ∧ Grows S S' W) := fun l S g es vm fs xs vd W hl => KSa.out pj l S g es vm fs xs vd W a h vs vt hl (hcl W hl.bel).2.1 (hcl W hl.bel).2.2
            obtain ⟨s1, s2, s3, hvs⟩ : ∃ s1 s2 s3, vs = .slice s1 s2 s3 := by obtain ⟨x, y, h1, _⟩ := (hcl w (Below.refl _ _)).2.1.slice; exact ⟨x, _, y, h1⟩
            obtain ⟨t1, t2, t3, hvt⟩ : ∃ t1 t2 t3, vt = .slice t1 t2 t3 := by obtain ⟨x, y, h1, _⟩ := (hcl w (Below.refl _ _)).2.2.slice; exact ⟨x, _, y, h1⟩
            subst hvs hvt
            clear hcl haj
            obtain ⟨ak, hak⟩ : ∃ x, x = a.k := ⟨_, rfl⟩
            obtain ⟨an, han⟩ : ∃ x, x = a.n := ⟨_, rfl⟩
            obtain ⟨F, hF⟩ : ∃ x, x = a.fault := ⟨_, rfl⟩
            obtain ⟨nf, hnf⟩ : ∃ x, x = l1.fs.length := ⟨_, rfl⟩
            rw [← hak] at HCl HAtm HAlo HSa
            rw [← han] at HCl HAtm HAlo HSa
            rw [← hF] at HAtm
            have HF : Hid (F = a.fault) := hF
            have HNf : Hid (nf = l1.fs.length) := hnf
            have hnf6 : nf ≤ 6 := by rw [hnf]; exact HLk1.out.n6
            obtain ⟨od, cd, hud⟩ : ∃ od cd, u25 = .slice od nf cd := by obtain ⟨o, c, h1⟩ := HKb.out.row.now.slice; exact ⟨o, c, by rw [hnf]; exact h1⟩
            subst hud
            clear hak han hF hnf
            obtain ⟨c0, c1, c2, c3⟩ := HCl.out _ HKb.out.bel
            go_wp2_with fail
            go_at_call 18
            refine (HAtm.out _ HKb.out.bel).mono ?_
            rintro e w20 ⟨rfl, hb⟩
            have HK20 : Hid (KSt w Rep pj l1 S1 g l1.ends u26 l1.fs xs (.slice od nf cd) w20) := HKb.out.step Hok.out hb
            clear hb c0 c1 c2 c3 HKb HAtm
            obtain ⟨E1, hE1⟩ : ∃ x : Int, x = if F = 0 ∧ 6 ≤ nf then 4 else F := ⟨_, rfl⟩
            have HE1 : Hid (E1 = if F = 0 ∧ 6 ≤ nf then 4 else F) := hE1
            clear hE1
            go_upto_region 35 with fail
            go_cut [31, 200] from 145 to 200 (fun s x wx => (s = .int .i64 F ∧ ∃ b : Bool, x = .bool b ∧ ((b = true ∧ E1 = 4) ∨ (b = false ∧ E1 = F))) ∧ w20 = wx)
            case first =>
              as_aux_lemma =>
                by_cases hF0 : F = 0
                · have hb0 : (F == 0) = true := by simpa using hF0
                  by_cases h6 : 6 ≤ nf
                  · have h6z : (6 : Int) ≤ (nf : Int) := by omega
                    have He : Hid (E1 = 4) := by have h := HE1.out; rw [if_pos ⟨hF0, h6⟩] at h; exact h
                    clear hF0
                    go_wp2_with fail
                    go_meet
                    case rel => exact ⟨⟨rfl, true, by first | rfl | simp, Or.inl ⟨rfl, He.out⟩⟩, rfl⟩
                  · have h6z : ¬ (6 : Int) ≤ (nf : Int) := by omega
                    have He : Hid (E1 = F) := by have h := HE1.out; rw [if_neg (fun h => h6 h.2)] at h; exact h
                    clear hF0
                    go_wp2_with fail
                    go_meet
                    case rel => exact ⟨⟨rfl, false, by first | rfl | simp, Or.inr ⟨rfl, He.out⟩⟩, rfl⟩
                · have hb0 : (F == 0) = false := by simpa using hF0
                  have He : Hid (E1 = F) := by have h := HE1.out; rw [if_neg (fun h => hF0 h.1)] at h; exact h
                  clear hF0
                  go_wp2_with fail
                  go_meet
                  case rel => exact ⟨⟨rfl, false, by first | rfl | simp, Or.inr ⟨rfl, He.out⟩⟩, rfl⟩
            case rest =>
            as_aux_lemma =>
            obtain ⟨⟨rfl, b, rfl, hbe⟩, hwc⟩ := hcut
            subst hwc
            have HBe : Hid ((b = true ∧ E1 = 4) ∨ (b = false ∧ E1 = F)) := hbe
            clear hbe
            go_upto_if 200 with fail
            go_cut [31] from 145 to 200 (fun s wx => s = .int .i64 E1 ∧ w20 = wx)
            case first =>
              as_aux_lemma =>
                rcases HBe.out with ⟨rfl, he⟩ | ⟨rfl, he⟩
                · have He : Hid (E1 = 4) := he
                  clear he
                  go_wp2_with fail
                  go_meet
                  case rel => exact ⟨by rw [He.out], rfl⟩
                · have He : Hid (E1 = F) := he
                  clear he
                  go_wp2_with fail
                  go_meet
                  case rel => exact ⟨by rw [He.out], rfl⟩
            case rest =>
            as_aux_lemma =>
            obtain ⟨rfl, hwc⟩ := hcut
            subst hwc
            clear HBe
            have HXs : Hid (xs.length = nf * 2 ∧ ((nf = 0 ∧ od = none ∧ cd = 0) ∨ ∃ bd, od = some ⟨bd, 0, none⟩ ∧ ∀ j v, xs[j]? = some v → w20.cell? ⟨bd, j, none⟩ = some v)) := by
              have h := HK20.out.row.now
              rw [← HNf.out] at h
              refine ⟨h.1, ?_⟩
              rcases h.2 with ⟨h0, hv⟩ | ⟨bd, c, hv, _, _, _, hcell⟩
              · obtain ⟨q1, _, q3⟩ := Value.slice.inj hv
                exact Or.inl ⟨h0, q1, q3⟩
              · obtain ⟨q1, _, _⟩ := Value.slice.inj hv
                exact Or.inr ⟨bd, q1, hcell⟩
            have HOc : Hid (∀ v ∈ xs, v.oneCell' = true) := HK20.out.cel.now.2.1
            go_upto_region 38 with fail
            go_cut [32] from 145 to 203 (fun x wx => Below w20.heap.size w20 wx ∧ wx.ownsRow w20.heap.size 39 2 x nf xs)
            case first =>
              as_aux_lemma =>
                obtain ⟨hxl, hcase⟩ := HXs.out
                rcases hcase with ⟨h0, rfl, rfl⟩ | ⟨bd, rfl, hcell⟩
                · have HX0 : Hid (nf = 0 ∧ xs = []) := ⟨h0, List.eq_nil_of_length_eq_zero (by rw [hxl, h0])⟩
                  clear hxl h0
                  obtain ⟨i1, hi1⟩ : ∃ i, Tryz.prog.info? 39 = some i := Option.isSome_iff_exists.1 infoFe
                  go_wp2_with (at_builtin; refine wpList_append_own_none rfl _ _ 34 rfl w20.heap.size 39 i1 2 Tryz.underlying34 hi1 (.slice none 0 0) 0 [] rfl (World.ownsRow_nil _ _ _ _) (by first | rfl | (show Value.slice none _ 0 = _; rw [HX0.out.1])) ?_)
                  go_wp2_with fail
                  go_meet
                  case rel => exact ⟨Below.refl _ _, by rw [HX0.out.1, HX0.out.2]; exact World.ownsRow_nil _ _ _ _⟩
                · have HCe : Hid (∀ j v, xs[j]? = some v → w20.cell? ⟨bd, 0 + j, none⟩ = some v) := fun j v hj => by rw [Nat.zero_add]; exact hcell j v hj
                  have HXl : Hid (xs.length = nf * 2) := hxl
                  clear hcell hxl
                  go_wp2_with (at_builtin; refine append_forms rfl _ _ rfl w20.heap.size (.slice none 0 0) rfl 0 [] xs nf cd bd 0 rfl (World.ownsRow_nil _ _ _ _) HXl.out HOc.out HCe.out (Nat.le_refl _) (by omega) ?_)
                  intro v9 w9 hown hgrow
                  have HOn : Hid (w9.ownsRow w20.heap.size 39 2 v9 nf xs) := by first | exact hown | (have h := hown; rw [Nat.zero_add, List.nil_append] at h; exact h)
                  have HB9 : Hid (Below w20.heap.size w20 w9) := ⟨hgrow.os, hgrow.tape, hgrow.output, hgrow.size, fun b hb => hgrow.block b hb (by simp [Value.ownBlock])⟩
                  clear hown hgrow
                  go_wp2_with fail
                  go_meet
                  case rel => exact ⟨HB9.out, HOn.out⟩
            case rest =>
            as_aux_lemma =>
            obtain ⟨hb, hown⟩ := hcut
            obtain ⟨w21, hw21⟩ : ∃ x, x = wc := ⟨_, rfl⟩
            subst hw21
            have HB21 : Hid (Below w20.heap.size w20 w21) := hb
            have HOn : Hid (w21.ownsRow w20.heap.size 39 2 u32 nf xs) := hown
            have HK21 : Hid (KSt w Rep pj l1 S1 g l1.ends u26 l1.fs xs (.slice od nf cd) w21) := HK20.out.step Hok.out hb
            have HLt : Hid (∀ b, Off S1 g b → b < w20.heap.size) := HK20.out.lt Hok.out
            clear hb hown HXs
            obtain ⟨R0, hR0⟩ : ∃ x, x = sayR u l1.fs a h := ⟨_, rfl⟩
            have HR0 : Hid (R0 = sayR u l1.fs a h) := hR0
            clear hR0
            go_upto_if 205 with fail
            go_cut [31, 32, 33] from 145 to 219 (fun s x _ wx => Below w20.heap.size w20 wx ∧ s = .int .i64 R0 ∧ (R0 = 0 → ∃ xs', Kp (Off S1 g) wx (fun X => RowF X x xs' (nf + 1)) ∧ Kp (Off S1 g) wx (fun X => CellsF X xs' (l1.fs ++ [aloneF a h]))))
            case first =>
              as_aux_lemma =>
                by_cases hE0 : E1 = 0
                · have hb0 : (E1 == 0) = true := by simpa using hE0
                  have hF6 : F = 0 ∧ ¬ 6 ≤ nf := by
                    have h := HE1.out
                    by_cases hq : F = 0 ∧ 6 ≤ nf
                    · rw [if_pos hq] at h; omega
                    · rw [if_neg hq] at h; exact ⟨by omega, fun h6 => hq ⟨by omega, h6⟩⟩
                  have HRo : Hid (R0 = if openN (l1.fs ++ [aloneF a h]) u.toNat = true then 0 else 7) := by
                    unfold Hid
                    rw [HR0.out]
                    exact sayR_open (by rw [← HF.out]; exact hF6.1) (by rw [← HNf.out]; exact hF6.2)
                  have HGd : Hid (∀ f ∈ l1.fs ++ [aloneF a h], f.fault = 0) := fun f hf => by
                    rcases List.mem_append.1 hf with hf | hf
                    · obtain ⟨a', h', rfl, ha'⟩ := HLk1.out.good f hf
                      exact alone_right ha' h'
                    · obtain rfl : f = aloneF a h := by simpa using hf
                      exact alone_right (by rw [← HF.out]; exact hF6.1) h
                  have HE0 : Hid (E1 = 0) := hE0
                  clear hE0 hF6
                  obtain ⟨c0, c1, c2, c3⟩ := HCl.out _ HK21.out.bel
                  go_wp2_with fail
                  go_at_call 19
                  obtain ⟨T, hT⟩ : ∃ T : Nat → Prop, T = fun b => Off S1 g b ∨ Value.ownBlock u32 = some b := ⟨_, rfl⟩
                  have hTge : ∀ b, T b → w.heap.size ≤ b := fun b hb => by
                    rw [hT] at hb
                    rcases hb with hb | hb
                    · exact HK21.out.geo b hb
                    · exact Nat.le_trans HK20.out.bel.size (HOn.out.lt b hb).1
                  have hTlt : ∀ b, T b → b < w21.heap.size := fun b hb => by
                    rw [hT] at hb
                    rcases hb with hb | hb
                    · exact HK21.out.lt Hok.out b hb
                    · exact (HOn.out.lt b hb).2
                  have HTT : Hid (T = fun b => Off S1 g b ∨ Value.ownBlock u32 = some b) := hT
                  have HAl1 : Hid (Calls Tryz.prog 19 #[.agg #[.int .i64 ak, .slice s1 s2 s3, .slice t1 t2 t3, .int .i64 an], .bool h] w21 fun e w' => ∃ o1 l1 c1 o2 l2 c2, e = .returned (.agg #[.slice o1 l1 c1, .slice o2 l2 c2]) ∧ Kp T w' (fun X => ReadsA X (.slice o1 l1 c1) (aloneF a h).ats ∧ Reads X (.slice o2 l2 c2) (aloneF a h).c) ∧ Below w21.heap.size w21 w') := HAlo.out w21 T HK21.out.bel hTge hTlt
                  clear hT hTge hTlt
                  refine HAl1.out.mono ?_
                  rintro e w22 ⟨o1, p1, q1, o2, p2, q2, rfl, hkp, hb⟩
                  have HB22 : Hid (Below w21.heap.size w21 w22) := hb
                  have HKp22 : Hid (Kp T w22 (fun X => ReadsA X (.slice o1 p1 q1) (aloneF a h).ats ∧ Reads X (.slice o2 p2 q2) (aloneF a h).c)) := hkp
                  have HO22 : Hid (w22.ownsRow w20.heap.size 39 2 u32 nf xs) := own_keep HOn.out fun b e => hb.block b (HOn.out.lt b e).2
                  clear hb hkp c0 c1 c2 c3
                  have HS22 : Hid (w20.heap.size ≤ w22.heap.size) := Nat.le_trans HB21.out.size HB22.out.size
                  go_wp2_with (at_builtin; refine append_forms rfl _ _ rfl w20.heap.size u32 rfl nf xs [.slice o1 p1 q1, .slice o2 p2 q2] 1 1 w22.heap.size 0 rfl (HO22.out.alloc _) rfl (by intro v hv; simp at hv; rcases hv with rfl | rfl <;> rfl) (fun j v hj => ?hcell) (by have := HS22.out; simp; omega) (by omega) ?_)
                  case hcell =>
                    have hk : Blk (w22.alloc (.cells #[.slice o1 p1 q1, .slice o2 p2 q2] 39)) w22.heap.size 39 #[.slice o1 p1 q1, .slice o2 p2 q2] := Blk.new _ _ _
                    have := hk.cell (0 + j)
                    rw [← Array.getElem?_toList, Nat.zero_add] at this
                    rw [Nat.zero_add]
                    exact this.trans hj
                  intro v9 w9 hown hgrow
                  have hvb : ∀ b, Value.ownBlock u32 = some b → w20.heap.size ≤ b := fun b e => (HOn.out.lt b e).1
                  have HB9 : Hid (Below w20.heap.size w20 w9) := by
                    have hq : Below w20.heap.size w20 w22 := HB21.out.trans (HB22.out.mono HB21.out.size)
                    exact (hq.alloc HS22.out _).grown hgrow (by simp; have := HS22.out; omega) hvb
                  have HKp9 : Hid (Kp (Off S1 g) w9 (fun X => ReadsA X (.slice o1 p1 q1) (aloneF a h).ats ∧ Reads X (.slice o2 p2 q2) (aloneF a h).c)) := by
                    refine Kp.move HKp22.out (S' := Off S1 g) ⟨hgrow.os, hgrow.tape, hgrow.output, Nat.le_trans (by simp) hgrow.size, fun b hb hs => ?_⟩ (fun b hb => Or.inl (by rw [HTT.out]; exact Or.inl hb))
                    rw [HTT.out] at hs
                    exact (hgrow.block b (by simp; omega) fun e => hs (Or.inr e.symm)).trans (Below.heap_alloc _ _ _ hb)
                  have HRow : Hid (Kp (Off S1 g) w9 (fun X => RowF X v9 (xs ++ [.slice o1 p1 q1, .slice o2 p2 q2]) (nf + 1))) := own_rowF hown HLt.out
                  have HCel : Hid (Kp (Off S1 g) w9 (fun X => CellsF X (xs ++ [.slice o1 p1 q1, .slice o2 p2 q2]) (l1.fs ++ [aloneF a h]))) := fun X hX => (HK20.out.cel.step HB9.out X hX).append (CellsF.one rfl rfl (HKp9.out X hX).1 (HKp9.out X hX).2)
                  have HRd : Hid (ReadsF w9 v9 (l1.fs ++ [aloneF a h])) := by
                    have hlen : nf + 1 = (l1.fs ++ [aloneF a h]).length := by rw [List.length_append, ← HNf.out]; rfl
                    have hr := HRow.out.now
                    rw [hlen] at hr
                    exact hr.reads HCel.out.now (by rw [← hlen]; omega)
                  clear hown hgrow hvb
                  go_wp2_with fail
                  go_at_call 20
                  refine (HOpR.out _ _ _ HGd.out HRd.out).mono ?_
                  rintro e w23 ⟨rfl, hb⟩
                  have HB23 : Hid (Below w20.heap.size w20 w23) := HB9.out.trans (hb.mono HB9.out.size)
                  have HRow3 : Hid (Kp (Off S1 g) w23 (fun X => RowF X v9 (xs ++ [.slice o1 p1 q1, .slice o2 p2 q2]) (nf + 1))) := HRow.out.step hb
                  have HCel3 : Hid (Kp (Off S1 g) w23 (fun X => CellsF X (xs ++ [.slice o1 p1 q1, .slice o2 p2 q2]) (l1.fs ++ [aloneF a h]))) := HCel.out.step hb
                  obtain ⟨ob, hob⟩ : ∃ x, x = openN (l1.fs ++ [aloneF a h]) u.toNat := ⟨_, rfl⟩
                  rw [← hob] at HRo ⊢
                  clear hb hob
                  cases ob with
                  | true =>
                    have HR9 : Hid (R0 = 0) := by have h := HRo.out; rw [if_pos rfl] at h; exact h
                    clear HRo
                    go_wp2_with fail
                    go_meet
                    case rel => exact ⟨HB23.out, by rw [HE0.out, HR9.out], fun _ => ⟨_, HRow3.out, HCel3.out⟩⟩
                  | false =>
                    have HR9 : Hid (R0 = 7) := by have h := HRo.out; rw [if_neg (by decide)] at h; exact h
                    clear HRo
                    go_wp2_with fail
                    go_meet
                    case rel => exact ⟨HB23.out, by rw [HR9.out], fun h0 => by rw [HR9.out] at h0; exact absurd h0 (by decide)⟩
                · have hb0 : (E1 == 0) = false := by simpa using hE0
                  have HRo : Hid (E1 = R0 ∧ ¬ R0 = 0) := by
                    have h := HE1.out
                    have hr := HR0.out
                    by_cases hF0 : F = 0
                    · by_cases h6 : 6 ≤ nf
                      · rw [if_pos ⟨hF0, h6⟩] at h
                        rw [sayR_full (by rw [← HF.out]; exact hF0) (by rw [← HNf.out]; exact h6)] at hr
                        exact ⟨by omega, by omega⟩
                      · rw [if_neg (fun q => h6 q.2)] at h
                        exact absurd (h.trans hF0) hE0
                    · rw [if_neg (fun q => hF0 q.1)] at h
                      rw [sayR_bad (by rw [← HF.out]; exact hF0), ← HF.out] at hr
                      exact ⟨by omega, by omega⟩
                  clear hE0
                  go_wp2_with fail
                  go_meet
                  case rel => exact ⟨HB21.out, by rw [HRo.out.1], fun h0 => absurd h0 HRo.out.2⟩
            case rest =>
            as_aux_lemma =>
            obtain ⟨hb, rfl, hnx⟩ := hcut
            obtain ⟨w24, hw24⟩ : ∃ x, x = wc := ⟨_, rfl⟩
            subst hw24
            have HNx : Hid (R0 = 0 → ∃ xs', Kp (Off S1 g) w24 (fun X => RowF X u32 xs' (nf + 1)) ∧ Kp (Off S1 g) w24 (fun X => CellsF X xs' (l1.fs ++ [aloneF a h]))) := hnx
            have HK24 : Hid (KSt w Rep pj l1 S1 g l1.ends u26 l1.fs xs (.slice od nf cd) w24) := HK20.out.step Hok.out hb
            clear hb hnx HB21 HOn HK21 HLt HE1 HK20 HOc HAlo
            have HBb : Hid (0 ≤ l1.bytes ∧ l1.bytes ≤ 24000000) := by
              have h1 := HLb1.out
              exact ⟨Int.le_trans h1.s0 h1.sb, Int.le_trans h1.bm (by omega)⟩
            obtain ⟨B1, hB1⟩ : ∃ x, x = l1.bytes := ⟨_, rfl⟩
            have HB1 : Hid (B1 = l1.bytes) := hB1
            obtain ⟨hbb1, hbb2⟩ := HBb.out
            rw [← hB1] at hbb1 hbb2
            have HBy1 : Hid (Calls Tryz.prog 16 #[.pointer (some pj)] w24 fun e w' => e = .returned (.int .i64 B1) ∧ Below w24.heap.size w24 w') := by
              have h := KBy.out _ _ _ _ _ _ _ _ _ _ HK24.out
              rw [← hB1] at h
              exact h
            clear hB1 HBb
            go_wp2_with fail
            go_at_call 16
            refine HBy1.out.mono ?_
            rintro e w25 ⟨rfl, hb⟩
            have HK25 : Hid (KSt w Rep pj l1 S1 g l1.ends u26 l1.fs xs (.slice od nf cd) w25) := HK24.out.step Hok.out hb
            have HNx5 : Hid (R0 = 0 → ∃ xs', Kp (Off S1 g) w25 (fun X => RowF X u32 xs' (nf + 1)) ∧ Kp (Off S1 g) w25 (fun X => CellsF X xs' (l1.fs ++ [aloneF a h]))) := fun h0 => by
              obtain ⟨xs', k1, k2⟩ := HNx.out h0
              exact ⟨xs', k1.step hb, k2.step hb⟩
            clear hb HNx HK24 HBy1
            obtain ⟨c0, c1, c2, c3⟩ := HCl.out _ HK25.out.bel
            by_cases hse : l1.sayE a h = 0
            · have HSk : Hid (Calls Tryz.prog 9 #[.pointer (some pj), .agg #[.int .i64 ak, .slice s1 s2 s3, .slice t1 t2 t3, .int .i64 an], .bool h] w25 fun e w' => e = .returned .nilIface ∧ ∃ l2 S2 xs' B2, (R0 = 0 ∧ B1 + 2 ≤ B2 ∧ B2 = l2.bytes ∧ l2.fs = l1.fs ++ [aloneF a h] ∧ l2.ends = l1.ends ++ [B2]) ∧ LgK u l2 ∧ LgB (1000000 * (mm + 1 : Nat)) l2 ∧ KSt w Rep pj l2 S2 g l1.ends u26 (l1.fs ++ [aloneF a h]) xs' u32 w') := by
                have hc := HSa.out _ _ _ _ _ _ _ _ _ HK25.out
                rw [hse] at hc
                refine hc.mono ?_
                rintro e w' ⟨n5, S5, hn5, rfl, h5, hk5, hg5⟩
                obtain ⟨q1, q2⟩ := lgk_say HLk1.out a h hn5.1
                rcases q2 with ⟨_, r1, r2, r3, r4⟩ | ⟨r0, _⟩
                · have hR : R0 = 0 := by rw [HR0.out]; exact r1
                  obtain ⟨xs', k1, k2⟩ := HNx5.out hR
                  have hlen : nf + 1 = (l1.fs ++ [aloneF a h]).length := by rw [List.length_append, ← HNf.out]; rfl
                  rw [hlen] at k1
                  refine ⟨rfl, l1.say a h n5, S5, xs', l1.bytes + n5, ⟨hR, by rw [HB1.out]; omega, r4.symm, r2, r3⟩, q1, ?_, h5.put (k1.move (hk5.off g) (hg5.offs g)) (k2.move (hk5.off g) (hg5.offs g))⟩
                  exact (lgb_say HLb1.out a h hn5).mono (by push_cast; omega)
                · exact absurd hse r0
              clear hse
              go_wp2_with fail
              go_at_call 9
              refine HSk.out.mono ?_
              rintro e w26 ⟨rfl, l2, S5, xs2, B2, ⟨hR, hBB, hB2, hfs2, hes2⟩, hlk2, hlb2, h26⟩
              have HK26 : Hid (KSt w Rep pj l2 S5 g l1.ends u26 (l1.fs ++ [aloneF a h]) xs2 u32 w26) := h26
              have HLk2 : Hid (LgK u l2) := hlk2
              have HLb2 : Hid (LgB (1000000 * (mm + 1 : Nat)) l2) := hlb2
              have HR9 : Hid (R0 = 0) := hR
              have HFE : Hid (l2.fs = l1.fs ++ [aloneF a h] ∧ l2.ends = l1.ends ++ [B2]) := ⟨hfs2, hes2⟩
              have HBy2 : Hid (∀ W vm, KSt w Rep pj l2 S5 g l1.ends vm (l1.fs ++ [aloneF a h]) xs2 u32 W → Calls Tryz.prog 16 #[.pointer (some pj)] W fun e w' => e = .returned (.int .i64 B2) ∧ Below W.heap.size W w') := fun W vm hk => by
                have h := KBy.out _ _ _ _ _ _ _ _ _ _ hk
                rw [← hB2] at h
                exact h
              have hBz : ¬ B2 < B1 + 2 := by omega
              clear h26 hlk2 hlb2 hR hfs2 hes2 hB2 hBB c0 c1 c2 c3 HK25 HNx5 HSk
              go_wp2_with fail
              go_at_call 10
              refine (HEn.out 6 _).mono ?_
              rintro e w27 ⟨rfl, rfl⟩
              have e06 : ((0 : Int) == 6) = false := by decide
              rw [e06]
              clear e06
              go_wp2_with fail
              go_at_call 10
              refine (HEn.out R0 _).mono ?_
              rintro e w27 ⟨rfl, rfl⟩
              have e0R : ((0 : Int) == R0) = true := by rw [HR9.out]; decide
              rw [e0R]
              clear e0R
              go_wp2_with fail
              go_at_call 16
              refine (HBy2.out _ _ HK26.out).mono ?_
              rintro e w28 ⟨rfl, hb⟩
              have HK28 : Hid (KSt w Rep pj l2 S5 g l1.ends u26 (l1.fs ++ [aloneF a h]) xs2 u32 w28) := HK26.out.step Hok.out hb
              clear hb HK26
              go_wp2_with fail
              go_at_call 16
              refine (HBy2.out _ _ HK28.out).mono ?_
              rintro e w29 ⟨rfl, hb⟩
              have HK29 : Hid (KSt w Rep pj l2 S5 g l1.ends u26 (l1.fs ++ [aloneF a h]) xs2 u32 w29) := HK28.out.step Hok.out hb
              clear hb HK28 hBz
              have HKa9 : Hid (KSt w Rep pj l2 S5 g l1.ends u26 (l1.fs ++ [aloneF a h]) xs2 u32 (w29.alloc (.cells #[.int .i64 B2] 3))) := HK29.out.step Hok.out (below_alloc1 _ _)
              have HL7 : Hid ((0 :: l1.ends).length ≤ 1000000) := by unfold Hid; rw [List.length_cons, HLk1.out.len]; have := HLk1.out.n6; omega
              have HKs : Hid (w.heap.size ≤ w29.heap.size) := HK29.out.bel.size
              go_wp2_with (at_builtin; refine append_long rfl _ _ rfl w.heap.size u26 rfl (0 :: l1.ends) B2 w29.heap.size 1 rfl HKa9.out.own (heap_alloc_new w29 _) (by have := HKs.out; simp; omega) HL7.out ?_)
              intro v30 w30 hown hgrow hat
              obtain ⟨g2, hk30⟩ := HKa9.out.push Hok.out (r := B2) (vm' := v30) (by first | exact hown | simpa using hown) hgrow (by first | exact hat | (rw [World.size_alloc]; exact hat))
              rw [← HFE.out.2] at hk30
              have HK30 : Hid (KSt w Rep pj l2 S5 g2 l2.ends v30 (l1.fs ++ [aloneF a h]) xs2 u32 w30) := hk30
              clear hown hgrow hat hk30 HKa9 HK29
              have HEq : Hid (l2.fs = (l1.fs ++ [aloneF a h])) := HFE.out.1
              have HAl7 : Hid (Calls Tryz.prog 13 #[.pointer (some pj)] w30 fun e w' => ∃ v, e = .returned v ∧ ReadsF w' v (l1.fs ++ [aloneF a h]) ∧ Below w30.heap.size w30 w') := by
                have h := KAl.out _ _ _ _ _ _ _ _ _ _ HK30.out
                rw [HEq.out] at h
                exact h
              have HN6 : Hid ((l1.fs ++ [aloneF a h]).length ≤ 6) := by have h := HLk2.out.n6; rw [HEq.out] at h; exact h
              go_wp2_with fail
              go_at_call 13
              refine HAl7.out.mono ?_
              rintro e w31 ⟨v31, rfl, hv31, hb⟩
              have HK31 : Hid (KSt w Rep pj l2 S5 g2 l2.ends v30 (l1.fs ++ [aloneF a h]) xs2 u32 w31) := HK30.out.step Hok.out hb
              have HFo : Hid (Calls Tryz.prog 21 #[v31, u32] w31 fun e w' => e = .returned (.bool true) ∧ Below w31.heap.size w31 w') := forms_same v31 _ _ w31 hv31 (HK31.out.reads HN6.out)
              clear hb hv31 HAl7
              go_wp2_with fail
              go_at_call 21
              refine HFo.out.mono ?_
              rintro e w32 ⟨rfl, hb⟩
              have HK32 : Hid (KSt w Rep pj l2 S5 g2 l2.ends v30 (l1.fs ++ [aloneF a h]) xs2 u32 w32) := HK31.out.step Hok.out hb
              clear hb HFo HK31
              go_wp2_with fail
              go_at_call 17
              refine (KOp.out _ _ _ _ _ _ _ _ _ _ HK32.out HLk2.out).mono ?_
              rintro e w33 ⟨rfl, hb⟩
              have HK33 : Hid (KSt w Rep pj l2 S5 g2 l2.ends v30 l2.fs xs2 u32 w33) := by unfold Hid; rw [HEq.out]; exact HK32.out.step Hok.out hb
              clear hb HK32
              go_wp2
              go_roundw
              case rel => exact ⟨k + 1, mm + 1, by omega, by go_num, by go_num, by omega, l2, S5, g2, xs2, HLk2.out, HLb2.out, HK33.out⟩
              case measure => first | (simp [intOf]; done) | (simp [intOf]; omega)
            · have HSk : Hid (Calls Tryz.prog 9 #[.pointer (some pj), .agg #[.int .i64 ak, .slice s1 s2 s3, .slice t1 t2 t3, .int .i64 an], .bool h] w25 fun e w' => ∃ Fk l2 S2, e = .returned (.iface 64 (.int .i64 Fk)) ∧ (Fk = 6 ∨ Fk = R0) ∧ (l2.fs = l1.fs ∧ l2.ends = l1.ends) ∧ LgK u l2 ∧ LgB (1000000 * (mm + 1 : Nat)) l2 ∧ KSt w Rep pj l2 S2 g l1.ends u26 l1.fs xs (.slice od nf cd) w') := by
                have hc := HSa.out _ _ _ _ _ _ _ _ _ HK25.out
                rw [errV_no hse] at hc
                refine hc.mono ?_
                rintro e w' ⟨n5, S5, hn5, rfl, h5, hk5, hg5⟩
                obtain ⟨q1, q2⟩ := lgk_say HLk1.out a h hn5.1
                have hfe : (l1.say a h n5).fs = l1.fs ∧ (l1.say a h n5).ends = l1.ends := by
                  rcases q2 with ⟨r0, _⟩ | ⟨_, r1, r2⟩
                  · exact absurd r0 hse
                  · exact ⟨r1, r2⟩
                refine ⟨l1.sayE a h, l1.say a h n5, S5, rfl, ?_, hfe, q1, (lgb_say HLb1.out a h hn5).mono (by push_cast; omega), h5⟩
                rcases keeps_told HLk1.out a h with e | e
                · exact Or.inl e
                · exact Or.inr (by rw [e, HR0.out])
              clear hse
              go_wp2_with fail
              go_at_call 9
              refine HSk.out.mono ?_
              rintro e w26 ⟨Fk, l2, S5, rfl, hFk, ⟨hfs2, hes2⟩, hlk2, hlb2, h26⟩
              rw [← hes2] at h26
              have HK26 : Hid (KSt w Rep pj l2 S5 g l2.ends u26 l1.fs xs (.slice od nf cd) w26) := h26
              have HLk2 : Hid (LgK u l2) := hlk2
              have HLb2 : Hid (LgB (1000000 * (mm + 1 : Nat)) l2) := hlb2
              have HFk : Hid (Fk = 6 ∨ Fk = R0) := hFk
              have HFE : Hid (l2.fs = l1.fs) := hfs2
              clear h26 hlk2 hlb2 hFk hfs2 hes2 c0 c1 c2 c3 HK25 HNx5 HSk
              go_wp2_with fail
              go_at_call 10
              refine (HEr.out Fk 6 _ HK26.out.bel).mono ?_
              rintro e w27 ⟨rfl, hb⟩
              have HK27 : Hid (KSt w Rep pj l2 S5 g l2.ends u26 l1.fs xs (.slice od nf cd) w27) := HK26.out.step Hok.out hb
              clear hb HK26
              go_wp2_with fail
              go_at_call 10
              refine (HEr.out Fk R0 _ HK27.out.bel).mono ?_
              rintro e w28 ⟨rfl, hb⟩
              have HK28 : Hid (KSt w Rep pj l2 S5 g l2.ends u26 l1.fs xs (.slice od nf cd) w28) := HK27.out.step Hok.out hb
              clear hb HK27
              go_upto_region 49 with fail
              go_cut [24, 36, 241] from 145 to 241 (fun _ _ x wx => x = .bool false ∧ w28 = wx)
              case first =>
                as_aux_lemma =>
                  by_cases h6 : Fk = 6
                  · have h6b : (Fk == 6) = true := by simpa using h6
                    clear h6
                    go_wp2_with fail
                    go_meet
                    case rel => exact ⟨by first | rfl | simp, rfl⟩
                  · have h6b : (Fk == 6) = false := by simpa using h6
                    have hRb : (Fk == R0) = true := by
                      rcases HFk.out with e | e
                      · exact absurd e h6
                      · simpa using e
                    clear h6
                    go_wp2_with fail
                    go_meet
                    case rel => exact ⟨by first | rfl | simp, rfl⟩
              case rest =>
              as_aux_lemma =>
              obtain ⟨rfl, hwc⟩ := hcut
              subst hwc
              have HEq : Hid (l2.fs = l1.fs) := HFE.out
              have HAl7 : Hid (Calls Tryz.prog 13 #[.pointer (some pj)] w28 fun e w' => ∃ v, e = .returned v ∧ ReadsF w' v l1.fs ∧ Below w28.heap.size w28 w') := by
                have h := KAl.out _ _ _ _ _ _ _ _ _ _ HK28.out
                rw [HEq.out] at h
                exact h
              have HN6 : Hid (l1.fs.length ≤ 6) := by have h := HLk2.out.n6; rw [HEq.out] at h; exact h
              go_wp2_with fail
              go_at_call 13
              refine HAl7.out.mono ?_
              rintro e w31 ⟨v31, rfl, hv31, hb⟩
              have HK31 : Hid (KSt w Rep pj l2 S5 g l2.ends u26 l1.fs xs (.slice od nf cd) w31) := HK28.out.step Hok.out hb
              have HFo : Hid (Calls Tryz.prog 21 #[v31, (.slice od nf cd)] w31 fun e w' => e = .returned (.bool true) ∧ Below w31.heap.size w31 w') := forms_same v31 _ _ w31 hv31 (HK31.out.reads HN6.out)
              clear hb hv31 HAl7
              go_wp2_with fail
              go_at_call 21
              refine HFo.out.mono ?_
              rintro e w32 ⟨rfl, hb⟩
              have HK32 : Hid (KSt w Rep pj l2 S5 g l2.ends u26 l1.fs xs (.slice od nf cd) w32) := HK31.out.step Hok.out hb
              clear hb HFo HK31
              go_wp2_with fail
              go_at_call 17
              refine (KOp.out _ _ _ _ _ _ _ _ _ _ HK32.out HLk2.out).mono ?_
              rintro e w33 ⟨rfl, hb⟩
              have HK33 : Hid (KSt w Rep pj l2 S5 g l2.ends u26 l2.fs xs (.slice od nf cd) w33) := by unfold Hid; rw [HEq.out]; exact HK32.out.step Hok.out hb
              clear hb HK32
              go_wp2
              go_roundw
              case rel => exact ⟨k + 1, mm + 1, by omega, by go_num, by go_num, by omega, l2, S5, g, xs, HLk2.out, HLb2.out, HK33.out⟩
              case measure => first | (simp [intOf]; done) | (simp [intOf]; omega)
          · have hcase : 6 ≤ k ∨ (k < 6 ∧ n ≤ mm) := by omega
            go_upto_region 29 with fail
            go_cut [152] from 145 to 152 (fun x wx => x = .bool false ∧ wr = wx)
            case first =>
              as_aux_lemma =>
                rcases hcase with h1 | ⟨h1, h2⟩
                · have h3 : ¬ (k : Int) < 6 := by omega
                  clear h1
                  go_wp2_with fail
                  go_meet
                  case rel => exact ⟨by first | rfl | simp, rfl⟩
                · have h3 : (k : Int) < 6 := by omega
                  have h4 : ¬ (mm : Int) < (n : Int) := by omega
                  clear h1 h2
                  go_wp2_with fail
                  go_meet
                  case rel => exact ⟨by first | rfl | simp, rfl⟩
            case rest =>
            as_aux_lemma =>
            obtain ⟨rfl, hwc⟩ := hcut
            subst hwc
            clear hcase hlt
            go_upto_if 268 with fail
            go_cut [37] from 265 to 272 (fun x wx => ∃ z : Int, x = .int .i64 z ∧ wr = wx)
            case first =>
              as_aux_lemma =>
                by_cases hf : r < kn
                · have hfz : (r : Int) < (kn : Int) := by omega
                  obtain ⟨bF, oF, rfl, cF⟩ := ints_at (HKt.out.below HK.out.bel) (i := r) (by rw [← HN.out.2.2.2.2]; exact hf)
                  obtain ⟨z, hz⟩ : ∃ z, z = kt.getD r 0 := ⟨_, rfl⟩
                  rw [← hz] at cF
                  clear hz
                  go_wp2_with fail
                  go_meet
                  case rel => exact ⟨z, rfl, rfl⟩
                · have hfz : ¬ (r : Int) < (kn : Int) := by omega
                  go_wp2_with fail
                  go_meet
                  case rel => exact ⟨0, rfl, rfl⟩
            case rest =>
            as_aux_lemma =>
            obtain ⟨z, rfl, hwc⟩ := hcut
            subst hwc
            obtain ⟨B, hB⟩ : ∃ x, x = l.bytes := ⟨_, rfl⟩
            obtain ⟨Sf, hSf⟩ : ∃ x, x = l.safe := ⟨_, rfl⟩
            obtain ⟨Hh, hHh⟩ : ∃ x, x = l.high z := ⟨_, rfl⟩
            have hx1 : 0 ≤ Sf := by rw [hSf]; exact HLb.out.s0
            have hx2 : Sf ≤ B := by rw [hSf, hB]; exact HLb.out.sb
            have hx3 : B ≤ 24000000 := by rw [hB]; exact Int.le_trans HLb.out.bm (by omega)
            have HHh : Hid (Hh = if 0 < z then (if z < B - Sf then Sf + z else B) else Sf) := by unfold Hid; rw [hHh, hB, hSf]; rfl
            have HHl : Hid (Hh = l.high z) := hHh
            have HBy0 : Hid (Calls Tryz.prog 16 #[.pointer (some pj)] wr fun e w' => e = .returned (.int .i64 B) ∧ Below wr.heap.size wr w') := by
              have h := KBy.out _ _ _ _ _ _ _ _ _ _ HK.out
              rw [← hB] at h
              exact h
            have HSf0 : Hid (∀ W, KSt w Rep pj l S g l.ends u26 l.fs xs u25 W → Calls Tryz.prog 15 #[.pointer (some pj)] W fun e w' => e = .returned (.int .i64 Sf) ∧ Below W.heap.size W w') := fun W hk => by
              have h := KSf.out _ _ _ _ _ _ _ _ _ _ hk
              rw [← hSf] at h
              exact h
            clear hB hSf hHh
            go_wp2_with fail
            go_at_call 16
            refine HBy0.out.mono ?_
            rintro e w40 ⟨rfl, hb⟩
            have HK40 : Hid (KSt w Rep pj l S g l.ends u26 l.fs xs u25 w40) := HK.out.step Hok.out hb
            clear hb HK HBy0
            go_wp2_with fail
            go_at_call 15
            refine (HSf0.out _ HK40.out).mono ?_
            rintro e w41 ⟨rfl, hb⟩
            have HK41 : Hid (KSt w Rep pj l S g l.ends u26 l.fs xs u25 w41) := HK40.out.step Hok.out hb
            clear hb HK40 HSf0
            go_wp2_with fail
            go_at_call 12
            refine (KCr.out _ _ _ _ _ _ _ _ _ _ _ HK41.out).mono ?_
            rintro e w42 ⟨⟨v42, rfl⟩, S42, h42⟩
            have HK42 : Hid (KSt w Rep pj (l.crash z) S42 g l.ends u26 l.fs xs u25 w42) := h42
            clear h42 HK41
            go_upto_region 65 with fail
            go_cut [289] from 281 to 289 (fun x wx => (∃ b : Bool, x = .bool b ∧ ((b = true ∧ (0 < z ∧ z < B - Sf)) ∨ (b = false ∧ ¬ (0 < z ∧ z < B - Sf)))) ∧ w42 = wx)
            case first =>
              as_aux_lemma =>
                by_cases hz0 : 0 < z
                · by_cases hz1 : z < B - Sf
                  · go_wp2_with fail
                    go_meet
                    case rel => exact ⟨⟨true, by first | rfl | (simp; omega), Or.inl ⟨rfl, hz0, hz1⟩⟩, rfl⟩
                  · go_wp2_with fail
                    go_meet
                    case rel => exact ⟨⟨false, by first | rfl | (simp; omega), Or.inr ⟨rfl, fun q => by omega⟩⟩, rfl⟩
                · go_wp2_with fail
                  go_meet
                  case rel => exact ⟨⟨false, by first | rfl | (simp; omega), Or.inr ⟨rfl, fun q => by omega⟩⟩, rfl⟩
            case rest =>
            as_aux_lemma =>
            obtain ⟨⟨b, rfl, hbz⟩, hwc⟩ := hcut
            subst hwc
            have HBz : Hid ((b = true ∧ (0 < z ∧ z < B - Sf)) ∨ (b = false ∧ ¬ (0 < z ∧ z < B - Sf))) := hbz
            clear hbz
            go_upto_if 289 with fail
            go_cut [40] from 281 to 295 (fun x wx => x = .int .i64 Hh ∧ w42 = wx)
            case first =>
              as_aux_lemma =>
                rcases HBz.out with ⟨rfl, h1, h2⟩ | ⟨rfl, h1⟩
                · have He : Hid (Hh = Sf + z) := by have h := HHh.out; rw [if_pos h1, if_pos h2] at h; exact h
                  go_wp2_with fail
                  go_meet
                  case rel => exact ⟨by rw [He.out], rfl⟩
                · by_cases hz0 : 0 < z
                  · have He : Hid (Hh = B) := by have h := HHh.out; rw [if_pos hz0, if_neg (fun q => h1 ⟨hz0, q⟩)] at h; exact h
                    clear h1
                    go_wp2_with fail
                    go_meet
                    case rel => exact ⟨by rw [He.out], rfl⟩
                  · have He : Hid (Hh = Sf) := by have h := HHh.out; rw [if_neg hz0] at h; exact h
                    clear h1
                    go_wp2_with fail
                    go_meet
                    case rel => exact ⟨by rw [He.out], rfl⟩
            case rest =>
            as_aux_lemma =>
            obtain ⟨rfl, hwc⟩ := hcut
            subst hwc
            clear HBz HHh hx1 hx2 hx3
            obtain ⟨ne, hne⟩ : ∃ x, x = l.ends.length := ⟨_, rfl⟩
            have hne6 : ne ≤ 6 := by rw [hne, HLk.out.len]; exact HLk.out.n6
            have HNe : Hid (ne = l.ends.length) := hne
            obtain ⟨cm, hcm⟩ := HK42.out.mv
            rw [← hne] at hcm
            subst hcm
            have hcap : ne + 1 ≤ cm := by
              rcases HK42.out.own.2 with ⟨h0, _⟩ | ⟨g', cap', cur, hv, _, _, h3, _⟩
              · cases h0
              · obtain ⟨_, q2, q3⟩ := Value.slice.inj hv
                rw [q3]
                rw [← q2] at h3
                exact h3
            clear hne
            have HMk : Hid (∀ j, j < ne + 1 → w42.cell? ⟨g, j, none⟩ = some (.int .i64 ((0 :: l.ends).getD j 0))) := fun j hj => HK42.out.mark (by rw [← HNe.out]; exact hj)
            go_wp2
            go_loopw [41, 42] (fun lf i wx => ∃ j : Nat, j ≤ ne + 1 ∧ i = .int .i64 j ∧ lf = .int .i64 (lastTo' (0 :: l.ends) Hh j : Nat) ∧ w42 = wx) (fun _ i _ => ne + 1 - (intOf i).toNat)
            case atStart => exact ⟨0, Nat.zero_le _, rfl, rfl, rfl⟩
            case round =>
              as_aux_lemma =>
              obtain ⟨j, hj, rfl, rfl, hwr⟩ := hrel
              subst hwr
              by_cases hjl : j < ne + 1
              · have hjz : (j : Int) < ((ne + 1 : Nat) : Int) := by omega
                have hjz2 : (j : Int) < (ne : Int) + 1 := by omega
                have cj := HMk.out j hjl
                have HSt2 : Hid (lastTo' (0 :: l.ends) Hh (j + 1) = if (0 :: l.ends).getD j 0 ≤ Hh then j else lastTo' (0 :: l.ends) Hh j) := rfl
                obtain ⟨y, hy⟩ : ∃ y, y = (0 :: l.ends).getD j 0 := ⟨_, rfl⟩
                rw [← hy] at cj HSt2
                clear hy
                by_cases hyH : y ≤ Hh
                · have HS3 : Hid (lastTo' (0 :: l.ends) Hh (j + 1) = j) := by have h := HSt2.out; rw [if_pos hyH] at h; exact h
                  clear HSt2
                  go_wp2
                  go_roundw
                  case rel => exact ⟨j + 1, by omega, by go_num, by rw [HS3.out], by first | rfl | trivial⟩
                  case measure => first | (simp [intOf]; done) | (simp [intOf]; omega)
                · have HS3 : Hid (lastTo' (0 :: l.ends) Hh (j + 1) = lastTo' (0 :: l.ends) Hh j) := by have h := HSt2.out; rw [if_neg hyH] at h; exact h
                  clear HSt2
                  go_wp2
                  go_roundw
                  case rel => exact ⟨j + 1, by omega, by go_num, by rw [HS3.out], by first | rfl | trivial⟩
                  case measure => first | (simp [intOf]; done) | (simp [intOf]; omega)
              · obtain rfl : j = ne + 1 := by omega
                have hjz : ¬ ((ne + 1 : Nat) : Int) < ((ne + 1 : Nat) : Int) := by omega
                have hla : lastTo' (0 :: l.ends) Hh (ne + 1) = wholeN l.ends Hh := by rw [HNe.out]; exact last_whole HLk.out.rise Hh
                rw [hla]
                obtain ⟨m, hm⟩ : ∃ x, x = wholeN l.ends Hh := ⟨_, rfl⟩
                rw [← hm]
                obtain ⟨k1, k2, k3, k4, k5, k6⟩ := lgk_crash HLk.out z (m := m) (by rw [hm, HHl.out])
                have k7 := lgb_crash HLb.out HLk.out z
                have hmn : m ≤ ne := by have := HLk.out.len; have := HNe.out; omega
                have hk := HK42.out
                rw [HNe.out] at hk
                have hkc := hk.cut k2 HLk.out.len
                obtain ⟨lc, hlc⟩ : ∃ x, x = l.crash z := ⟨_, rfl⟩
                rw [← hlc] at k1 k3 k4 k5 k6 k7 hkc
                rw [← k3, ← k4] at hkc
                obtain ⟨y, hy⟩ : ∃ y, y = (0 :: l.ends).getD m 0 := ⟨_, rfl⟩
                rw [← hy] at k5 k6
                have HLkc : Hid (LgK u lc) := k1
                have HLbc : Hid (LgB (1000000 * mm) lc) := k7
                have HBS : Hid (lc.bytes = y ∧ lc.safe = y) := ⟨k5, k6⟩
                obtain ⟨vd', hkd, hsh⟩ : ∃ vd', KSt w Rep pj lc S42 g lc.ends (.slice (some ⟨g, 0, none⟩) (m + 1) cm) lc.fs (xs.take (m * 2)) vd' w42 ∧ ((∃ b nf c, u25 = .slice (some ⟨b, 0, none⟩) nf c ∧ m ≤ nf ∧ nf ≤ c ∧ vd' = .slice (some ⟨b, 0, none⟩) m c) ∨ (u25 = .slice none 0 0 ∧ m = 0 ∧ vd' = .slice none 0 0)) := by
                  rcases hkc with ⟨b, c, h1, h2, h3⟩ | ⟨h1, h2, _, h3⟩
                  · exact ⟨_, h3, Or.inl ⟨b, _, c, h1, k2, h2, rfl⟩⟩
                  · exact ⟨_, h3, Or.inr ⟨h1, h2, rfl⟩⟩
                have HKd : Hid (KSt w Rep pj lc S42 g lc.ends (.slice (some ⟨g, 0, none⟩) (m + 1) cm) lc.fs (xs.take (m * 2)) vd' w42) := hkd
                have HSh : Hid ((∃ b nf c, u25 = .slice (some ⟨b, 0, none⟩) nf c ∧ m ≤ nf ∧ nf ≤ c ∧ vd' = .slice (some ⟨b, 0, none⟩) m c) ∨ (u25 = .slice none 0 0 ∧ m = 0 ∧ vd' = .slice none 0 0)) := hsh
                have HYm : Hid (∀ X, Below w42.heap.size w42 X → X.cell? ⟨g, m, none⟩ = some (.int .i64 y)) := fun X hX => by
                  have h := hkd.mark (i := m) (by have := hkd.mv; obtain ⟨cc, hc⟩ := this; obtain ⟨_, q2, _⟩ := Value.slice.inj hc; omega)
                  rw [k4] at h
                  have hg2 : (0 :: l.ends.take m).getD m 0 = y := by
                    rw [hy, ← List.take_succ_cons, List.getD_eq_getElem?_getD, List.getElem?_take_of_lt (by omega), ← List.getD_eq_getElem?_getD]
                  rw [hg2] at h
                  exact (hX.cell hkd.glt).trans h
                clear k1 k2 k3 k4 k5 k6 k7 hk hkc hlc hy hkd hsh hm hla HMk HK42 HLk HLb HHl
                have hcapz : (m : Int) + 1 ≤ (cm : Int) := by omega
                go_upto_region 75 with fail
                go_cut [25] from 309 to 311 (fun x wx => x = vd' ∧ w42 = wx)
                case first =>
                  as_aux_lemma =>
                    rcases HSh.out with ⟨b, nf, c, rfl, h1, h2, rfl⟩ | ⟨rfl, h1, rfl⟩
                    · have h3 : (m : Int) ≤ (c : Int) := by omega
                      have h4 : m ≤ c := by omega
                      go_wp2_with fail
                      go_meet
                      case rel => exact ⟨by first | rfl | simp, rfl⟩
                    · have h3 : (m : Int) ≤ 0 := by omega
                      have Hm0 : Hid (m = 0) := h1
                      clear h1
                      go_wp2_with fail
                      go_meet
                      case rel => exact ⟨by first | rfl | (rw [Hm0.out]) | (simp [Hm0.out]), rfl⟩
                case rest =>
                as_aux_lemma =>
                obtain ⟨rfl, hwc⟩ := hcut
                subst hwc
                have HQa : Hid (∀ W, Below w42.heap.size w42 W → Calls Tryz.prog 13 #[.pointer (some pj)] W fun e w' => ∃ v, e = .returned v ∧ Hid (∀ X, Below w'.heap.size w' X → ReadsF X v lc.fs) ∧ Hid (Below w42.heap.size w42 w') ∧ w'.cell? ⟨g, m, none⟩ = some (.int .i64 y)) := fun W hW =>
                  (KAl.out _ _ _ _ _ _ _ _ _ _ (HKd.out.step Hok.out hW)).mono fun e w' ⟨v, h1, h2, h3⟩ => ⟨v, h1, fun X hX => h2.below hX, hW.trans (h3.mono hW.size), HYm.out _ (hW.trans (h3.mono hW.size))⟩
                have HQf : Hid (∀ v W, Below w42.heap.size w42 W → ReadsF W v lc.fs → Calls Tryz.prog 21 #[v, u25] W fun e w' => e = .returned (.bool true) ∧ Hid (Below w42.heap.size w42 w') ∧ w'.cell? ⟨g, m, none⟩ = some (.int .i64 y)) := fun v W hW hv =>
                  (forms_same v _ _ W hv ((HKd.out.step Hok.out hW).reads HLkc.out.n6)).mono fun e w' ⟨h1, h3⟩ => ⟨h1, hW.trans (h3.mono hW.size), HYm.out _ (hW.trans (h3.mono hW.size))⟩
                have HQb : Hid (∀ W, Below w42.heap.size w42 W → Calls Tryz.prog 16 #[.pointer (some pj)] W fun e w' => e = .returned (.int .i64 y) ∧ Hid (Below w42.heap.size w42 w') ∧ w'.cell? ⟨g, m, none⟩ = some (.int .i64 y)) := fun W hW => by
                  have h := KBy.out _ _ _ _ _ _ _ _ _ _ (HKd.out.step Hok.out hW)
                  rw [HBS.out.1] at h
                  exact h.mono fun e w' ⟨h1, h3⟩ => ⟨h1, hW.trans (h3.mono hW.size), HYm.out _ (hW.trans (h3.mono hW.size))⟩
                have HQs : Hid (∀ W, Below w42.heap.size w42 W → Calls Tryz.prog 15 #[.pointer (some pj)] W fun e w' => e = .returned (.int .i64 y) ∧ Hid (Below w42.heap.size w42 w') ∧ w'.cell? ⟨g, m, none⟩ = some (.int .i64 y)) := fun W hW => by
                  have h := KSf.out _ _ _ _ _ _ _ _ _ _ (HKd.out.step Hok.out hW)
                  rw [HBS.out.2] at h
                  exact h.mono fun e w' ⟨h1, h3⟩ => ⟨h1, hW.trans (h3.mono hW.size), HYm.out _ (hW.trans (h3.mono hW.size))⟩
                have HD0 : Hid (Below w42.heap.size w42 w42.drew) := (Below.refl _ _).drew
                have cy : w42.cell? ⟨g, m, none⟩ = some (.int .i64 y) := HYm.out _ (Below.refl _ _)
                have hmz : (m : Int) < ((m + 1 : Nat) : Int) := by omega
                have hmz2 : (m : Int) < (m : Int) + 1 := by omega
                go_upto_region 77 with fail
                go_cut [338] from 312 to 338 (fun x wx => x = .bool false ∧ Below w42.heap.size w42 wx)
                case first =>
                  as_aux_lemma =>
                    go_region_held3 (fun w' => w'.cell? ⟨g, m, none⟩ = some (.int .i64 y)) (go_keep)
                      (first | (go_at_call 13; refine (HQa.out _ ?_).mono ?_; (first | (with_reducible exact HD0.out) | (with_reducible exact Below.refl _ _)); rintro e w50 ⟨v50, rfl, hv50, hb50, c50⟩) | (go_at_call 21; refine (HQf.out _ _ ?_ ?_).mono ?_; (first | (with_reducible exact Hid.out hb50) | (with_reducible exact Below.drew (Hid.out hb50))); (first | (with_reducible exact Hid.out hv50 _ (Below.refl _ _)) | (with_reducible exact Hid.out hv50 _ (Below.drew (Below.refl _ _)))); rintro e w51 ⟨rfl, hb51, c51⟩) | (go_at_call 16; refine (HQb.out _ ?_).mono ?_; (first | (with_reducible exact Hid.out hb51) | (with_reducible exact Below.drew (Hid.out hb51))); rintro e w52 ⟨rfl, hb52, c52⟩) | (go_at_call 15; refine (HQs.out _ ?_).mono ?_; (first | (with_reducible exact Hid.out hb52) | (with_reducible exact Below.drew (Hid.out hb52))); rintro e w53 ⟨rfl, hb53, c53⟩))
                    all_goals (try go_wp2)
                    all_goals go_meet
                    all_goals exact ⟨by first | rfl | simp, hb53.out⟩
                case rest =>
                as_aux_lemma =>
                obtain ⟨rfl, hb⟩ := hcut
                obtain ⟨w54, hw54⟩ : ∃ x, x = wc := ⟨_, rfl⟩
                subst hw54
                have HK54 : Hid (KSt w Rep pj lc S42 g lc.ends (.slice (some ⟨g, 0, none⟩) (m + 1) cm) lc.fs (xs.take (m * 2)) u25 w54) := HKd.out.step Hok.out hb
                clear hb HQa HQf HQb HQs HD0 cy
                go_wp2
                go_roundw
                case rel => exact ⟨r + 1, mm, by omega, by go_num, rfl, by omega, lc, S42, g, xs.take (m * 2), HLkc.out, HLbc.out, HK54.out⟩
                case measure => first | (simp [intOf]; done) | (simp [intOf]; omega)
      · have hcase : (fn : Int) < r ∨ ((r : Int) ≤ fn ∧ ¬ (r : Int) < 4) := by omega
        have HBe : Hid (Below w.heap.size w wr) := HK.out.bel
        rcases hcase with h1 | ⟨h1, h2⟩
        · have h3 : ¬ (r : Int) ≤ (fn : Int) := by omega
          clear h1
          go_wp2
          go_ret
          exact ⟨rfl, HBe.out⟩
        · go_wp2
          go_ret
          exact ⟨rfl, HBe.out⟩
  · have HNi : Hid (Calls Tryz.prog 7 #[.int .i64 u] w12 fun e w' => ∃ q, e = .returned (.tuple #[.pointer q, .iface 64 (.int .i64 1)]) ∧ Below w12.heap.size w12 w') := HNo.out _ HB12.out hu
    have hcase : u < 0 ∨ (¬ u < 0 ∧ 6 < u) := by omega
    clear hu HNe HNo
    rcases hcase with h1 | ⟨h1, h2⟩
    all_goals
      go_wp2_with fail
      go_at_call 7
      refine HNi.out.mono ?_
      rintro e w13 ⟨q, rfl, hb⟩
      have HB13 : Hid (Below w.heap.size w w13) := HB12.out.trans (hb.mono HB12.out.size)
      clear hb
      go_wp2_with fail
      go_at_call 10
      refine (HEr.out 1 1 _ HB13.out).mono ?_
      rintro e w14 ⟨rfl, hb⟩
      have HB14 : Hid (Below w.heap.size w w14) := HB13.out.trans (hb.mono HB13.out.size)
      have e11 : ((1 : Int) == 1) = true := by decide
      rw [e11]
      clear hb e11
      go_wp2
      go_ret
      exact ⟨rfl, HB14.out⟩
end Go.Proofs.YtjmeakkmfeoigaaGreatDoor
