/-
  Proved: venntop.TopSaid returns true where what it calls answers as the chapters say; what was in memory is as it was (the walks that the statement leans on). Written by program.
-/
import Derived.Test.YtjmeakkmfeoigaaGreatDoorLibT9
import Derived.Deep.CutRange
import Derived.Deep.RegionWith
import Derived.Deep.LoopGhost
namespace Go.Proofs.YtjmeakkmfeoigaaGreatDoor
open Go.ChangeShapes Go.WideShapes Go.ChangeAt Go.RowKit
set_option maxRecDepth 100000

set_option maxHeartbeats 8000000 in
theorem topSaid_out (u keep : Int) (lo : Option Addr) (ll lcap : Nat) (w : World)
    (HOn : Hid (∀ W, Below w.heap.size w W → Calls Tryz.prog 22 #[] W fun e w' => e = .returned (.bool true) ∧ Below W.heap.size W w'))
    (HNe : Hid (∀ W, Below w.heap.size w W → Calls Tryz.prog 7 #[.int .i64 u] W fun e w' => ∃ q, e = .returned (.tuple #[.pointer q, .iface 64 (.int .i64 1)]) ∧ Below W.heap.size W w')) :
    Calls Tryz.prog 6 #[.int .i64 u, .slice lo ll lcap, .int .i64 keep] w fun e w' => e = .returned (.bool true) ∧ Below w.heap.size w w' := by
  go_enter Tryz.func6, Tryz.ntmps6
  go_wp2_with fail
  go_at_call 22
  refine (HOn.out _ (Below.refl _ _)).mono ?_
  rintro e w1 ⟨rfl, hb⟩
  have HB1 : Hid (Below w.heap.size w w1) := hb
  clear hb
  go_wp2_with fail
  go_at_call 7
  refine (HNe.out _ HB1.out).mono ?_
  rintro e w2 ⟨q, rfl, hb⟩
  have HB2 : Hid (Below w.heap.size w w2) := HB1.out.trans (hb.mono HB1.out.size)
  clear hb
  go_wp2
  go_ret
  exact ⟨rfl, HB2.out⟩

set_option maxHeartbeats 64000000 in
theorem topSaid_in (u keep : Int) (hu : 0 ≤ u ∧ u ≤ 6) (ats : List At) (lo : Option Addr) (lcap : Nat) (w : World) (hL63 : ats.length ≤ 9223372036854775807) (Rep : Addr → Lg → (Nat → Prop) → World → Prop) (hok : LogOk w Rep)
    (HA : Hid (ReadsA w (.slice lo ats.length lcap) ats))
    (HOn : Hid (∀ W, Below w.heap.size w W → Calls Tryz.prog 22 #[] W fun e w' => e = .returned (.bool true) ∧ Below W.heap.size W w'))
    (HAs : Hid (∀ (v va vc : Value) (fs : List Fm) (f : Fm) W, Below w.heap.size w W → ReadsF W v fs → ReadsA W va f.ats → Reads W vc f.c → Calls Tryz.prog 23 #[v, .agg #[va, vc], .int .i64 u] W fun e w' => e = .returned (.tuple #[.int .i64 (askN fs f.ats f.c u), errV (askFault fs f.ats f.c u)]) ∧ Below W.heap.size W w'))
    (HBo : Hid (∀ (va vc vb vd : Value) (f g : Fm) W, Below w.heap.size w W → ReadsA W va f.ats → Reads W vc f.c → ReadsA W vb g.ats → Reads W vd g.c → f.fault = 0 → g.fault = 0 → f.ats.length + g.ats.length ≤ 6 → f.c.length + g.c.length ≤ 19 → Calls Tryz.prog 24 #[.agg #[va, vc], .agg #[vb, vd]] W fun e w' => ∃ va' vc', e = .returned (.tuple #[.agg #[va', vc'], .nilIface]) ∧ ReadsA w' va' (bothFm f g).ats ∧ Reads w' vc' (bothFm f g).c ∧ Below W.heap.size W w'))
    (HMo : Hid (∀ (va vc : Value) (f : Fm) W, Below w.heap.size w W → ReadsA W va f.ats → Reads W vc f.c → Calls Tryz.prog 25 #[.agg #[va, vc], .int .i64 u] W fun e w' => e = .returned (.tuple #[.agg #[.int .i64 (modelW f.ats f.c u).u, .int .i64 (modelW f.ats f.c u).a, .int .i64 (modelW f.ats f.c u).b, .int .i64 (modelW f.ats f.c u).c], errV (modelFault f.ats f.c u)]) ∧ Below W.heap.size W w'))
    (HHo : Hid (∀ (va vc : Value) (f : Fm) (D : Wd) W, Below w.heap.size w W → ReadsA W va f.ats → Reads W vc f.c → Calls Tryz.prog 26 #[.agg #[va, vc], .agg #[.int .i64 D.u, .int .i64 D.a, .int .i64 D.b, .int .i64 D.c]] W fun e w' => e = .returned (.tuple #[.bool (D.formIs f.ats f.c), errV (D.formFault f.ats f.c)]) ∧ Below W.heap.size W w'))
    (HEr : Hid (∀ W, Below w.heap.size w W → Calls Tryz.prog 10 #[.iface 64 (.int .i64 4), .int .i64 4] W fun e w' => e = .returned (.bool true) ∧ Below W.heap.size W w')) :
    Calls Tryz.prog 6 #[.int .i64 u, .slice lo ats.length lcap, .int .i64 keep] w fun e w' => e = .returned (.bool true) ∧ Below w.heap.size w w' := by
  have Hok : Hid (LogOk w Rep) := hok
  have Hu : Hid (0 ≤ u ∧ u ≤ 6) := hu
  have HNew : Hid (∀ W, Below w.heap.size w W → Calls Tryz.prog 7 #[.int .i64 u] W fun e w' => ∃ p S, e = .returned (.tuple #[.pointer (some p), .nilIface]) ∧ LS2 w Rep p (lg0 u) S w') := fun W hW =>
    (hok.new u W hW hu).mono fun e w' ⟨p, S, h1, h2, h3, h4⟩ => ⟨p, S, h1, hW.trans (h4.mono hW.size), h2, fun b hs => Nat.le_trans hW.size (h3 b hs)⟩
  have HSay : Hid (∀ p l S W (a : At) (h : Bool) vs vt, LS2 w Rep p l S W → Reads W vs a.s → Reads W vt a.t → Calls Tryz.prog 9 #[.pointer (some p), .agg #[.int .i64 a.k, vs, vt, .int .i64 a.n], .bool h] W fun e w' => ∃ n S', e = .returned (errV (l.sayE a h)) ∧ LS2 w Rep p (l.say a h n) S' w') := fun p l S W a h vs vt hl hs ht =>
    (hok.say p l S W a h vs vt hl.bel hl.rep hs ht).mono fun e w' ⟨n, S', _, h1, h2, h3, h4⟩ => ⟨n, S', h1, hl.move h2 h3 h4⟩
  have HSy : Hid (∀ p l S W, LS2 w Rep p l S W → Calls Tryz.prog 11 #[.pointer (some p)] W fun e w' => ∃ S', e = .returned (errV l.syncE) ∧ LS2 w Rep p l.sync S' w') := fun p l S W h =>
    (hok.sync p l S W h.bel h.rep).mono fun e w' ⟨S', h1, h2, h3, h4⟩ => ⟨S', h1, h.move h2 h3 h4⟩
  have HCr : Hid (∀ p l S W n, LS2 w Rep p l S W → Calls Tryz.prog 12 #[.pointer (some p), .int .i64 n] W fun e w' => (∃ v, e = .returned v) ∧ ∃ S', LS2 w Rep p (l.crash n) S' w') := fun p l S W n h =>
    (hok.crash p l S W n h.bel h.rep).mono fun e w' ⟨S', h1, h2, h3, h4⟩ => ⟨h1, S', h.move h2 h3 h4⟩
  have HAl : Hid (∀ p l S W, LS2 w Rep p l S W → Calls Tryz.prog 13 #[.pointer (some p)] W fun e w' => ∃ v, e = .returned v ∧ ReadsF w' v l.fs ∧ LS2 w Rep p l S w') := fun p l S W h =>
    (hok.all p l S W h.bel h.rep).mono fun e w' ⟨v, h1, h2, _, h4⟩ => ⟨v, h1, h2, h.step hok h4⟩
  have HOp : Hid (∀ p l S W, LS2 w Rep p l S W → Calls Tryz.prog 17 #[.pointer (some p)] W fun e w' => e = .returned (.bool l.openB) ∧ Below W.heap.size W w') := fun p l S W h =>
    (hok.openS p l S W h.bel h.rep).mono fun e w' ⟨h1, _, h3⟩ => ⟨h1, h3⟩
  obtain ⟨n, hn⟩ : ∃ n, n = ats.length := ⟨_, rfl⟩
  rw [← hn] at HA hL63 ⊢
  have HN : Hid (n = ats.length) := hn
  clear hok hu hn
  go_enter Tryz.func6, Tryz.ntmps6
  go_wp2_with fail
  go_at_call 22
  refine (HOn.out _ (Below.refl _ _)).mono ?_
  rintro e w1 ⟨rfl, hb⟩
  have HB1 : Hid (Below w.heap.size w w1) := hb
  clear hb
  go_wp2_with fail
  go_at_call 7
  refine (HNew.out _ HB1.out).mono ?_
  rintro e w2 ⟨p, S2, rfl, h2⟩
  have HL2 : Hid (LS2 w Rep p (lg0 u) S2 w2) := h2
  clear h2 HB1
  go_wp2
  go_loopw [10, 11] (fun mv i wr => ∃ k : Nat, k ≤ min n 8 ∧ i = .int .i64 k ∧ ∃ l S, mv = .int .i64 (l.fs.length : Nat) ∧ LgOk u l ∧ LS2 w Rep p l S wr) (fun _ i _ => 8 - (intOf i).toNat)
  case atStart => exact ⟨0, Nat.zero_le _, rfl, lg0 u, S2, rfl, lgok0 u, HL2.out⟩
  case round =>
    obtain ⟨k, hk, rfl, l, S, rfl, hlo, hls⟩ := hrel
    have HL : Hid (LS2 w Rep p l S wr) := hls
    have HLo : Hid (LgOk u l) := hlo
    have hm6 : l.fs.length ≤ 6 := hlo.n6
    clear hls hlo
    by_cases hlt : k < n ∧ k < 8
    · obtain ⟨hlt1, hlt2⟩ := hlt
      have hz1 : (k : Int) < (n : Int) := by omega
      have hz2 : (k : Int) < 8 := by omega
      obtain ⟨a, haj⟩ : ∃ a, ats[k]? = some a := ⟨_, List.getElem?_eq_getElem (by rw [← HN.out]; exact hlt1)⟩
      obtain ⟨bA, oA, hao, hat⟩ : ∃ bA oA, lo = some ⟨bA, oA, none⟩ ∧ AtomAt wr bA (oA + k * 4) a := by
        rcases HA.out.below HL.out.bel with ⟨ao', cap, hv, h0⟩ | ⟨b, off, cap, hv, hb, _, _, hcell⟩
        · rw [h0] at haj; simp at haj
        · obtain ⟨h1, _, _⟩ := Value.slice.inj hv
          exact ⟨b, off, h1, hcell k a haj⟩
      subst hao
      obtain ⟨vs, vt, c0, c1, c2, c3, hs, ht⟩ := hat
      have HSk : Hid (∀ h, Calls Tryz.prog 9 #[.pointer (some p), .agg #[.int .i64 a.k, vs, vt, .int .i64 a.n], .bool h] wr fun e w' => ∃ l5 S5, ((e = .returned .nilIface ∧ l5.fs.length = l.fs.length + 1) ∨ ((∃ F, e = .returned (.iface 64 (.int .i64 F))) ∧ l5.fs.length = l.fs.length)) ∧ LgOk u l5 ∧ LS2 w Rep p l5 S5 w') := fun h => by
        refine (HSay.out p l S wr a h vs vt HL.out hs ht).mono ?_
        rintro e w' ⟨n5, S5, rfl, h5⟩
        obtain ⟨q1, q2⟩ := lgok_say HLo.out a h n5
        refine ⟨_, S5, ?_, q1, h5⟩
        rcases q2 with ⟨e1, e2⟩ | ⟨e1, e2⟩
        · exact Or.inl ⟨by rw [e1]; rfl, e2⟩
        · exact Or.inr ⟨⟨_, by unfold errV; rw [if_neg e1]⟩, e2⟩
      obtain ⟨so, sc, rfl, _⟩ := hs.slice
      obtain ⟨tto, tc, rfl, _⟩ := ht.slice
      obtain ⟨sl, hsl⟩ : ∃ x, x = a.s.length := ⟨_, rfl⟩
      obtain ⟨tl, htl⟩ : ∃ x, x = a.t.length := ⟨_, rfl⟩
      obtain ⟨ak, hak⟩ : ∃ x, x = a.k := ⟨_, rfl⟩
      obtain ⟨an, han⟩ : ∃ x, x = a.n := ⟨_, rfl⟩
      rw [← hsl] at c1 HSk
      rw [← htl] at c2 HSk
      rw [← hak] at c0 HSk
      rw [← han] at c3 HSk
      clear hs ht haj hsl htl hak han
      go_wp2_with fail
      go_at_call 9
      refine (HSk.out _).mono ?_
      rintro e w5 ⟨l5, S5, q2, q1, h5⟩
      have HL5 : Hid (LS2 w Rep p l5 S5 w5) := h5
      have HLo5 : Hid (LgOk u l5) := q1
      clear h5 q1 c0 c1 c2 c3
      rcases q2 with ⟨rfl, e2⟩ | ⟨⟨F, rfl⟩, e2⟩
      · have HE2 : Hid (l5.fs.length = l.fs.length + 1) := e2
        clear e2
        by_cases hk2 : k = 2
        · subst hk2
          obtain ⟨s1, s2, s3⟩ := lgok_sync HLo5.out
          have HSn : Hid (Calls Tryz.prog 11 #[.pointer (some p)] w5 fun e w' => ∃ S', e = .returned .nilIface ∧ LS2 w Rep p l5.sync S' w') := by
            have h := HSy.out p l5 S5 w5 HL5.out
            rw [s1] at h
            exact h
          have HLo6 : Hid (LgOk u l5.sync) := s2
          have HF6 : Hid (l5.sync.fs.length = l5.fs.length) := by unfold Hid; rw [s3]
          clear s1 s2 s3
          go_wp2_with fail
          go_at_call 11
          refine HSn.out.mono ?_
          rintro e w6 ⟨S6, rfl, h6⟩
          have HL6 : Hid (LS2 w Rep p l5.sync S6 w6) := h6
          clear h6
          go_wp2
          go_roundw
          case rel => exact ⟨3, by omega, by go_num, l5.sync, S6, by rw [HF6.out, HE2.out]; go_num, HLo6.out, HL6.out⟩
          case measure => first | (simp [intOf]; done) | (simp [intOf]; omega)
        · have hk2z : ((k : Int) == 2) = false := by simp; omega
          go_wp2
          go_roundw
          case rel => exact ⟨k + 1, by omega, by go_num, l5, S5, by rw [HE2.out]; go_num, HLo5.out, HL5.out⟩
          case measure => first | (simp [intOf]; done) | (simp [intOf]; omega)
      · have HE2 : Hid (l5.fs.length = l.fs.length) := e2
        clear e2
        by_cases hk2 : k = 2
        · subst hk2
          obtain ⟨s1, s2, s3⟩ := lgok_sync HLo5.out
          have HSn : Hid (Calls Tryz.prog 11 #[.pointer (some p)] w5 fun e w' => ∃ S', e = .returned .nilIface ∧ LS2 w Rep p l5.sync S' w') := by
            have h := HSy.out p l5 S5 w5 HL5.out
            rw [s1] at h
            exact h
          have HLo6 : Hid (LgOk u l5.sync) := s2
          have HF6 : Hid (l5.sync.fs.length = l5.fs.length) := by unfold Hid; rw [s3]
          clear s1 s2 s3
          go_wp2_with fail
          go_at_call 11
          refine HSn.out.mono ?_
          rintro e w6 ⟨S6, rfl, h6⟩
          have HL6 : Hid (LS2 w Rep p l5.sync S6 w6) := h6
          clear h6
          go_wp2
          go_roundw
          case rel => exact ⟨3, by omega, by go_num, l5.sync, S6, by rw [HF6.out, HE2.out], HLo6.out, HL6.out⟩
          case measure => first | (simp [intOf]; done) | (simp [intOf]; omega)
        · have hk2z : ((k : Int) == 2) = false := by simp; omega
          go_wp2
          go_roundw
          case rel => exact ⟨k + 1, by omega, by go_num, l5, S5, by rw [HE2.out], HLo5.out, HL5.out⟩
          case measure => first | (simp [intOf]; done) | (simp [intOf]; omega)
    · have hcase : (n : Int) ≤ k ∨ ((k : Int) < n ∧ (8 : Int) ≤ k) := by omega
      have HLe : Hid (LS2 w Rep p l S wr) := HL.out
      go_upto_region 9 with fail
      go_cut [39] from 40 (fun x wx => x = .bool false ∧ wx = wr)
      case first =>
        rcases hcase with h1 | ⟨h1, h2⟩
        · have h3 : ¬ (k : Int) < (n : Int) := by omega
          clear h1
          go_wp2_with fail
          go_meet
          case rel => exact ⟨rfl, rfl⟩
        · have h3 : decide ((k : Int) < 8) = false := decide_eq_false (by omega)
          have h4 : ¬ (k : Int) < 8 := by omega
          clear h2
          go_wp2_with fail
          go_meet
          case rel => exact ⟨by first | rfl | rw [h3], rfl⟩
      case rest =>
      obtain ⟨rfl, rfl⟩ := hcut
      clear hcase
      have HLe2 := HLe.out
      clear HLe2
      go_wp2_with fail
      go_at_call 12
      refine (HCr.out p l S _ keep HLe.out).mono ?_
      rintro e w6 ⟨⟨v6, rfl⟩, S6, h6⟩
      obtain ⟨k1, k2⟩ := lgok_crash HLo.out keep
      obtain ⟨lc, hlc⟩ : ∃ x, x = l.crash keep := ⟨_, rfl⟩
      rw [← hlc] at h6 k1 k2
      have HL6 : Hid (LS2 w Rep p lc S6 w6) := h6
      have HLc : Hid (LgOk u lc) := k1
      clear h6 k1 hlc
      go_wp2_with fail
      go_at_call 13
      refine (HAl.out p lc S6 _ HL6.out).mono ?_
      rintro e w7 ⟨v, rfl, hv, h7⟩
      obtain ⟨vo, vc, rfl, _⟩ := hv.slice
      obtain ⟨fs, hfs⟩ : ∃ x, x = lc.fs := ⟨_, rfl⟩
      have hgood := HLc.out.good
      have hn6 := HLc.out.n6
      have hop := HLc.out.op
      rw [← hfs] at hv k2 hgood hn6 hop
      rw [← hfs]
      have HOp7 : Hid (Calls Tryz.prog 17 #[.pointer (some p)] w7 fun e w' => e = .returned (.bool true) ∧ Below w7.heap.size w7 w') := by
        have h := HOp.out p lc S6 w7 h7
        rw [lgok_open HLc.out] at h
        exact h
      have HB7 : Hid (Below w.heap.size w w7) := h7.bel
      have HGo : Hid (∀ f ∈ fs, ∃ a h, f = aloneF a h ∧ a.fault = 0) := hgood
      have HOpn : Hid (openN fs u.toNat = true) := hop
      have HF7 : Hid (ReadsF w7 (.slice vo fs.length vc) fs) := hv
      obtain ⟨nf, hnf⟩ : ∃ x, x = fs.length := ⟨_, rfl⟩
      have HNf : Hid (nf = fs.length) := hnf
      rw [← hnf] at HF7 k2 hn6 ⊢
      have hgt : ¬ ((l.fs.length : Nat) : Int) < (nf : Int) := by omega
      clear hv h7 hfs hgood hop hnf k2 HL HLe HL6 HLo HLc
      go_upto_region 17 with fail
      go_cut [74] from 61 (fun x wx => x = .bool false ∧ Below w7.heap.size w7 wx)
      case first =>
        go_wp2_with fail
        go_at_call 17
        refine HOp7.out.mono ?_
        rintro e w8 ⟨rfl, hb⟩
        have HBo7 : Hid (Below w7.heap.size w7 w8) := hb
        clear hb
        go_wp2_with fail
        go_meet
        case rel => exact ⟨by first | rfl | (simp; omega), HBo7.out⟩
      case rest =>
      obtain ⟨rfl, hb⟩ := hcut
      obtain ⟨w8, hw8⟩ : ∃ x, x = wc := ⟨_, rfl⟩
      subst hw8
      have HB8 : Hid (Below w.heap.size w w8) := HB7.out.trans (hb.mono HB7.out.size)
      have HF8 : Hid (ReadsF w8 (.slice vo nf vc) fs) := HF7.out.below hb
      clear hb hgt
      by_cases h0 : nf = 0
      · subst h0
        go_wp2
        go_ret
        exact ⟨rfl, HB8.out⟩
      · have h0z : ((nf : Int) == 0) = false := by simp; omega
        have Hnz : Hid (0 < nf) := by unfold Hid; omega
        obtain ⟨bL, oL, cL, hv⟩ := HF8.out.place (by rw [← HNf.out]; omega)
        obtain ⟨hlo, hx1, hx2⟩ := Value.slice.inj hv
        clear hx1 hx2 hv
        subst hlo
        -- the k-th, as it lies there
        have HAt : Hid (∀ (k : Nat), k < nf → ∃ f o1 l1 c1 o2 l2 c2, fs[k]? = some f ∧ ∀ W, Below w8.heap.size w8 W → W.cell? ⟨bL, oL + k * 2, none⟩ = some (.slice o1 l1 c1) ∧ W.cell? ⟨bL, oL + k * 2 + 1, none⟩ = some (.slice o2 l2 c2) ∧ ReadsA W (.slice o1 l1 c1) f.ats ∧ Reads W (.slice o2 l2 c2) f.c) := fun k hk => by
          have hf := List.getElem?_eq_getElem (show k < fs.length by rw [← HNf.out]; exact hk)
          obtain ⟨hbL, va, vc', c0, c1, hA, hC⟩ := HF8.out.at hf
          obtain ⟨ao, acap, rfl, _⟩ := hA.slice
          obtain ⟨co, ccap, rfl, _⟩ := hC.slice
          exact ⟨_, _, _, _, _, _, _, hf, fun W hW => ⟨(hW.cell hbL).trans c0, (hW.cell hbL).trans c1, hA.below hW, hC.below hW⟩⟩
        have HAsk : Hid (∀ (k : Nat) f va vc' W, fs[k]? = some f → Below w8.heap.size w8 W → ReadsA W va f.ats → Reads W vc' f.c → Calls Tryz.prog 23 #[.slice (some ⟨bL, oL, none⟩) nf vc, .agg #[va, vc'], .int .i64 u] W fun e w' => e = .returned (.tuple #[.int .i64 1, .nilIface]) ∧ Below W.heap.size W w') := fun k f va vc' W hf hW hA hC => by
          obtain ⟨e1, e2⟩ := said_follows Hu.out HGo.out (by rw [← HNf.out]; exact hn6) HOpn.out (List.mem_of_getElem? hf)
          have h := HAs.out _ va vc' fs f W (HB8.out.trans (hW.mono HB8.out.size)) (HF8.out.below hW) hA hC
          rw [e1, e2] at h
          exact h
        obtain ⟨w9, hw9⟩ : ∃ x, x = w8.alloc (.cells #[.slice none 0 0, .slice none 0 0] 39) := ⟨_, rfl⟩
        obtain ⟨G, hG⟩ : ∃ G, G = w8.heap.size := ⟨_, rfl⟩
        have HB9 : Hid (Below w8.heap.size w8 w9) := by unfold Hid; rw [hw9]; exact below_alloc1 _ _
        have HK9 : Hid (Blk w9 G 39 #[.slice none 0 0, .slice none 0 0]) := by unfold Hid; rw [hw9, hG]; exact Blk.new _ _ _
        have HG : Hid (w8.heap.size ≤ G) := by unfold Hid; omega
        go_upto_region 23 with fail
        rw [← hw9, ← hG]
        clear hw9 hG h0z h0
        go_loopw [14] (fun i wr => ∃ k : Nat, k ≤ nf ∧ i = .int .i64 k ∧ Below w8.heap.size w8 wr ∧ ((k = 0 ∧ Blk wr G 39 #[.slice none 0 0, .slice none 0 0]) ∨ (0 < k ∧ BoxF wr G (accF fs (k - 1))))) (fun i _ => nf - (intOf i).toNat)
        case atStart => exact ⟨0, Nat.zero_le _, rfl, HB9.out, Or.inl ⟨rfl, HK9.out⟩⟩
        case round =>
          obtain ⟨k, hk, rfl, hbr, hbox⟩ := hrel
          have HBr : Hid (Below w8.heap.size w8 wr) := hbr
          clear hbr
          by_cases hlt : k < nf
          · have hltz : (k : Int) < (nf : Int) := by omega
            obtain ⟨f, o1, l1, c1, o2, l2, c2, hf, hcell⟩ := HAt.out k hlt
            have HFk : Hid (fs[k]? = some f) := hf
            have HCe : Hid (∀ W, Below w8.heap.size w8 W → W.cell? ⟨bL, oL + k * 2, none⟩ = some (.slice o1 l1 c1) ∧ W.cell? ⟨bL, oL + k * 2 + 1, none⟩ = some (.slice o2 l2 c2) ∧ ReadsA W (.slice o1 l1 c1) f.ats ∧ Reads W (.slice o2 l2 c2) f.c) := hcell
            obtain ⟨x0, x1, r0, r1⟩ := hcell wr HBr.out
            have HAk : Hid (Calls Tryz.prog 23 #[.slice (some ⟨bL, oL, none⟩) nf vc, .agg #[.slice o1 l1 c1, .slice o2 l2 c2], .int .i64 u] wr fun e w' => e = .returned (.tuple #[.int .i64 1, .nilIface]) ∧ Below wr.heap.size wr w') := HAsk.out k f _ _ wr hf HBr.out r0 r1
            have HBox : Hid ((k = 0 ∧ Blk wr G 39 #[.slice none 0 0, .slice none 0 0]) ∨ (0 < k ∧ BoxF wr G (accF fs (k - 1)))) := hbox
            clear hf hcell r0 r1 hbox
            go_wp2_with fail
            go_at_call 23
            refine HAk.out.mono ?_
            rintro e w11 ⟨rfl, hb⟩
            have HB11 : Hid (Below w8.heap.size w8 w11) := HBr.out.trans (hb.mono HBr.out.size)
            have HBw : Hid (Below wr.heap.size wr w11) := hb
            clear hb x0 x1
            rcases HBox.out with ⟨hk0, hb0⟩ | ⟨hk0, hb0⟩
            · subst hk0
              have HK11 : Hid (Blk w11 G 39 #[.slice none 0 0, .slice none 0 0]) := hb0.below HBw.out
              obtain ⟨x0, x1, r0, r1⟩ := HCe.out w11 HB11.out
              rw [Nat.zero_mul, Nat.add_zero] at x0 x1
              have hacc : accF fs (0 + 1 - 1) = f := by
                show fs.getD 0 fmZ = f
                rw [List.getD_eq_getElem?_getD, HFk.out]; rfl
              have HBo1 : Hid (BoxF ((w11.setCell ⟨G, 0, none⟩ (.slice o1 l1 c1)).setCell ⟨G, 1, none⟩ (.slice o2 l2 c2)) G (accF fs (0 + 1 - 1))) := by unfold Hid; rw [hacc]; exact BoxF.put HK11.out r0 r1
              have HBs : Hid (Below w8.heap.size w8 ((w11.setCell ⟨G, 0, none⟩ (.slice o1 l1 c1)).setCell ⟨G, 1, none⟩ (.slice o2 l2 c2))) := (HB11.out.setCell HG.out _).setCell HG.out _
              have y0 : w11.cell? ⟨G, 0, none⟩ = some (.slice none 0 0) := HK11.out.cell 0
              have y1 : w11.cell? ⟨G, 1, none⟩ = some (.slice none 0 0) := HK11.out.cell 1
              have z0 : w11.frozen? ⟨G, 0, none⟩ = false := HK11.out.frozen 0
              have z1 : w11.frozen? ⟨G, 1, none⟩ = false := HK11.out.frozen 1
              clear hb0 hacc r0 r1
              go_wp2
              go_roundw
              case rel => first | exact ⟨1, by omega, by go_num, HBs.out, Or.inr ⟨by omega, HBo1.out⟩⟩ | ((repeat apply Exists.intro); refine ⟨?_, rfl⟩; exact ⟨1, by omega, by go_num, HBs.out, Or.inr ⟨by omega, HBo1.out⟩⟩)
              case measure => first | (simp [intOf]; done) | (simp [intOf]; omega)
            · have hkz : ((k : Int) == 0) = false := by simp; omega
              obtain ⟨p1, m1, d1, p2, m2, d2, hB, hA, hC⟩ := hb0
              obtain ⟨x0, x1, r0, r1⟩ := HCe.out w11 HB11.out
              have hB11 := hB.below HBw.out
              have HK11 : Hid (Blk w11 G 39 #[.slice p1 m1 d1, .slice p2 m2 d2]) := hB11
              have hfl : f.fault = 0 ∧ f.ats.length = 1 ∧ f.c.length ≤ 2 := alone_fm (HGo.out f (List.mem_of_getElem? HFk.out))
              obtain ⟨a1, a2, a3, _⟩ := acc_facts HGo.out (by rw [← HNf.out]; exact hn6) (k - 1) (by rw [← HNf.out]; omega)
              have hacc : accF fs (k + 1 - 1) = bothFm (accF fs (k - 1)) f := by
                obtain ⟨j, rfl⟩ : ∃ j, k = j + 1 := ⟨k - 1, by omega⟩
                show bothFm (accF fs j) (fs.getD (j + 1) fmZ) = bothFm (accF fs j) f
                rw [List.getD_eq_getElem?_getD, HFk.out]; rfl
              have HBk : Hid (∀ W, Below w11.heap.size w11 W → Calls Tryz.prog 24 #[.agg #[.slice p1 m1 d1, .slice p2 m2 d2], .agg #[.slice o1 l1 c1, .slice o2 l2 c2]] W fun e w' => ∃ q1 n1 e1 q2 n2 e2, e = .returned (.tuple #[.agg #[.slice q1 n1 e1, .slice q2 n2 e2], .nilIface]) ∧ (ReadsA w' (.slice q1 n1 e1) (accF fs (k + 1 - 1)).ats ∧ Reads w' (.slice q2 n2 e2) (accF fs (k + 1 - 1)).c) ∧ Below w11.heap.size w11 w' ∧ w'.cell? ⟨G, 0, none⟩ = some (.slice p1 m1 d1) ∧ w'.cell? ⟨G, 1, none⟩ = some (.slice p2 m2 d2) ∧ w'.frozen? ⟨G, 0, none⟩ = false ∧ w'.frozen? ⟨G, 1, none⟩ = false) := fun W hW => by
                have hWr := HBw.out.trans (hW.mono HBw.out.size)
                have hW8 := HB11.out.trans (hW.mono HB11.out.size)
                refine (HBo.out _ _ _ _ (accF fs (k - 1)) f W (HB8.out.trans (hW8.mono HB8.out.size)) (hA.below hWr) (hC.below hWr) (r0.below hW) (r1.below hW) a1 hfl.1 (by rw [a2, hfl.2.1]; omega) (by have := hfl.2.2; omega)).mono ?_
                rintro e w' ⟨va', vc', rfl, h1, h2, h3⟩
                obtain ⟨q1, e1, rfl, _⟩ := h1.slice
                obtain ⟨q2, e2, rfl, _⟩ := h2.slice
                have h4 := hW.trans (h3.mono hW.size)
                have hk' := hB11.below h4
                rw [hacc]
                exact ⟨_, _, _, _, _, _, rfl, ⟨h1, h2⟩, h4, hk'.cell 0, hk'.cell 1, hk'.frozen 0, hk'.frozen 1⟩
              have y0 : w11.cell? ⟨G, 0, none⟩ = some (.slice p1 m1 d1) := HK11.out.cell 0
              have y1 : w11.cell? ⟨G, 1, none⟩ = some (.slice p2 m2 d2) := HK11.out.cell 1
              clear hB hA hC hB11 r0 r1 hfl a1 a2 a3 hacc
              go_upto_region 30 with fail
              go_cut [16] from 78 to 115 (fun x wx => x = .nilIface ∧ BoxF wx G (accF fs (k + 1 - 1)) ∧ Below w8.heap.size w8 wx)
              case first =>
                go_region_with (go_at_call 24; refine (HBk.out _ (by first | exact Below.drew (Below.refl _ _) | exact Below.refl _ _)).mono ?_; rintro e w12 ⟨q1, n1, e1, q2, n2, e2, rfl, hrd, hb12, g0, g1, z0, z1⟩)
                all_goals (try go_wp2)
                all_goals go_meet
                all_goals refine ⟨rfl, BoxF.put (HK11.out.below hb12) hrd.1 hrd.2, ((HB11.out.trans (hb12.mono HB11.out.size)).setCell HG.out _).setCell HG.out _⟩
              case rest =>
                obtain ⟨rfl, hbx, hbb⟩ := hcut
                obtain ⟨w12, hw12⟩ : ∃ x, x = wc := ⟨_, rfl⟩
                subst hw12
                have HBx : Hid (BoxF w12 G (accF fs (k + 1 - 1))) := hbx
                have HBb : Hid (Below w8.heap.size w8 w12) := hbb
                clear hbx hbb x0 x1 y0 y1
                go_wp2
                go_roundw
                case rel => first | exact ⟨k + 1, by omega, by go_num, HBb.out, Or.inr ⟨by omega, HBx.out⟩⟩ | ((repeat apply Exists.intro); refine ⟨?_, rfl⟩; exact ⟨k + 1, by omega, by go_num, HBb.out, Or.inr ⟨by omega, HBx.out⟩⟩)
                case measure => first | (simp [intOf]; done) | (simp [intOf]; omega)
          · obtain rfl : k = nf := by omega
            have hltz : ¬ (k : Int) < (k : Int) := by omega
            obtain ⟨m, rfl⟩ : ∃ m, k = m + 1 := ⟨k - 1, by have := Hnz.out; omega⟩
            have hbox' : BoxF wr G (accF fs m) := by
              rcases hbox with ⟨h, _⟩ | ⟨_, h⟩
              · exact absurd h (by omega)
              · exact h
            obtain ⟨p1, m1, d1, p2, m2, d2, hB, hA, hC⟩ := hbox'
            obtain ⟨q1, q2⟩ := said_model Hu.out HGo.out (by rw [← HNf.out]; exact hn6) HOpn.out (i := m) HNf.out
            obtain ⟨D, hD⟩ : ∃ D, D = modelW (accF fs m).ats (accF fs m).c u := ⟨_, rfl⟩
            obtain ⟨E, hE⟩ : ∃ E, E = modelFault (accF fs m).ats (accF fs m).c u := ⟨_, rfl⟩
            have HMk : Hid (Calls Tryz.prog 25 #[.agg #[.slice p1 m1 d1, .slice p2 m2 d2], .int .i64 u] wr fun e w' => e = .returned (.tuple #[.agg #[.int .i64 D.u, .int .i64 D.a, .int .i64 D.b, .int .i64 D.c], errV E]) ∧ Below wr.heap.size wr w') := by
              unfold Hid
              rw [hD, hE]
              exact HMo.out _ _ (accF fs m) wr (HB8.out.trans (HBr.out.mono HB8.out.size)) hA hC
            rw [← hE] at q1 q2
            rw [← hD] at q2
            have HQ1 : Hid (E = 4 ∨ E = 0) := q1
            have HQ2 : Hid (E = 0 → D.ok = true ∧ ∀ f ∈ fs, D.formIs f.ats f.c = true) := q2
            have y0 : wr.cell? ⟨G, 0, none⟩ = some (.slice p1 m1 d1) := hB.cell 0
            have y1 : wr.cell? ⟨G, 1, none⟩ = some (.slice p2 m2 d2) := hB.cell 1
            clear hbox hB hA hC q1 q2 hD hE
            go_wp2_with fail
            go_at_call 25
            refine HMk.out.mono ?_
            rintro e w12 ⟨rfl, hb⟩
            have HB12 : Hid (Below w8.heap.size w8 w12) := HBr.out.trans (hb.mono HBr.out.size)
            have HBw12 : Hid (Below w.heap.size w w12) := HB8.out.trans (HB12.out.mono HB8.out.size)
            clear hb y0 y1
            rcases HQ1.out with rfl | rfl
            · have e4 : errV 4 = .iface 64 (.int .i64 4) := rfl
              rw [e4]
              clear e4
              have HEw : Hid (∀ W, Below w12.heap.size w12 W → Calls Tryz.prog 10 #[.iface 64 (.int .i64 4), .int .i64 4] W fun e w' => e = .returned (.bool true) ∧ Below w.heap.size w w') := fun W hW => by
                have h := HBw12.out.trans (hW.mono HBw12.out.size)
                exact (HEr.out W h).mono fun e w' ⟨h1, h2⟩ => ⟨h1, h.trans (h2.mono h.size)⟩
              go_wp2_with fail
              go_at_call 10
              refine (HEw.out _ (below_alloc1 _ _)).mono ?_
              rintro e w13 ⟨rfl, hb⟩
              have HB13 : Hid (Below w.heap.size w w13) := hb
              clear hb
              go_wp2
              go_ret
              exact ⟨rfl, HB13.out⟩
            · have e0 : errV 0 = .nilIface := rfl
              rw [e0]
              clear e0
              obtain ⟨hDok, hDall⟩ := HQ2.out rfl
              have HDal : Hid (∀ (k : Nat) f va vc' W, fs[k]? = some f → Below w.heap.size w W → ReadsA W va f.ats → Reads W vc' f.c → Calls Tryz.prog 26 #[.agg #[va, vc'], .agg #[.int .i64 D.u, .int .i64 D.a, .int .i64 D.b, .int .i64 D.c]] W fun e w' => e = .returned (.tuple #[.bool true, .nilIface]) ∧ Below W.heap.size W w') := fun k f va vc' W hf hW h1 h2 => by
                have hm := List.mem_of_getElem? hf
                have h := HHo.out va vc' f D W hW h1 h2
                rw [hDall f hm, wdForm_zero.2 ⟨(alone_fm (HGo.out f hm)).1, hDok⟩] at h
                exact h
              clear hDok hDall HQ1 HQ2
              obtain ⟨w13, hw13⟩ : ∃ x, x = w12.alloc (.cells #[.int .i64 D.u, .int .i64 D.a, .int .i64 D.b, .int .i64 D.c] 55) := ⟨_, rfl⟩
              obtain ⟨G2, hG2⟩ : ∃ G, G = w12.heap.size := ⟨_, rfl⟩
              have HB13 : Hid (Below w8.heap.size w8 w13) := by unfold Hid; rw [hw13]; exact HB12.out.alloc HB12.out.size _
              have HD13 : Hid (Blk w13 G2 55 (arrW D)) := by unfold Hid; rw [hw13, hG2]; exact Blk.new _ _ _
              go_upto_region 37 with fail
              rw [← hw13, ← hG2]
              clear hw13 hG2
              go_loopw [19] (fun i wr => ∃ k : Nat, k ≤ m + 1 ∧ i = .int .i64 k ∧ Below w13.heap.size w13 wr) (fun i _ => m + 1 - (intOf i).toNat)
              case atStart => exact ⟨0, Nat.zero_le _, rfl, Below.refl _ _⟩
              case round =>
                obtain ⟨k, hk, rfl, hbr⟩ := hrel
                have HBq : Hid (Below w13.heap.size w13 wr) := hbr
                have HB8q : Hid (Below w8.heap.size w8 wr) := HB13.out.trans (hbr.mono HB13.out.size)
                have HBwq : Hid (Below w.heap.size w wr) := HB8.out.trans (HB8q.out.mono HB8.out.size)
                clear hbr
                by_cases hlt : k < m + 1
                · have hltz : (k : Int) < (m : Int) + 1 := by omega
                  have hltz2 : (k : Int) < ((m + 1 : Nat) : Int) := by omega
                  obtain ⟨f, o1, l1, c1, o2, l2, c2, hf, hcell⟩ := HAt.out k hlt
                  obtain ⟨x0, x1, r0, r1⟩ := hcell wr HB8q.out
                  have HHk : Hid (∀ W, Below wr.heap.size wr W → Calls Tryz.prog 26 #[.agg #[.slice o1 l1 c1, .slice o2 l2 c2], .agg #[.int .i64 D.u, .int .i64 D.a, .int .i64 D.b, .int .i64 D.c]] W fun e w' => e = .returned (.tuple #[.bool true, .nilIface]) ∧ Below wr.heap.size wr w') := fun W hW =>
                    (HDal.out k f _ _ W hf (HBwq.out.trans (hW.mono HBwq.out.size)) (r0.below hW) (r1.below hW)).mono fun e w' ⟨h1, h2⟩ => ⟨h1, hW.trans (h2.mono hW.size)⟩
                  obtain ⟨d0, d1, d2, d3⟩ := (HD13.out.below HBq.out).cells4
                  clear hf hcell r0 r1
                  go_upto_region 39 with fail
                  go_cut [20, 21] from 126 to 146 (fun x y wx => x = .bool true ∧ y = .nilIface ∧ Below wr.heap.size wr wx)
                  case first =>
                    go_region_with (go_at_call 26; refine (HHk.out _ (by first | exact Below.drew (Below.refl _ _) | exact Below.refl _ _)).mono ?_; rintro e w15 ⟨rfl, hb15⟩)
                    all_goals (try go_wp2)
                    all_goals go_meet
                    all_goals exact ⟨rfl, rfl, hb15⟩
                  case rest =>
                    obtain ⟨rfl, rfl, hb15⟩ := hcut
                    obtain ⟨w15, hw15⟩ : ∃ x, x = wc := ⟨_, rfl⟩
                    subst hw15
                    have HB15 : Hid (Below w13.heap.size w13 w15) := HBq.out.trans (hb15.mono HBq.out.size)
                    clear hb15 x0 x1 d0 d1 d2 d3
                    go_wp2
                    go_roundw
                    case rel => first | exact ⟨k + 1, by omega, by go_num, HB15.out⟩ | ((repeat apply Exists.intro); refine ⟨?_, rfl⟩; exact ⟨k + 1, by omega, by go_num, HB15.out⟩)
                    case measure => first | (simp [intOf]; done) | (simp [intOf]; omega)
                · obtain rfl : k = m + 1 := by omega
                  have hltz2 : ¬ ((m + 1 : Nat) : Int) < ((m + 1 : Nat) : Int) := by omega
                  go_wp2
                  go_ret
                  exact ⟨rfl, HBwq.out⟩
end Go.Proofs.YtjmeakkmfeoigaaGreatDoor
