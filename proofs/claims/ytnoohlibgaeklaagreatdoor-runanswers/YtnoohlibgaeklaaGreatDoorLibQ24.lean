/-
  Facts and contracts that the statement leans on.
-/
import Derived.Test.YtnoohlibgaeklaaGreatDoorLibQ19
import Derived.Test.YtnoohlibgaeklaaGreatDoorLibQ21
import Derived.Test.YtnoohlibgaeklaaGreatDoorLibQ23
import Derived.Test.YtnoohlibgaeklaaGreatDoorLibQ20
import Derived.Test.YtnoohlibgaeklaaGreatDoorLibQ4
import Derived.Test.YtnoohlibgaeklaaGreatDoorLibQ10
import Derived.Test.YtnoohlibgaeklaaGreatDoorLibQ1
import Derived.Test.YtnoohlibgaeklaaGreatDoorLibQ8
import Derived.Test.YtnoohlibgaeklaaGreatDoorLibQ16
import Derived.Test.YtnoohlibgaeklaaGreatDoorRows
import Derived.WalkKit
import Derived.LaidEql
import Derived.Stop.Asserts
import Derived.RowKitTokens
namespace Go.Proofs.YtnoohlibgaeklaaGreatDoor
open Go.ChangeShapes Go.WideShapes Go.ChangeAt Go.RowKit
set_option maxRecDepth 100000
set_option maxHeartbeats 16000000
theorem rec_app (c : UInt8) (l : List UInt8) : (⟨#[c]⟩ : ByteArray) ++ strOf l ++ ⟨#[10]⟩ = strOf (c :: l ++ [10]) := by
 apply strOf_same
 rw [strOf_list]
 simp [ByteArray.data_append, strOf]
theorem logRec_ok (a : At) (h : Bool) (vs vt : Value) (ha : a.fault = 0) (w : World) (hS : Reads w vs a.s) (hT : Reads w vt a.t) (hK : KindsLaid w) (hL : LibLaid w) :
    Calls Tryz.prog 93 #[.agg #[.int .i64 a.k, vs, vt, .int .i64 a.n], .bool h] w (Bk w (.tuple #[.string (strOf (recB (a, h) ++ [10])), .nilIface])) := by
 have HP : Hid (∀ W, Bw w W → Calls Tryz.prog 139 #[.agg #[.int .i64 a.k, vs, vt, .int .i64 a.n]] W (Bk W (.tuple #[.string (strOf a.text), .nilIface]))) := fun W hW => by
  have h := aprint_any a.k a.n vs vt a.s a.t W (hS.below hW) (hT.below hW) (hK.below hW) (hL.below hW)
  have e0 : atomFault a.k a.s a.t a.n = 0 := ha
  have e1 : aprintS a.k a.s a.t a.n = strOf a.text := by unfold aprintS; rw [if_pos e0]; rfl
  rw [e0, e1, errV_0] at h
  exact h
 have hl := text_small ha
 obtain ⟨T, hTt⟩ := nm (strOf a.text)
 have HT := hide hTt
 have hz : T.size ≤ 100 := by rw [hTt, strOf_size]; exact hl
 rw [← hTt] at HP
 obtain ⟨R, hR⟩ := nm (strOf (recB (a, h) ++ [10]))
 have HR := hide hR
 rw [← hR]
 obtain ⟨so, sc, rfl, _⟩ := hS.slice
 obtain ⟨tto, tc, rfl, _⟩ := hT.slice
 obtain ⟨w1, hw1⟩ := nm (w.alloc (.cells #[.int .i64 a.k, .slice so a.s.length sc, .slice tto a.t.length tc, .int .i64 a.n] 71))
 have k0 : Blk w1 w.heap.size 71 #[.int .i64 a.k, .slice so a.s.length sc, .slice tto a.t.length tc, .int .i64 a.n] := by rw [hw1]; exact Blk.new _ _ _
 have HB1 : Hid (Bw w w1) := by unfold Hid; rw [hw1]; exact below_alloc1 _ _
 have a0 : w1.cell? ⟨w.heap.size, 0, none⟩ = some (.int .i64 a.k) := k0.cell 0
 have a1 : w1.cell? ⟨w.heap.size, 1, none⟩ = some (.slice so a.s.length sc) := k0.cell 1
 have a2 : w1.cell? ⟨w.heap.size, 2, none⟩ = some (.slice tto a.t.length tc) := k0.cell 2
 have a3 : w1.cell? ⟨w.heap.size, 3, none⟩ = some (.int .i64 a.n) := k0.cell 3
 clear k0 hTt hR hl hS hT hK hL ha
 go_enter Tryz.func93, Tryz.ntmps93
 go_upto_region 1 with fail
 rw [← hw1]
 clear hw1
 go_wp2_with fail
 go_at_call 139
 refine (HP.out _ HB1.out).mono ?_
 rintro e w2 ⟨rfl, hb⟩
 have HB2 := bt HB1 hb
 clear hb a0 a1 a2 a3
 cases h with
 | true =>
  go_wp2
  go_ret2
  refine ⟨?_, HB2.out⟩
  rw [HR.out, HT.out]
  exact congrArg (fun x => Ending.returned (.tuple #[.string x, .nilIface])) (rec_app 43 a.text)
 | false =>
  go_wp2
  go_ret2
  refine ⟨?_, HB2.out⟩
  rw [HR.out, HT.out]
  exact congrArg (fun x => Ending.returned (.tuple #[.string x, .nilIface])) (rec_app 45 a.text)
theorem logOpen_any (v : Value) (fs : List Fm) (u : Int) (hu : 0 ≤ u ∧ u ≤ 6) (h6 : fs.length ≤ 6) (hf : ∀ f ∈ fs, f.fault = 0) (w : World) (hF : ReadsF w v fs) (hK : KindsLaid w) :
    Calls Tryz.prog 94 #[v, .int .i64 u] w (Bk w (.bool (openN fs u.toNat))) := by
 have hO := coreOpen_any v fs u w hF hK
 obtain ⟨lo, lcap, rfl, _⟩ := hF.slice
 by_cases h0 : fs.length = 0
 ·have e : fs = [] := List.eq_nil_of_length_eq_zero h0
  subst e
  have e1 : openN [] u.toNat = true := open_nil _
  rw [e1]
  clear e1 hO hF hK h6 hf hu h0
  go_enter Tryz.func94, Tryz.ntmps94
  go_wp2
  go_ret
  exact ⟨rfl, Below.refl _ _⟩
 ·have e0 : formsFault fs u = 0 := forms_zero.2 ⟨⟨by omega, h6⟩, hf, hu⟩
  have e1 : openB fs u = openN fs u.toNat := by unfold openB; rw [if_pos e0]
  rw [e0, e1, errV_0] at hO
  have HO := hide hO
  obtain ⟨q, hq⟩ := nm (openN fs u.toNat)
  obtain ⟨n, hn⟩ := nm fs.length
  rw [← hq, ← hn] at HO
  rw [← hq, ← hn]
  have dz : ((n : Int) == 0) = false := by simp; omega
  clear hO e0 e1 hq hn hF hK h6 hf hu h0
  go_enter Tryz.func94, Tryz.ntmps94
  go_wp2_with fail
  go_at_call 140
  refine HO.out.mono ?_
  rintro e w1 ⟨rfl, hb⟩
  have HB := hide hb
  clear hb
  cases q with
  | true =>
   go_wp2
   go_ret
   exact ⟨rfl, HB.out⟩
  | false =>
   go_wp2
   go_ret
   exact ⟨rfl, HB.out⟩
theorem alone_all {ps : List (At × Bool)} (hps : ∀ q ∈ ps, q.1.fault = 0) : ∀ f ∈ ps.map aloneP, f.fault = 0 := fun f hf => by
 obtain ⟨q, hq, rfl⟩ := List.mem_map.1 hf
 exact alone_right (hps q hq) q.2
def SaidE (ps : List (At × Bool)) (q : At × Bool) (b : Nat) (u sf z : Int) (e : Ending) (w' : World) : Prop :=
 (6 ≤ ps.length ∧ e = .returned (.iface 91 (.int .i64 4)) ∧ Blk w' b 84 (lgC u (strOf (linesT (ps.map recB) ++ [])) sf z false)) ∨
 (¬ 6 ≤ ps.length ∧ openN ((ps ++ [q]).map aloneP) u.toNat = false ∧ e = .returned (.iface 91 (.int .i64 7)) ∧ Blk w' b 84 (lgC u (strOf (linesT (ps.map recB) ++ [])) sf z false)) ∨
 (¬ 6 ≤ ps.length ∧ openN ((ps ++ [q]).map aloneP) u.toNat = true ∧ z = 0 ∧ e = .returned (.iface 91 (.int .i64 6)) ∧ Blk w' b 84 (lgC u (strOf (linesT (ps.map recB) ++ (recB q ++ [10]).take ((recB q ++ [10]).length / 2))) sf z true)) ∨
 (¬ 6 ≤ ps.length ∧ openN ((ps ++ [q]).map aloneP) u.toNat = true ∧ ¬ z = 0 ∧ e = .returned .nilIface ∧ Blk w' b 84 (lgC u (strOf (linesT ((ps ++ [q]).map recB) ++ [])) sf (stepZ z) false))
theorem madeF_next {K : Nat} {w3 w5 w6 : World} {v v' : Value} {l : List Fm} {f : Fm} {xs : List Value} {va vc : Value} (o : Obj) (hK : K ≤ w3.heap.size)
    (own : w3.ownsRow K 78 2 v l.length xs) (h2 : ∀ b, v.ownBlock = some b → K ≤ b) (h3 : ∀ i f, l[i]? = some f → ∃ va vc, xs[i * 2]? = some va ∧ xs[i * 2 + 1]? = some vc ∧ FormOn (fun b => K ≤ b ∧ v.ownBlock ≠ some b) w3 va vc f)
    (hb : Bw w3 w5) (hf : FormOn (fun b => w3.heap.size ≤ b) w5 va vc f)
    (own' : w6.ownsRow K 78 2 v' (l.length + 1) (xs ++ [va, vc])) (hg : (w5.alloc o).grownBy w6 v.ownBlock) (hat : v'.ownBlock = v.ownBlock ∨ v'.ownBlock = some (w5.heap.size + 1)) : MadeF (fun b => K ≤ b) K w6 v' (l ++ [f]) := by
 have hb5 : Bw w3 (w5.alloc o) := hb.alloc hb.size _
 have hb55 : Bw w5 (w5.alloc o) := (Below.refl _ _).alloc (Nat.le_refl _) _
 refine madeF_more (R := fun b => K ≤ b) (H := w3.heap.size) (W := w5.alloc o) (fun b h => h) (fun b h _ => Nat.le_trans hK h) (fun b e => (own.lt b e).2) hb5.size ?_ h2 (fun i f hi => ?_) (hf.step hb55.size (fun b _ hl => hb55.block b hl) fun b hb _ => hb) own' hg ?_
 ·exact own_keep own fun b e => hb5.block b (own.lt b e).2
 ·obtain ⟨ua, uc, p0, p1, r⟩ := h3 i f hi
  exact ⟨ua, uc, p0, p1, r.step hb5.size (fun b _ hl => hb5.block b hl) fun b hb _ => hb⟩
 ·rw [World.size_alloc]; exact hat
theorem logSay_go (ps : List (At × Bool)) (hps : ∀ q ∈ ps, q.1.fault = 0) (h6 : ps.length ≤ 6) (a : At) (h : Bool) (vs vt : Value) (ha : a.fault = 0) (b : Nat) (u sf z : Int) (hu : 0 ≤ u ∧ u ≤ 6) (w : World)
    (hB : Blk w b 84 (lgC u (strOf (linesT (ps.map recB) ++ [])) sf z false)) (hS : Reads w vs a.s) (hT : Reads w vt a.t) (hK : KindsLaid w) (hL : LibLaid w) :
    Calls Tryz.prog 62 #[.pointer (some ⟨b, 0, none⟩), .agg #[.int .i64 a.k, vs, vt, .int .i64 a.n], .bool h] w fun e w' => SaidE ps (a, h) b u sf z e w' ∧ LKeep (fun x => x = b) w w' := by
 have HB : Hid (Blk w b 84 (lgC u (strOf (linesT (ps.map recB) ++ [])) sf z false)) := hB
 have hsm := recs_small hps
 have hrs := rec_small (q := (a, h)) ha
 have HR : Hid (∀ W, Bw w W → Calls Tryz.prog 93 #[.agg #[.int .i64 a.k, vs, vt, .int .i64 a.n], .bool h] W (Bk W (.tuple #[.string (strOf (recB (a, h) ++ [10])), .nilIface]))) := fun W hW => logRec_ok a h vs vt ha W (hS.below hW) (hT.below hW) (hK.below hW) (hL.below hW)
 have HAl : Hid (∀ W, Bw w W → Calls Tryz.prog 37 #[.pointer (some ⟨b, 0, none⟩)] W fun e w' => ∃ v, e = .returned v ∧ MadeF (fun x => W.heap.size ≤ x) W.heap.size w' v (ps.map aloneP) ∧ Bw W w') := fun W hW => logAll_any ps hps h6 [] rfl (by simp) b u sf z false W (HB.out.below hW) (hK.below hW) (hL.below hW)
 have HRd : Hid (∀ W, Bw w W → Calls Tryz.prog 59 #[.string (strOf (recB (a, h) ++ [10]))] W fun e w' => ∃ o1 l1 c1 o2 l2 c2, e = .returned (.agg #[.slice o1 l1 c1, .slice o2 l2 c2]) ∧ FormOn (fun b => W.heap.size ≤ b) w' (.slice o1 l1 c1) (.slice o2 l2 c2) (aloneP (a, h)) ∧ Bw W w') := fun W hW => logRead_any a h ha W (hK.below hW) (hL.below hW)
 have hall : ∀ q ∈ ps ++ [(a, h)], q.1.fault = 0 := fun q hq => by
  rcases List.mem_append.1 hq with hq | hq
  ·exact hps q hq
  ·obtain rfl : q = (a, h) := by simpa using hq
   exact ha
 have HOp : Hid (¬ 6 ≤ ps.length → ∀ v W, Bw w W → ReadsF W v ((ps ++ [(a, h)]).map aloneP) → Calls Tryz.prog 94 #[v, .int .i64 u] W (Bk W (.bool (openN ((ps ++ [(a, h)]).map aloneP) u.toNat)))) := fun h7 v W hW hv => logOpen_any v _ u hu (by rw [List.length_map, List.length_append, List.length_singleton]; omega) (alone_all hall) W hv (hK.below hW)
 have HMa : Hid ((ps ++ [(a, h)]).map aloneP = ps.map aloneP ++ [aloneP (a, h)]) := by unfold Hid; rw [List.map_append]; rfl
 obtain ⟨T, hTt⟩ := nm (strOf (recB (a, h) ++ [10]))
 have HTt := hide hTt
 have hTn : T.size = (recB (a, h) ++ [10]).length := by rw [hTt]; exact strOf_size _
 have HTn := hide hTn
 have hTz : T.size ≤ 102 := by rw [hTn, List.length_append]; simp; omega
 obtain ⟨r, hr⟩ := nm (strOf (linesT (ps.map recB) ++ []))
 have HRr := hide hr
 have hrz : r.size ≤ 612 := by rw [hr, strOf_size]; simp; omega
 rw [← hTt] at HR HRd
 rw [← hr] at HB
 obtain ⟨so, sc, rfl, _⟩ := hS.slice
 obtain ⟨tto, tc, rfl, _⟩ := hT.slice
 obtain ⟨w1, hw1⟩ := nm (w.alloc (.cells #[.int .i64 a.k, .slice so a.s.length sc, .slice tto a.t.length tc, .int .i64 a.n] 71))
 have b1 : Bw w w1 := by rw [hw1]; exact below_alloc1 _ _
 have k0 : Blk w1 w.heap.size 71 #[.int .i64 a.k, .slice so a.s.length sc, .slice tto a.t.length tc, .int .i64 a.n] := by rw [hw1]; exact Blk.new _ _ _
 have HB1 := hide b1
 have c4 : w1.cell? ⟨b, 4, none⟩ = some (.bool false) := (HB.out.below b1).cell 4
 have a0 : w1.cell? ⟨w.heap.size, 0, none⟩ = some (.int .i64 a.k) := k0.cell 0
 have a1 : w1.cell? ⟨w.heap.size, 1, none⟩ = some (.slice so a.s.length sc) := k0.cell 1
 have a2 : w1.cell? ⟨w.heap.size, 2, none⟩ = some (.slice tto a.t.length tc) := k0.cell 2
 have a3 : w1.cell? ⟨w.heap.size, 3, none⟩ = some (.int .i64 a.n) := k0.cell 3
 clear hB b1 k0 hS hT hK hL ha hTt hr hall hsm hrs hps hu hTn
 go_enter Tryz.func62, Tryz.ntmps62
 go_upto_region 1 with fail
 rw [← hw1]
 clear hw1
 go_wp2_with fail
 go_at_call 93
 refine (HR.out _ HB1.out).mono ?_
 rintro e w2 ⟨rfl, hb⟩
 have HB2 := bt HB1 hb
 clear hb a0 a1 a2 a3 c4
 go_wp2_with fail
 go_at_call 37
 refine (HAl.out _ HB2.out).mono ?_
 rintro e w3 ⟨v, rfl, hm, hb⟩
 have HB3 := bt HB2 hb
 have HM3 := hide hm
 have HK3 := hide (hb.size)
 obtain ⟨ao, ac, hv⟩ := hm.slice
 obtain ⟨n, hn⟩ := nm ps.length
 have HN := hide hn
 rw [List.length_map, ← hn] at hv
 rw [← hn] at HOp h6
 subst hv
 have HBl3 := hide (HB.out.below HB3.out)
 clear hb hm hn
 by_cases h7 : 6 ≤ n
 ·have h7' : (6 : Int) ≤ (n : Int) := by omega
  go_wp2
  go_ret
  exact ⟨Or.inl ⟨by rw [← HN.out]; exact h7, rfl, by rw [← HRr.out]; exact HBl3.out⟩, LKeep.of_below HB3.out⟩
 ·have h7' : (n : Int) < 6 := by omega
  have h7n : ¬ (6 : Int) ≤ (n : Int) := by omega
  have HOp7 := hide (HOp.out h7)
  have H7 := hide h7
  clear HOp h6
  obtain ⟨q, hq⟩ := nm (openN ((ps ++ [(a, h)]).map aloneP) u.toNat)
  have HQ := hide hq
  rw [← hq] at HOp7
  clear hq h7
  obtain ⟨xs, hx1, hx2, hx3⟩ := HM3.out
  have hl3 : (ps.map aloneP).length = n := by rw [List.length_map]; exact HN.out.symm
  have HX1 : Hid (w3.ownsRow w2.heap.size 78 2 (.slice ao n ac) n xs) := by unfold Hid; rw [← hl3]; rw [hl3]; rw [hl3] at hx1; exact hx1
  have HX3 : Hid (∀ w5 w6 v' va vc o, Bw w3 w5 → FormOn (fun b => w3.heap.size ≤ b) w5 va vc (aloneP (a, h)) → w6.ownsRow w2.heap.size 78 2 v' (n + 1) (xs ++ [va, vc]) → (w5.alloc o).grownBy w6 (Value.slice ao n ac).ownBlock → (v'.ownBlock = (Value.slice ao n ac).ownBlock ∨ v'.ownBlock = some (w5.heap.size + 1)) → ReadsF w6 v' ((ps ++ [(a, h)]).map aloneP)) := fun w5 w6 v' va vc o h1 h2 h3 h4 h5 => by
   rw [HMa.out]
   rw [← hl3] at h3
   exact (madeF_next o HK3.out hx1 hx2 hx3 h1 h2 h3 h4 h5).reads
  have HXb : Hid (∀ b, (Value.slice ao n ac).ownBlock = some b → w2.heap.size ≤ b) := fun b e => (hx1.lt b e).1
  clear hx1 hx2 hx3 hl3 HM3
  obtain ⟨i0, hi⟩ : ∃ i, Tryz.prog.info? 78 = some i := Option.isSome_iff_exists.1 infoFm
  have hz0 : i0.zero = some (.agg #[.slice none 0 0, .slice none 0 0]) := by have := zeroFm; rw [hi] at this; simpa using this
  have hz1 : i0.size = 2 := by have := sizeFm; rw [hi] at this; simpa using this
  have hz2 : i0.bytes = 48 := by have := bytesFm; rw [hi] at this; simpa using this
  have HQr : Hid (∀ W, Bw w3 W → W.heap.size = w3.heap.size → Calls Tryz.prog 59 #[.string T] W fun e w' => ∃ o1 l1 c1 o2 l2 c2, e = .returned (.agg #[.slice o1 l1 c1, .slice o2 l2 c2]) ∧ Hid (FormOn (fun b => w3.heap.size ≤ b) w' (.slice o1 l1 c1) (.slice o2 l2 c2) (aloneP (a, h))) ∧ Hid (Bw w3 w') ∧ w'.cell? ⟨b, 0, none⟩ = some (.int .i64 u)) := fun W hW hs =>
   (HRd.out W (HB3.out.trans (hW.mono HB3.out.size))).mono fun e w' ⟨o1, l1, c1, o2, l2, c2, h1, h2, h3⟩ => ⟨o1, l1, c1, o2, l2, c2, h1, by rw [hs] at h2; exact h2, hW.trans (h3.mono hW.size), (HBl3.out.below (hW.trans (h3.mono hW.size))).cell 0⟩
  have HQo : Hid (∀ v W, Bw w W → ReadsF W v ((ps ++ [(a, h)]).map aloneP) → Calls Tryz.prog 94 #[v, .int .i64 u] W fun e w' => e = .returned (.bool q) ∧ Hid (Bw w w') ∧ w'.cell? ⟨b, 0, none⟩ = some (.int .i64 u)) := fun v W hW hv =>
   (HOp7.out v W hW hv).mono fun e w' ⟨h1, h3⟩ => ⟨h1, hW.trans (h3.mono hW.size), (HB.out.below (hW.trans (h3.mono hW.size))).cell 0⟩
  have HD0 : Hid (Bw w3 w3.drew) := (Below.refl _ _).drew
  have HGb : Hid (∀ w5 o w6, Bw w3 w5 → (w5.alloc o).grownBy w6 (Value.slice ao n ac).ownBlock → Bw w w6) := fun w5 o w6 h5 h6 => by
   have hb := HB3.out.trans (h5.mono HB3.out.size)
   refine (hb.alloc hb.size _).grown h6 (by have := hb.size; simp; omega) fun b e => ?_
   have h1 := HXb.out b e
   have h2 := HB2.out.size
   omega
  have c0 : w3.cell? ⟨b, 0, none⟩ = some (.int .i64 u) := HBl3.out.cell 0
  have hn6 : n ≤ 5 := by have := H7.out; omega
  go_upto_region 9 with fail
  go_cut [40] from 30 to 40 (fun x wx => x = .bool (!q) ∧ Bw w wx)
  case first =>
   go_region_held3 (fun w' => w'.cell? ⟨b, 0, none⟩ = some (.int .i64 u)) (go_keep)
    (first
     | (go_at_call 59; refine (HQr.out _ ?_ ?_).mono ?_; (first | (with_reducible exact HD0.out) | (with_reducible exact Below.refl _ _)); (first | rfl | simp); rintro e w5 ⟨o1, l1, c1, o2, l2, c2, rfl, hf5, hb5, c5⟩)
     | (refine step_append_lies _ (by rfl) _ _ _ (by rfl) w2.heap.size 78 i0 (.agg #[.slice none 0 0, .slice none 0 0]) 2 48 Tryz.underlying25 hi hz0 hz1 hz2 rfl (by decide) (.slice ao n ac) n xs (by rfl) ((own_keep HX1.out fun b e => hb5.out.block b (HX1.out.lt b e).2).alloc _) ⟨w5.heap.size, 0, none⟩ 1 1 [.slice o1 l1 c1, .slice o2 l2 c2] (by rfl) (by rfl) (World.news_of_block (cs := #[.slice o1 l1 c1, .slice o2 l2 c2]) (t := 78) (fr := (0, 0)) (heap_alloc_new w5 _)) (by simp [Value.oneCell']) (by omega) (by unfold maxLen; omega) (by omega) (by have := HK3.out; have := hb5.out.size; simp; omega) (w5.heap.size + 1) (by simp) ?_; intro gg cap1 w6 hown1 hgrow hat hlt1; have hb6 : Hid (Bw w w6) := HGb.out _ _ _ hb5.out hgrow; have hr6 : Hid (ReadsF w6 (.slice (some ⟨gg, 0, none⟩) (n + 1) cap1) ((ps ++ [(a, h)]).map aloneP)) := HX3.out w5 w6 _ _ _ _ hb5.out hf5.out hown1 hgrow (by rcases hat with h | h; exact Or.inl h.symm; exact Or.inr (by rw [h]; rfl)); have c6 : w6.cell? ⟨b, 0, none⟩ = some (.int .i64 u) := (HB.out.below hb6.out).cell 0; clear hown1 hgrow hat hlt1)
     | (go_at_call 94; refine (HQo.out _ _ ?_ ?_).mono ?_; (first | (with_reducible exact Hid.out hb6) | (with_reducible exact Below.drew (Hid.out hb6))); (first | (with_reducible exact Hid.out hr6)); rintro e w7 ⟨rfl, hb7, c7⟩))
   all_goals (try go_wp2)
   all_goals go_meet
   all_goals exact ⟨rfl, hb7.out⟩
  case rest =>
  obtain ⟨rfl, hb⟩ := hcut
  obtain ⟨w8, hw8⟩ := nm wc
  rw [← hw8] at hb ⊢
  clear hw8
  have HB8 : Hid (LKeep (fun x => x = b) w w8) := LKeep.of_below hb
  have HBl8 := hide (HB.out.below hb)
  have H7p : Hid (¬ 6 ≤ ps.length) := by unfold Hid; rw [← HN.out]; exact H7.out
  clear hb c0 hi hz0 hz1 hz2 HQr HQo HX1 HX3 HXb HGb HD0 HOp7 HBl3 HAl HRd HR HMa HB1 HB2 HB3 HK3 h7' h7n hn6
  cases q with
  | false =>
   go_wp2
   go_ret
   exact ⟨Or.inr (Or.inl ⟨H7p.out, HQ.out.symm, rfl, by rw [← HRr.out]; exact HBl8.out⟩), HB8.out⟩
  | true =>
   have HSt : Hid (Calls Tryz.prog 95 #[.pointer (some ⟨b, 0, none⟩)] w8 fun e w' => e = .returned (.bool (decide (z = 0))) ∧ Blk w' b 84 (lgC u r sf (stepZ z) (decide (z = 0))) ∧ LKeep (fun x => x = b) w8 w') := logStops_any b u sf z r w8 HBl8.out
   have hrz' : (r.size : Int) ≤ 612 := by omega
   have hTz' : (T.size : Int) ≤ 102 := by omega
   by_cases h0 : z = 0
   ·have e0 : decide (z = 0) = true := decide_eq_true h0
    have es : stepZ z = z := by unfold stepZ; rw [if_neg (by omega)]
    rw [e0, es] at HSt
    have HZ := hide h0
    clear e0 es h0
    go_wp2_with fail
    go_at_call 95
    refine HSt.out.mono ?_
    rintro e w9 ⟨rfl, h1, h2⟩
    have H1 : Hid (Blk w9 b 84 (lgC u r sf z true)) := h1
    have H2 : Hid (LKeep (fun x => x = b) w w9) := HB8.out.trans (Grows.refl _ _) h2
    have c1 : w9.drew.cell? ⟨b, 1, none⟩ = some (.string r) := h1.cell 1
    have f1 : w9.drew.frozen? ⟨b, 1, none⟩ = false := h1.frozen 1
    clear h1 h2 HSt
    go_upto_region 12 with fail
    go_region
    all_goals go_wp2
    all_goals go_ret
    all_goals refine ⟨Or.inr (Or.inr (Or.inl ⟨H7p.out, HQ.out.symm, HZ.out, rfl, ?_⟩)), lkeep_drew (lkeep_set H2.out 1 _)⟩
    all_goals have e1 : T.extract 0 (T.size / 2) = strOf ((recB (a, h) ++ [10]).take ((recB (a, h) ++ [10]).length / 2)) := by rw [HTn.out, HTt.out, strOf_take]
    all_goals have e : strOf (linesT (ps.map recB) ++ (recB (a, h) ++ [10]).take ((recB (a, h) ++ [10]).length / 2)) = r ++ T.extract 0 (T.size / 2) := strOf_same (by rw [e1, ByteArray.data_append, Array.toList_append, strOf_list, HRr.out, strOf_list, strOf_list, List.append_nil])
    all_goals rw [e]
    all_goals exact (H1.out.set 1 _).drew
   ·have e0 : decide (z = 0) = false := decide_eq_false h0
    rw [e0] at HSt
    have HZ := hide h0
    clear e0 h0
    go_wp2_with fail
    go_at_call 95
    refine HSt.out.mono ?_
    rintro e w9 ⟨rfl, h1, h2⟩
    have H1 : Hid (Blk w9 b 84 (lgC u r sf (stepZ z) false)) := h1
    have H2 : Hid (LKeep (fun x => x = b) w w9) := HB8.out.trans (Grows.refl _ _) h2
    have c1 : w9.cell? ⟨b, 1, none⟩ = some (.string r) := h1.cell 1
    have f1 : w9.frozen? ⟨b, 1, none⟩ = false := h1.frozen 1
    clear h1 h2 HSt
    go_wp2
    go_ret
    refine ⟨Or.inr (Or.inr (Or.inr ⟨H7p.out, HQ.out.symm, HZ.out, rfl, ?_⟩)), lkeep_set H2.out 1 _⟩
    have e : strOf (linesT ((ps ++ [(a, h)]).map recB) ++ []) = r ++ T := by
     apply strOf_same
     rw [ByteArray.data_append, Array.toList_append, strOf_list, HRr.out, HTt.out, strOf_list, strOf_list, List.map_append, linesT_app]
     simp [linesT]
    rw [e]
    exact H1.out.set 1 _
structure LgRun (l : Lg) (fs : List Fm) : Prop where
 said : l.fs = fs
 ok : SaidOk fs
def LogAt (b : Nat) (l : Lg) (W : World) : Prop := ∃ ps : List (At × Bool), (∀ q ∈ ps, q.1.fault = 0) ∧ ps.length ≤ 6 ∧ l.fs = ps.map aloneP ∧ Blk W b 84 (lgC 4 (strOf (linesT (ps.map recB) ++ [])) 0 (-1) false)
theorem LogAt.keep {b : Nat} {l : Lg} {W W' : World} (h : LogAt b l W) (hb : W'.heap[b]? = W.heap[b]?) : LogAt b l W' := by
 obtain ⟨ps, h1, h2, h3, h4⟩ := h
 exact ⟨ps, h1, h2, h3, by unfold Blk; rw [hb]; exact h4⟩
theorem LogAt.lt {b : Nat} {l : Lg} {W : World} (h : LogAt b l W) : b < W.heap.size := by
 obtain ⟨_, _, _, _, h4⟩ := h
 exact h4.lt
theorem lgrun0 : LgRun (lg0 4) [] := ⟨rfl, said0⟩
theorem logAt_new (w : World) : LogAt w.heap.size (lg0 4) (w.alloc (.cells (lgC 4 ⟨#[]⟩ 0 (-1) false) 84)) :=
 ⟨[], (fun q h => by cases h), by decide, rfl, Blk.new w 84 (lgC 4 ⟨#[]⟩ 0 (-1) false)⟩
theorem deskMade_any {b : Nat} {l : Lg} {fs : List Fm} {w W : World} (hK : KindsLaid w) (hL : LibLaid w) (hW : Bw w W) (hlg : LogAt b l W) (hr : LgRun l fs) :
    Calls Tryz.prog 37 #[.pointer (some ⟨b, 0, none⟩)] W fun e w' => ∃ v, e = .returned v ∧ MadeF (fun x => W.heap.size ≤ x) W.heap.size w' v fs ∧ Bw W w' := by
 obtain ⟨ps, h1, h2, h3, hB⟩ := hlg
 rw [← hr.said, h3]
 exact logAll_any ps h1 h2 [] rfl (by simp) b 4 0 (-1) false W hB (hK.below hW) (hL.below hW)
theorem deskAll_any {b : Nat} {l : Lg} {fs : List Fm} {w W : World} (hK : KindsLaid w) (hL : LibLaid w) (hW : Bw w W) (hlg : LogAt b l W) (hr : LgRun l fs) :
    Calls Tryz.prog 37 #[.pointer (some ⟨b, 0, none⟩)] W fun e w' => ∃ v, e = .returned v ∧ ReadsF w' v fs ∧ Bw W w' :=
 (deskMade_any hK hL hW hlg hr).mono fun _ _ ⟨v, he, hm, hb⟩ => ⟨v, he, hm.reads, hb⟩
def sayF (fs : List Fm) (a : At) (h : Bool) : Int := if 6 ≤ fs.length then 4 else if openN (fs ++ [aloneF a h]) 4 = true then 0 else 7
def sayS (fs : List Fm) (a : At) (h : Bool) : List Fm := if sayF fs a h = 0 then fs ++ [aloneF a h] else fs
theorem deskSay_any {b : Nat} {l : Lg} {fs : List Fm} {w W : World} (hK : KindsLaid w) (hL : LibLaid w) (hW : Bw w W) (hlg : LogAt b l W) (hr : LgRun l fs) {a : At} (ha : a.fault = 0) (h : Bool) {vs vt : Value} (hs : Reads W vs a.s) (ht : Reads W vt a.t) :
    Calls Tryz.prog 62 #[.pointer (some ⟨b, 0, none⟩), .agg #[.int .i64 a.k, vs, vt, .int .i64 a.n], .bool h] W fun e w' => e = .returned (errV (sayF fs a h)) ∧ (∃ l', LogAt b l' w' ∧ LgRun l' (sayS fs a h)) ∧ LKeep (fun x => x = b) W w' := by
 obtain ⟨ps, h1, h2, h3, hB⟩ := hlg
 have hfs : fs = ps.map aloneP := by rw [← hr.said, h3]
 have hlen : fs.length = ps.length := by rw [hfs, List.length_map]
 have hap : (ps ++ [(a, h)]).map aloneP = fs ++ [aloneF a h] := by rw [List.map_append, ← hfs]; rfl
 refine (logSay_go ps h1 h2 a h vs vt ha b 4 0 (-1) (by decide) W hB hs ht (hK.below hW) (hL.below hW)).mono ?_
 rintro e w' ⟨hsaid, hk⟩
 unfold SaidE at hsaid
 rw [show ((4 : Int)).toNat = 4 from rfl] at hsaid
 rcases hsaid with ⟨h6, rfl, hB'⟩ | ⟨h6, ho, rfl, hB'⟩ | ⟨_, _, h0, _⟩ | ⟨h6, ho, _, rfl, hB'⟩
 ·have e0 : sayF fs a h = 4 := by unfold sayF; rw [if_pos (by omega)]
  have es : sayS fs a h = fs := by unfold sayS; rw [e0]; exact if_neg (by decide)
  rw [e0, es]
  exact ⟨rfl, ⟨l, ⟨ps, h1, h2, h3, hB'⟩, hr⟩, hk⟩
 ·have e0 : sayF fs a h = 7 := by unfold sayF; rw [if_neg (by omega), if_neg (by rw [← hap, ho]; decide)]
  have es : sayS fs a h = fs := by unfold sayS; rw [e0]; exact if_neg (by decide)
  rw [e0, es]
  exact ⟨rfl, ⟨l, ⟨ps, h1, h2, h3, hB'⟩, hr⟩, hk⟩
 ·exact absurd h0 (by decide)
 ·rw [hap] at ho
  have e0 : sayF fs a h = 0 := by unfold sayF; rw [if_neg (by omega), if_pos ho]
  have es : sayS fs a h = fs ++ [aloneF a h] := by unfold sayS; rw [if_pos e0]
  rw [e0, es]
  refine ⟨rfl, ⟨{ l with fs := fs ++ [aloneF a h] }, ⟨ps ++ [(a, h)], fun q hq => ?_, ?_, hap.symm, hB'⟩, rfl, ⟨fun f hf => ?_, ?_, ho⟩⟩, hk⟩
  ·rcases List.mem_append.1 hq with hq | hq
   ·exact h1 q hq
   ·obtain rfl : q = (a, h) := by simpa using hq
    exact ha
  ·rw [List.length_append, List.length_singleton]; omega
  ·rcases List.mem_append.1 hf with hf | hf
   ·exact hr.ok.good f hf
   ·obtain rfl : f = aloneF a h := by simpa using hf
    exact ⟨a, h, rfl, ha⟩
  ·rw [List.length_append, List.length_singleton]; omega
theorem word_plain (s : List UInt8) : plainB (wordL s) = true := by
 unfold plainB wordL
 exact List.all_takeWhile
theorem takeOf_head {t s r : List UInt8} (h : s = t ++ r) : s.take t.length = t := by subst h; simp
theorem dropOf_head {t s r : List UInt8} {c : UInt8} (h : s = t ++ c :: r) : s.drop (t.length + 1) = r := by subst h; simp
theorem line_cut {s : List UInt8} (h : moreB s = true) : s = wordL s ++ 32 :: restL s := by
 have h1 : s = wordL s ++ s.dropWhile (· != 32) := (List.takeWhile_append_dropWhile).symm
 have h2 : ∃ r, s.dropWhile (· != 32) = 32 :: r := by
  clear h1
  induction s with
  | nil => simp [moreB] at h
  | cons x s ih =>
   by_cases hx : x = 32
   ·subst hx; exact ⟨s, by simp⟩
   ·have : moreB s = true := by
     unfold moreB at h ⊢
     rw [List.any_cons] at h
     simpa [hx] using h
    obtain ⟨r, hr⟩ := ih this
    exact ⟨r, by rw [List.dropWhile_cons_of_pos (by simpa using hx)]; exact hr⟩
 obtain ⟨r, hr⟩ := h2
 rw [hr] at h1
 have h3 : restL s = r := dropOf_head h1
 rw [h3]
 exact h1
theorem cut_more {s : List UInt8} (h : moreB s = true) (hz : s.length ≤ 9223372036854775806) (w : World) :
    Calls Tryz.prog 38 #[.string (strOf s), .string ⟨#[32]⟩] w (Bk w (.tuple #[.string (strOf (wordL s)), .string (strOf (restL s)), .bool true])) := by
 have e := line_cut h
 have hb : blankAt (strOf s).data.toList = ((wordL s).length : Nat) := by
  rw [strOf_list]
  conv => lhs; rw [e]
  exact blankAt_plain (word_plain s) _
 have h1 : (strOf s).extract 0 (wordL s).length = strOf (wordL s) := by
  rw [strOf_take, takeOf_head e]
 have h2 : (strOf s).extract ((wordL s).length + 1) (strOf s).size = strOf (restL s) := by
  apply strOf_same
  rw [Lib.extract_data, strOf_list, strOf_list]
  unfold restL
  rw [strOf_size, List.take_of_length_le (by simp)]
 have h3 := cutWord_hit (strOf s) (wordL s).length hb (by rw [strOf_size]; exact hz) w
 rw [h1, h2] at h3
 exact h3
theorem cut_less {s : List UInt8} (h : moreB s = false) (w : World) :
    Calls Tryz.prog 38 #[.string (strOf s), .string ⟨#[32]⟩] w (Bk w (.tuple #[.string (strOf s), .string ⟨#[]⟩, .bool false])) := by
 refine cutWord_miss (strOf s) ?_ w
 rw [strOf_list]
 have hp : plainB s = true := by
  unfold moreB at h
  unfold plainB
  rw [List.all_eq_true]
  intro x hx
  have := List.any_eq_false.1 h x hx
  simpa using this
 have h1 := blankAt_none hp
 have h2 := blankAt_range s
 omega
theorem word_all {s : List UInt8} (h : moreB s = false) : wordL s = s ∧ restL s = [] := by
 have e : wordL s = s := by
  unfold moreB at h
  have h1 := List.takeWhile_append_of_pos (p := (· != 32)) (l₁ := s) (l₂ := []) fun a ha => by
   have := List.any_eq_false.1 h a ha
   simpa using this
  simpa [wordL] using h1
 exact ⟨e, by unfold restL; rw [e, List.drop_of_length_le (by omega)]⟩
theorem cut_any (s : List UInt8) (hz : s.length ≤ 9223372036854775806) (w : World) :
    Calls Tryz.prog 38 #[.string (strOf s), .string ⟨#[32]⟩] w fun e w' => ∃ f, e = .returned (.tuple #[.string (strOf (wordL s)), .string (strOf (restL s)), .bool f]) ∧ Bw w w' := by
 cases hm : moreB s with
 | true => exact (cut_more hm hz w).mono fun e w' h => ⟨_, h⟩
 | false =>
  obtain ⟨e1, e2⟩ := word_all hm
  rw [e1, e2]
  exact (cut_less hm w).mono fun e w' h => ⟨_, h⟩
def nameW (n : Int) : List UInt8 :=
 if n = 0 then [79, 75] else if n = 1 then [69, 114, 114, 82, 97, 110, 103, 101] else if n = 2 then [69, 114, 114, 83, 121, 110, 116, 97, 120] else if n = 3 then [69, 114, 114, 83, 104, 97, 112, 101]
 else if n = 4 then [69, 114, 114, 70, 117, 108, 108] else if n = 5 then [69, 114, 114, 78, 111, 110, 101] else if n = 6 then [69, 114, 114, 83, 116, 97, 116, 101]
 else if n = 7 then [69, 114, 114, 67, 108, 97, 115, 104] else if n = 8 then [69, 114, 114, 70, 114, 101, 101] else [69, 114, 114, 110, 111]
theorem errno_any (n : Int) (h : 0 ≤ n ∧ n ≤ 8) (w : World) :
    Calls Tryz.prog 45 #[.int .i64 n] w (Sk w (.string ⟨(nameW n).toArray⟩)) := by
 obtain ⟨k, rfl⟩ := Int.eq_ofNat_of_zero_le h.1
 have hk : k < 9 := by omega
 match k, hk with
 | 0, _ | 1, _ | 2, _ | 3, _ | 4, _ | 5, _ | 6, _ | 7, _ | 8, _ =>
  go_enter Tryz.func45, Tryz.ntmps45
  go_wp2
  go_ret
  exact ⟨rfl, rfl⟩
def LineOf (l : List UInt8) (W : World) (e : Ending) (w' : World) : Prop :=
 (lineFault l = 0 ∧ ∃ v0 v1, e = .returned (.tuple #[.agg #[.int .i64 (atOf l).k, v0, v1, .int .i64 (atOf l).n], .nilIface]) ∧ Reads w' v0 (atOf l).s ∧ Reads w' v1 (atOf l).t ∧ NewV W.heap.size v0 ∧ NewV W.heap.size v1) ∨
  (¬ lineFault l = 0 ∧ e = .returned (.tuple #[.agg #[.int .i64 0, .slice none 0 0, .slice none 0 0, .int .i64 0], .iface 91 (.int .i64 (lineFault l))]))
theorem line_new (l : List UInt8) (hz : l.length ≤ 9223372036854775806) (w : World) (hK : KindsLaid w) (hL : LibLaid w) :
    Calls Tryz.prog 61 #[.string (strOf l)] w fun e w' => LineOf l w e w' ∧ Bw w w' := by
 refine (aparse_new (strOf l) (by rw [strOf_size]; exact hz) w hK hL).mono ?_
 rintro e w' ⟨a, rfl, h1, h2, hb⟩
 refine ⟨?_, hb⟩
 have hc := seen_cut (strOf l)
 rw [strOf_list] at hc
 rcases hc with hc | ⟨h3, h4⟩
 ·rw [hc] at h1 h2 ⊢
  by_cases h0 : wordsFault (cutL l) = 0
  ·obtain ⟨v0, v1, rfl, r0, r1, n0, n1⟩ := h1 h0
   exact Or.inl ⟨h0, v0, v1, by rw [h0]; rfl, r0, r1, n0, n1⟩
  ·obtain rfl := h2 h0
   exact Or.inr ⟨h0, by rw [errV_no h0]; rfl⟩
 ·obtain rfl := h2 (by rw [h3]; decide)
  have e : lineFault l = 2 := h4
  refine Or.inr ⟨by rw [e]; decide, ?_⟩
  rw [h3, e]
  rfl
end Go.Proofs.YtnoohlibgaeklaaGreatDoor
namespace Go.Proofs.YtnoohlibgaeklaaGreatDoor
open Go.ChangeShapes Go.WideShapes Go.ChangeAt Go.RowKit
set_option maxRecDepth 100000
set_option maxHeartbeats 16000000
attribute [local go_sem] Oper.semAt_some
def LineEnd (L : List UInt8) (s : ByteArray) (E : Value) : Prop :=
 (E = .nilIface ∧ s = strOf L) ∨ (L = badW ∧ ∃ T x, E = .iface 93 (.agg #[.iface T x])) ∨ (∃ n, (1 ≤ n ∧ n ≤ 8) ∧ E = .iface 91 (.int .i64 n) ∧ L = nameW n)
def sayL (fs : List Fm) (t : List UInt8) (h : Bool) : List UInt8 := if lineFault t = 0 then (if sayF fs (atOf t) h = 0 then okW else nameW (sayF fs (atOf t) h)) else badW
def saidL (fs : List Fm) (t : List UInt8) (h : Bool) : List Fm := if lineFault t = 0 then sayS fs (atOf t) h else fs
theorem sayF_range (fs : List Fm) (a : At) (h : Bool) : sayF fs a h = 0 ∨ sayF fs a h = 4 ∨ sayF fs a h = 7 := by
 unfold sayF
 split
 ·exact Or.inr (Or.inl rfl)
 ·split
  ·exact Or.inl rfl
  ·exact Or.inr (Or.inr rfl)
theorem say_any {b : Nat} {l : Lg} {fs : List Fm} {w : World} (w0 : World) (hK : KindsLaid w) (hL : LibLaid w) (hW : Bw w w0) (hlg : LogAt b l w0) (hr : LgRun l fs) (t : List UInt8) (hz : t.length ≤ 3000) (h : Bool) :
    Calls Tryz.prog 39 #[.agg #[.pointer (some ⟨b, 0, none⟩)], .string (strOf t), .bool h] w0 fun e w' => ∃ s E, e = .returned (.tuple #[.string s, E]) ∧ LineEnd (sayL fs t h) s E ∧ (∃ l', LogAt b l' w' ∧ LgRun l' (saidL fs t h)) ∧ LKeep (fun x => x = b) w0 w' := by
 have hW0 : w.heap.size ≤ w0.heap.size := hW.size
 have hbl := hlg.lt
 obtain ⟨w1, hw1⟩ := nm (w0.alloc (.cells #[.pointer (some ⟨b, 0, none⟩)] 38))
 have b1 : Bw w0 w1 := by rw [hw1]; exact below_alloc1 _ _
 have d1 : Blk w1 w0.heap.size 38 #[.pointer (some ⟨b, 0, none⟩)] := by rw [hw1]; exact Blk.new _ _ _
 have HB1 := hide b1
 have HD1 : Hid (Blk w1 w0.heap.size 38 #[.pointer (some ⟨b, 0, none⟩)]) := d1
 have HPa : Hid (Calls Tryz.prog 61 #[.string (strOf t)] w1 fun e w' => LineOf t w1 e w' ∧ Bw w1 w') := line_new t (by omega) w1 (hK.below (hW.trans (b1.mono hW0))) (hL.below (hW.trans (b1.mono hW0)))
 have HSy : Hid (∀ (a : At) (vs vt : Value) (W : World), a.fault = 0 → Bw w0 W → Reads W vs a.s → Reads W vt a.t → Calls Tryz.prog 62 #[.pointer (some ⟨b, 0, none⟩), .agg #[.int .i64 a.k, vs, vt, .int .i64 a.n], .bool h] W fun e w' => e = .returned (errV (sayF fs a h)) ∧ (∃ l', LogAt b l' w' ∧ LgRun l' (sayS fs a h)) ∧ LKeep (fun x => x = b) W w') := fun a vs vt W ha hB hs ht =>
  deskSay_any hK hL (hW.trans (hB.mono hW0)) (hlg.keep (hB.block _ hbl)) hr ha h hs ht
 have HLg : Hid (LogAt b l w0 ∧ LgRun l fs) := ⟨hlg, hr⟩
 clear b1 d1 hK hL hW hW0 hlg hr hz
 go_enter Tryz.func39, Tryz.ntmps39
 go_upto_region 1 with fail
 rw [← hw1]
 clear hw1
 go_wp2_with fail
 go_at_call 61
 refine HPa.out.mono ?_
 rintro e w2 ⟨hline, hb2⟩
 have HB2 := bt HB1 hb2
 have HD2 := hide (HD1.out.below hb2)
 clear hb2
 rcases hline with ⟨hf, vs, vt, rfl, hs, ht, _, _⟩ | ⟨hf, rfl⟩
 ·obtain ⟨a, ha⟩ := nm (atOf t)
  have HF := hide hf
  have HA := hide ha
  have HA0 : Hid (a.fault = 0) := by unfold Hid; rw [ha]; exact (words_ok hf).2.2
  rw [← ha] at hs ht ⊢
  obtain ⟨so, sc, rfl, _⟩ := hs.slice
  obtain ⟨to_, tc, rfl, _⟩ := ht.slice
  obtain ⟨sn, hsn⟩ := nm a.s.length
  obtain ⟨tn, htn⟩ := nm a.t.length
  rw [← hsn] at hs
  rw [← htn] at ht
  rw [← hsn, ← htn]
  obtain ⟨w3, hw3⟩ := nm (w2.alloc (.cells #[.int .i64 a.k, .slice so sn sc, .slice to_ tn tc, .int .i64 a.n] 71))
  obtain ⟨G, hG⟩ := nm w2.heap.size
  have b3 : Below w2.heap.size w2 w3 := by rw [hw3]; exact below_alloc1 _ _
  have HB3 := bt HB2 b3
  have A3 : Blk w3 G 71 #[.int .i64 a.k, .slice so sn sc, .slice to_ tn tc, .int .i64 a.n] := by rw [hw3, hG]; exact Blk.new _ _ _
  have D3 : Blk w3 w0.heap.size 38 #[.pointer (some ⟨b, 0, none⟩)] := HD2.out.below b3
  have HSa : Hid (Calls Tryz.prog 62 #[.pointer (some ⟨b, 0, none⟩), .agg #[.int .i64 a.k, .slice so sn sc, .slice to_ tn tc, .int .i64 a.n], .bool h] w3 fun e w' => e = .returned (errV (sayF fs a h)) ∧ (∃ l', LogAt b l' w' ∧ LgRun l' (sayS fs a h)) ∧ LKeep (fun x => x = b) w3 w') := HSy.out a _ _ w3 HA0.out HB3.out (hs.below b3) (ht.below b3)
  have y0 : w3.cell? ⟨G, 0, none⟩ = some (.int .i64 a.k) := A3.cell 0
  have y1 : w3.cell? ⟨G, 1, none⟩ = some (.slice so sn sc) := A3.cell 1
  have y2 : w3.cell? ⟨G, 2, none⟩ = some (.slice to_ tn tc) := A3.cell 2
  have y3 : w3.cell? ⟨G, 3, none⟩ = some (.int .i64 a.n) := A3.cell 3
  have c0 : w3.cell? ⟨w0.heap.size, 0, none⟩ = some (.pointer (some ⟨b, 0, none⟩)) := D3.cell 0
  clear hs ht hf ha hsn htn b3 A3 D3
  go_upto_region 2 with fail
  rw [← hw3, ← hG]
  clear hw3 hG
  go_wp2_with fail
  go_at_call 62
  refine HSa.out.mono ?_
  rintro e w4 ⟨rfl, hl4, hk4⟩
  have HL4 : Hid ((∃ l', LogAt b l' w4 ∧ LgRun l' (sayS fs a h)) ∧ LKeep (fun x => x = b) w0 w4) := ⟨hl4, (LKeep.of_below HB3.out).trans (Grows.refl _ _) hk4⟩
  clear hl4 hk4 y0 y1 y2 y3 c0
  by_cases h0 : sayF fs a h = 0
  ·rw [h0]
   have HS0 := hide h0
   clear h0
   rw [show errV 0 = .nilIface from rfl]
   go_wp2
   go_ret2
   refine ⟨_, _, rfl, Or.inl ⟨rfl, ?_⟩, ?_, HL4.out.2⟩
   ·unfold sayL
    rw [if_pos HF.out, ← HA.out, if_pos HS0.out]
    rfl
   ·unfold saidL
    rw [if_pos HF.out, ← HA.out]
    exact HL4.out.1
  ·have hrg : 1 ≤ sayF fs a h ∧ sayF fs a h ≤ 8 := by
    rcases sayF_range fs a h with e | e | e
    ·exact absurd e h0
    ·rw [e]; decide
    ·rw [e]; decide
   rw [errV_no h0]
   obtain ⟨N, hN⟩ := nm (sayF fs a h)
   rw [← hN] at hrg ⊢
   have HN : Hid (N = sayF fs a h ∧ 1 ≤ N ∧ N ≤ 8) := ⟨hN, hrg⟩
   have HS0 := hide h0
   clear hN hrg h0
   go_wp2
   go_ret2
   refine ⟨_, _, rfl, Or.inr (Or.inr ⟨N, HN.out.2, rfl, ?_⟩), ?_, HL4.out.2⟩
   ·unfold sayL
    rw [if_pos HF.out, ← HA.out, if_neg HS0.out, HN.out.1]
   ·unfold saidL
    rw [if_pos HF.out, ← HA.out]
    exact HL4.out.1
 ·have HF := hide hf
  obtain ⟨w3, hw3⟩ := nm (w2.alloc (.cells #[.int .i64 0, .slice none 0 0, .slice none 0 0, .int .i64 0] 71))
  have HB3 : Hid (Bw w0 w3) := by unfold Hid; rw [hw3]; exact HB2.out.trans ((below_alloc1 _ _).mono HB2.out.size)
  clear hf
  go_upto_region 2 with fail
  rw [← hw3]
  clear hw3
  go_wp2
  go_ret2
  refine ⟨_, _, rfl, Or.inr (Or.inl ⟨?_, _, _, rfl⟩), ⟨l, HLg.out.1.keep (HB3.out.block _ hbl), ?_⟩, LKeep.of_below HB3.out⟩
  ·unfold sayL
   rw [if_neg HF.out]
  ·unfold saidL
   rw [if_neg HF.out]
   exact HLg.out.2
end Go.Proofs.YtnoohlibgaeklaaGreatDoor
namespace Go.Proofs.YtnoohlibgaeklaaGreatDoor
open Go.RowKit Go.Extern.Stop Go.Stop Go.Extern
set_option maxRecDepth 100000
set_option maxHeartbeats 16000000
theorem rlValueOfP (t : Addr) (w : World) : (ReflectliteValue.unpack (.iface 96 (.pointer (some t)))).run Tryz.prog w
    = .ok (.agg #[.pointer (some ⟨10, 96, none⟩), .pointer (some ⟨w.heap.size, 0, none⟩), .int .u64 150]) (w.alloc (.cells #[.pointer (some t)] 96)) := by kernel_rfl
theorem rlTypeP (a : Addr) (w : World) : (ReflectliteValue.methodAny (ReflectliteValue.valueError "reflectlite.Value.Type" 0) (fun t _ _ _ => ReflectliteType.toType t) #[.agg #[.pointer (some ⟨10, 96, none⟩), .pointer (some a), .int .u64 150]]).run Tryz.prog w
    = .ok (.iface 172 (.agg #[.pointer (some ⟨10, 96, none⟩)])) w := by kernel_rfl
theorem rlMethodKind (h : Value) (w : World) : (Go.method 403 172 (.agg #[h]) "Kind").run Tryz.prog w = .ok (221, h) w := by kernel_rfl
theorem rlKindP (w : World) : ((ReflectliteType.abiMethod fun t => (fun a : Nat => Value.int IntKind.u8 (a : Int)) <$> Rtype.kind t) #[.pointer (some ⟨10, 96, none⟩)]).run Tryz.prog w = .ok (.int .u8 22) w := by kernel_rfl
theorem rlKindE (w : World) : ((ReflectliteType.abiMethod fun t => (fun a : Nat => Value.int IntKind.u8 (a : Int)) <$> Rtype.kind t) #[.pointer (some ⟨10, 91, none⟩)]).run Tryz.prog w = .ok (.int .u8 2) w := by kernel_rfl
theorem rlPartsP (a : Addr) (w : World) : (ReflectliteValue.parts (.agg #[.pointer (some ⟨10, 96, none⟩), .pointer (some a), .int .u64 150])).run Tryz.prog w = .ok (some (96, a, 150)) w := by kernel_rfl
theorem rlIsNilP (a p : Addr) (W : World) (ha : W.cell? a = some (.pointer (some p))) :
    (ReflectliteValue.method (ReflectliteValue.valueError "reflectlite.Value.IsNil" 0) ReflectliteValue.isNil #[.agg #[.pointer (some ⟨10, 96, none⟩), .pointer (some a), .int .u64 150]]).run Tryz.prog W = .ok (.bool false) W := by
 change (ReflectliteValue.parts (.agg #[.pointer (some ⟨10, 96, none⟩), .pointer (some a), .int .u64 150]) >>= _).run _ _ = _
 simp only [Sem.run_bind, rlPartsP, Result.andThen]
 simp [ReflectliteValue.isNil, loadVar, isAgg, underlying, Tryz.underlying96, ha, Result.andThen]
theorem rlMethodElem (h : Value) (w : World) : (Go.method 403 172 (.agg #[h]) "Elem").run Tryz.prog w = .ok (233, .agg #[h]) w := by kernel_rfl
theorem rlMethodImplements (h : Value) (w : World) : (Go.method 403 172 (.agg #[h]) "Implements").run Tryz.prog w = .ok (234, .agg #[h]) w := by kernel_rfl
theorem rlMethodAssignableTo (h : Value) (w : World) : (Go.method 403 172 (.agg #[h]) "AssignableTo").run Tryz.prog w = .ok (231, .agg #[h]) w := by kernel_rfl
theorem rlElemP (w : World) : (ReflectliteType.method ReflectliteType.elem #[.agg #[.pointer (some ⟨10, 96, none⟩)]]).run Tryz.prog w = .ok (.iface 172 (.agg #[.pointer (some ⟨10, 91, none⟩)])) w := by kernel_rfl
theorem rlImplementsE (w : World) : (ReflectliteType.relation "Implements" ReflectliteType.implements_ #[.agg #[.pointer (some ⟨10, 91, none⟩)], .iface 172 (.agg #[.pointer (some ⟨10, 34, none⟩)])]).run Tryz.prog w = .ok (.bool true) w := by kernel_rfl
theorem rlTypeOfE (v : Value) (w : World) : (ReflectliteType.typeOf #[.iface 91 v]).run Tryz.prog w = .ok (.iface 172 (.agg #[.pointer (some ⟨10, 91, none⟩)])) w := by kernel_rfl
theorem rlAssignableE (w : World) : (ReflectliteType.relation "AssignableTo" ReflectliteType.assignableTo #[.agg #[.pointer (some ⟨10, 91, none⟩)], .iface 172 (.agg #[.pointer (some ⟨10, 91, none⟩)])]).run Tryz.prog w = .ok (.bool true) w := by kernel_rfl
theorem rlValueOfE (n : Int) (w : World) : (ReflectliteValue.unpack (.iface 91 (.int .i64 n))).run Tryz.prog w
    = .ok (.agg #[.pointer (some ⟨10, 91, none⟩), .pointer (some ⟨w.heap.size, 0, none⟩), .int .u64 130]) (w.alloc (.cells #[.int .i64 n] 91)) := by kernel_rfl
theorem rlElemOfP (w : World) : (Rtype.elem? 96).run Tryz.prog w = .ok (some 91) w := by kernel_rfl
theorem rlMkE (p : Addr) (w : World) : (ReflectliteValue.mk 91 p ReflectliteValue.flagAddr).run Tryz.prog w = .ok (.agg #[.pointer (some ⟨10, 91, none⟩), .pointer (some p), .int .u64 386]) w := by kernel_rfl
theorem rlElemV (a p : Addr) (W : World) (ha : W.cell? a = some (.pointer (some p))) :
    (ReflectliteValue.method (ReflectliteValue.valueError "reflectlite.Value.Elem" 0) ReflectliteValue.elem #[.agg #[.pointer (some ⟨10, 96, none⟩), .pointer (some a), .int .u64 150]]).run Tryz.prog W
     = .ok (.agg #[.pointer (some ⟨10, 91, none⟩), .pointer (some p), .int .u64 386]) W := by
 change (ReflectliteValue.parts (.agg #[.pointer (some ⟨10, 96, none⟩), .pointer (some a), .int .u64 150]) >>= _).run _ _ = _
 simp only [Sem.run_bind, rlPartsP, Result.andThen]
 simp [ReflectliteValue.elem, loadVar, isAgg, underlying, Tryz.underlying96, ha, Result.andThen, rlElemOfP, rlMkE]
theorem rlPartsEa (a : Addr) (w : World) : (ReflectliteValue.parts (.agg #[.pointer (some ⟨10, 91, none⟩), .pointer (some a), .int .u64 386])).run Tryz.prog w = .ok (some (91, a, 386)) w := by kernel_rfl
theorem rlPartsE (a : Addr) (w : World) : (ReflectliteValue.parts (.agg #[.pointer (some ⟨10, 91, none⟩), .pointer (some a), .int .u64 130])).run Tryz.prog w = .ok (some (91, a, 130)) w := by kernel_rfl
theorem rlDirectE (w : World) : (Rtype.directlyAssignable 91 91).run Tryz.prog w = .ok true w := by kernel_rfl
theorem rlSetE (ta b : Addr) (n : Int) (old : Value) (W : World) (hb : W.cell? b = some (.int .i64 n)) (ht : W.cell? ta = some old) (hf : W.frozen? ta = false) :
    (ReflectliteValue.set #[.agg #[.pointer (some ⟨10, 91, none⟩), .pointer (some ta), .int .u64 386], .agg #[.pointer (some ⟨10, 91, none⟩), .pointer (some b), .int .u64 130]]).run Tryz.prog W
     = .ok (.tuple #[]) (W.setCell ta (.int .i64 n)) := by
 change (ReflectliteValue.parts (.agg #[.pointer (some ⟨10, 91, none⟩), .pointer (some ta), .int .u64 386]) >>= fun _ => ReflectliteValue.parts (.agg #[.pointer (some ⟨10, 91, none⟩), .pointer (some b), .int .u64 130]) >>= _).run _ _ = _
 simp only [Sem.run_bind, rlPartsEa, rlPartsE, Result.andThen]
 simp [ReflectliteValue.flagAddr, loadVar, isAgg, underlying, Tryz.underlying91, hb, Result.andThen, rlDirectE, storeVar, Value.cells, storeCells, Addr.add]
 rw [run_store Tryz.prog W ta _ _ (by rfl)]
 simp [ht, hf]
def Laid (w : World) : Prop := w.cell? ⟨0, 0, none⟩ = some (.iface 172 (.agg #[.pointer (some ⟨10, 34, none⟩)]))
theorem Laid.lt {w : World} (h : Laid w) : 0 < w.heap.size := by
 rcases Nat.lt_or_ge 0 w.heap.size with h' | h'
 ·exact h'
 ·simp [Laid, World.cell?, Array.getElem?_eq_none h'] at h
theorem Laid.below {w w' : World} (h : Laid w) (hb : Bw w w') : Laid w' := by
 unfold Laid
 rw [hb.cell h.lt]
 exact h
def Acc (w0 w : World) : Prop := Laid w ∧ Bw w0 w
theorem Acc.step {w0 w w' : World} (h : Acc w0 w) (hb : Bw w w') : Acc w0 w' := ⟨h.1.below hb, h.2.trans (hb.mono h.2.size)⟩
theorem as_hit (n : Int) (t : Addr) (old : Value) (w : World) (hg : w.cell? ⟨0, 0, none⟩ = some (.iface 172 (.agg #[.pointer (some ⟨10, 34, none⟩)]))) (ht0 : w.cell? t = some old) (hf0 : w.frozen? t = false) :
    Calls Tryz.prog 44 #[.iface 91 (.int .i64 n), .iface 96 (.pointer (some t))] w fun ev w' => ev = .returned (.bool true) ∧ ((((w.alloc (.cells #[.pointer (some t)] 96)).alloc (.cells #[.pointer (some ⟨10, 96, none⟩), .pointer (some ⟨w.heap.size, 0, none⟩), .int .u64 150] 125)).alloc (.cells #[.pointer (some ⟨10, 96, none⟩), .pointer (some ⟨w.heap.size, 0, none⟩), .int .u64 150] 125)).alloc (.cells #[.int .i64 n] 91)).setCell t (.int .i64 n) = w' := by
 have h6 := @run_callFunc_extern Tryz.prog 70 _ (fun args => ReflectliteValue.unpack (args.getD 0 (.tuple #[]))) Tryz.func70 (by kernel_rfl) (by kernel_rfl) (by kernel_rfl) (by kernel_rfl)
 have h7 := @run_callFunc_extern Tryz.prog 71 _ (ReflectliteValue.methodAny (ReflectliteValue.valueError "reflectlite.Value.Type" 0) (fun t _ _ _ => ReflectliteType.toType t)) Tryz.func71 (by kernel_rfl) (by kernel_rfl) (by kernel_rfl) (by kernel_rfl)
 have h8 := @run_callFunc_extern Tryz.prog 72 _ (ReflectliteValue.method (ReflectliteValue.valueError "reflectlite.Value.IsNil" 0) ReflectliteValue.isNil) Tryz.func72 (by kernel_rfl) (by kernel_rfl) (by kernel_rfl) (by kernel_rfl)
 have h27 := @run_callFunc_extern Tryz.prog 221 _ (ReflectliteType.abiMethod fun t => do pure (.int .u8 (← Rtype.kind t))) Tryz.func221 (by kernel_rfl) (by kernel_rfl) (by kernel_rfl) (by kernel_rfl)
 have h37 := @run_callFunc_extern Tryz.prog 233 _ (ReflectliteType.method ReflectliteType.elem) Tryz.func233 (by kernel_rfl) (by kernel_rfl) (by kernel_rfl) (by kernel_rfl)
 have h38 := @run_callFunc_extern Tryz.prog 234 _ (ReflectliteType.relation "Implements" ReflectliteType.implements_) Tryz.func234 (by kernel_rfl) (by kernel_rfl) (by kernel_rfl) (by kernel_rfl)
 have h10 := @run_callFunc_extern Tryz.prog 105 _ ReflectliteType.typeOf Tryz.func105 (by kernel_rfl) (by kernel_rfl) (by kernel_rfl) (by kernel_rfl)
 have h35 := @run_callFunc_extern Tryz.prog 231 _ (ReflectliteType.relation "AssignableTo" ReflectliteType.assignableTo) Tryz.func231 (by kernel_rfl) (by kernel_rfl) (by kernel_rfl) (by kernel_rfl)
 have h11 := @run_callFunc_extern Tryz.prog 106 _ (ReflectliteValue.method (ReflectliteValue.valueError "reflectlite.Value.Elem" 0) ReflectliteValue.elem) Tryz.func106 (by kernel_rfl) (by kernel_rfl) (by kernel_rfl) (by kernel_rfl)
 have h12 := @run_callFunc_extern Tryz.prog 107 _ ReflectliteValue.set Tryz.func107 (by kernel_rfl) (by kernel_rfl) (by kernel_rfl) (by kernel_rfl)
 have tO := rlTypeOfE
 have mA := rlMethodAssignableTo
 have a25 := rlAssignableE
 have v25 := rlValueOfE
 have f6 := rlValueOfP
 have f7 := rlTypeP
 have mK := rlMethodKind
 have mE := rlMethodElem
 have mI := rlMethodImplements
 have k27 := rlKindP
 have k25 := rlKindE
 have e27 := rlElemP
 have i25 := rlImplementsE
 have n8 := rlIsNilP ⟨w.heap.size, 0, none⟩ t ((w.alloc (.cells #[.pointer (some t)] 96)).alloc (.cells #[.pointer (some ⟨10, 96, none⟩), .pointer (some ⟨w.heap.size, 0, none⟩), .int .u64 150] 125)) (by simp)
 have hlt : 0 < w.heap.size := Laid.lt hg
 have hg2 : ((w.alloc (.cells #[.pointer (some t)] 96)).alloc (.cells #[.pointer (some ⟨10, 96, none⟩), .pointer (some ⟨w.heap.size, 0, none⟩), .int .u64 150] 125)).cell? ⟨0, 0, none⟩ = some (.iface 172 (.agg #[.pointer (some ⟨10, 34, none⟩)])) := by
  rw [World.cell?_alloc_lt _ _ ⟨0, 0, none⟩ (Nat.lt_of_lt_of_le hlt (by simp)), World.cell?_alloc_lt _ _ ⟨0, 0, none⟩ hlt]; exact hg
 have htl : t.block < w.heap.size := by
  rcases Nat.lt_or_ge t.block w.heap.size with h | h
  ·exact h
  ·simp [World.cell?, Array.getElem?_eq_none h] at ht0
 have el := rlElemV ⟨w.heap.size, 0, none⟩ t (((w.alloc (.cells #[.pointer (some t)] 96)).alloc (.cells #[.pointer (some ⟨10, 96, none⟩), .pointer (some ⟨w.heap.size, 0, none⟩), .int .u64 150] 125)).alloc (.cells #[.pointer (some ⟨10, 96, none⟩), .pointer (some ⟨w.heap.size, 0, none⟩), .int .u64 150] 125)) (by rw [World.cell?_alloc_lt _ _ ⟨w.heap.size, 0, none⟩ (by simp; omega)]; simp)
 have st := rlSetE t ⟨w.heap.size + 1 + 1 + 1, 0, none⟩ n old ((((w.alloc (.cells #[.pointer (some t)] 96)).alloc (.cells #[.pointer (some ⟨10, 96, none⟩), .pointer (some ⟨w.heap.size, 0, none⟩), .int .u64 150] 125)).alloc (.cells #[.pointer (some ⟨10, 96, none⟩), .pointer (some ⟨w.heap.size, 0, none⟩), .int .u64 150] 125)).alloc (.cells #[.int .i64 n] 91))
  (by rw [World.cell?_alloc_at _ _ _ _ (by simp)]; rfl)
  (by rw [World.cell?_alloc_lt _ _ t (by simp; omega), World.cell?_alloc_lt _ _ t (by simp; omega), World.cell?_alloc_lt _ _ t (by simp; omega), World.cell?_alloc_lt _ _ t htl]; exact ht0)
  (by rw [World.frozen?_alloc_old _ _ t (by simp; omega), World.frozen?_alloc_old _ _ t (by simp; omega), World.frozen?_alloc_old _ _ t (by simp; omega), World.frozen?_alloc_old _ _ t (Nat.ne_of_lt htl)]; exact hf0)
 go_enter Tryz.func44, Tryz.ntmps44
 go_wp2
 refine wp_loop_rounds 1 ?_
 rw [rounds_succ]
 go_wp2
 go_ret
 exact ⟨rfl, rfl⟩
end Go.Proofs.YtnoohlibgaeklaaGreatDoor
