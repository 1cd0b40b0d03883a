/-
  Facts and contracts that the statement leans on.
-/
import Derived.Test.YtnoohlibgaeklaaGreatDoorLibA21
import Derived.Test.YtnoohlibgaeklaaGreatDoorLibA13
import Derived.Test.YtnoohlibgaeklaaGreatDoorLibA23
import Derived.Test.YtnoohlibgaeklaaGreatDoorLibA19
import Derived.Test.YtnoohlibgaeklaaGreatDoorLibA24
import Derived.Test.YtnoohlibgaeklaaGreatDoorLibA25
import Derived.Test.YtnoohlibgaeklaaGreatDoorLibB1
import Derived.Test.YtnoohlibgaeklaaGreatDoorLibA3
import Derived.Test.YtnoohlibgaeklaaGreatDoorLibA4
import Derived.Test.YtnoohlibgaeklaaGreatDoorLibA16
import Derived.Test.YtnoohlibgaeklaaGreatDoorLibA26
namespace Go.Proofs.YtnoohlibgaeklaaGreatDoor
open Go.ChangeShapes Go.WideShapes Go.ChangeAt Go.RowKit
set_option maxRecDepth 100000
attribute [local go_sem] Oper.semAt_some
theorem int_reads {W : World} {C : Nat} {x : Int} (hC : Blk W C 3 #[.int .i64 x]) : Reads W (.slice (some ⟨C, 0, none⟩) 1 1) [x] :=
 Or.inr ⟨C, 0, 1, rfl, hC.lt, by simp, ⟨by simp, by simp⟩, fun j hj => by
  obtain rfl : j = 0 := by simp at hj; exact hj
  exact hC.cell 0⟩
theorem one_reads {W : World} {G C : Nat} {a : At} {vs vt : Value} (hA : Blk W G 71 #[.int .i64 a.k, vs, vt, .int .i64 a.n]) (hS : Reads W vs a.s) (hT : Reads W vt a.t) (hC : Blk W C 3 #[.int .i64 0]) :
    ReadsA W (.slice (some ⟨G, 0, none⟩) 1 1) [a] ∧ Reads W (.slice (some ⟨C, 0, none⟩) 1 1) [0] := by
 refine ⟨Or.inr ⟨G, 0, 1, rfl, hA.lt, by simp, ⟨by simp, by simp⟩, fun i b hb => ?_⟩, int_reads hC⟩
 cases i with
 | zero =>
  obtain rfl : a = b := by simpa using hb
  exact ⟨_, _, hA.cell 0, hA.cell 1, hA.cell 2, hA.cell 3, hS, hT⟩
 | succ i => simp at hb
theorem forms_one {W : World} {B : Nat} {va vc : Value} {f : Fm} (h : Blk W B 78 #[va, vc]) (hA : ReadsA W va f.ats) (hC : Reads W vc f.c) : ReadsF W (.slice (some ⟨B, 0, none⟩) 1 1) [f] :=
 Or.inr ⟨B, 0, 1, rfl, h.lt, by simp, ⟨by simp, by simp⟩, fun i g hg => by
  cases i with
  | zero =>
   obtain rfl : f = g := by simpa using hg
   exact ⟨_, _, h.cell 0, h.cell 1, hA, hC⟩
  | succ i => simp at hg⟩
theorem results_mix {fn : Func} {p q : Tmp} {ty : TypeId} (h : fn.results = #[.cell p ty, .tmp q]) (tmps : Array Value) (P : Program) (w : World) :
    (results fn tmps).run P w = ((asAddr (tmps.getD p undef)).run P w).andThen fun a w1 => ((loadVar ty a).run P w1).andThen fun v w2 => .ok (.tuple #[v, tmps.getD q undef]) w2 := by
 simp only [results, h]
 simp [Sem.run_bind, Result.andThen]
def alwaysA : At := ⟨1, [3], [4], 0⟩
def alwaysFm : Fm := ⟨[alwaysA], [0]⟩
theorem always_right : alwaysA.fault = 0 := by decide
theorem one_is {a : At} (h : a.fault = 0) {D : Wd} (hok : D.ok = true) : D.formIs [a] [0] = D.holds a.k a.s a.t a.n := by
 have hb : ∀ b : Bool, valF [b] [0] = b := by intro b; cases b <;> rfl
 have hf : formFault [a] [0] = 0 := alone_right h true
 unfold Wd.formIs
 rw [if_pos (wdForm_zero.2 ⟨hf, hok⟩)]
 exact hb _
theorem less_of_none (u a : Int) (h : okB u a = true) : lessN 0 a = 0 := uptoSets (P := fun _ a _ => lessN 0 a = 0) (by decide +kernel) u a a h h
theorem always_holds {D : Wd} (hD : D.ok = true) : D.formIs alwaysFm.ats alwaysFm.c = true := by
 show D.formIs [alwaysA] [0] = true
 rw [one_is always_right hD]
 show saysB 1 0 (D.val [3]) (D.val [4]) = true
 unfold saysB
 rw [if_pos rfl, show D.val [3] = 0 from rfl, less_of_none _ _ (ok_val hD [4])]
 rfl
theorem always_says : SaysAll [] alwaysFm := says_none (alone_right always_right true) fun _ hD => always_holds hD
theorem always_ok : SaidOk [alwaysFm] := ⟨fun f hf => by
 obtain rfl : f = alwaysFm := by simpa using hf
 exact ⟨alwaysA, true, rfl, always_right⟩, by decide, by
 have h0 := open_nil 4
 unfold openN at h0 ⊢
 rw [List.any_eq_true] at h0 ⊢
 obtain ⟨N, hN, _⟩ := h0
 refine ⟨N, hN, ?_⟩
 unfold Wd.so
 rw [List.all_eq_true]
 intro f hf
 obtain rfl : f = alwaysFm := by simpa using hf
 exact always_holds (made_ok (everyC_right (by decide) hN))⟩
def saidOr (fs : List Fm) : List Fm := if fs = [] then [alwaysFm] else fs
theorem saidOr_ok {fs : List Fm} (h : SaidOk fs) : SaidOk (saidOr fs) ∧ saidOr fs ≠ [] := by
 unfold saidOr
 split
 ·exact ⟨always_ok, by simp⟩
 ·rename_i h0; exact ⟨h, h0⟩
theorem says_or {fs : List Fm} {g : Fm} (h : SaysAll (saidOr fs) g) : SaysAll fs g := by
 by_cases h0 : fs = []
 ·subst h0
  refine ⟨h.right, fun D hD => (h.is D hD).trans ?_⟩
  show [alwaysFm].all (fun f => D.formIs f.ats f.c) = true
  simp [always_holds hD]
 ·have e : saidOr fs = fs := if_neg h0
  rw [e] at h
  exact h
theorem ask_or (fs : List Fm) (ats : List At) (c : List Int) : askP (saidOr fs) ats c 4 = askP fs ats c 4 := by
 by_cases h0 : fs = []
 ·subst h0
  exact ask_none always_says.is ats c
 ·rw [show saidOr fs = fs from if_neg h0]
theorem alone_on (a : At) (so to_ : Option Addr) (sn sc tn tc : Nat) (w : World) :
    Calls Tryz.prog 65 #[.agg #[.int .i64 a.k, .slice so sn sc, .slice to_ tn tc, .int .i64 a.n]] w fun e w' => ∃ G C, e = .returned (.agg #[.slice (some ⟨G, 0, none⟩) 1 1, .slice (some ⟨C, 0, none⟩) 1 1]) ∧ Blk w' G 71 #[.int .i64 a.k, .slice so sn sc, .slice to_ tn tc, .int .i64 a.n] ∧ Blk w' C 3 #[.int .i64 0] ∧ Below w.heap.size w w' := by
 have hN := four_newS w (.cells #[.int .i64 a.k, .slice so sn sc, .slice to_ tn tc, .int .i64 a.n] 71) (.cells #[.slice (some ⟨w.heap.size + 1 + 1, 0, none⟩) 1 1, .slice (some ⟨w.heap.size + 1 + 1 + 1, 0, none⟩) 1 1] 78) (.cells #[.int .i64 a.k, .slice so sn sc, .slice to_ tn tc, .int .i64 a.n] 71) (.cells #[.int .i64 0] 3)
 go_enter Tryz.func65, Tryz.ntmps65
 go_wp2
 obtain ⟨_, h0, h1, h2, h3, hB⟩ := hN
 have k1 : Blk _ (w.heap.size + 1) 78 _ := h1
 have l1 := loadFmL k1
 refine bodyPost_ret (v := .agg #[.slice (some ⟨w.heap.size + 1 + 1, 0, none⟩) 1 1, .slice (some ⟨w.heap.size + 1 + 1 + 1, 0, none⟩) 1 1]) ?_ rfl ⟨_, _, rfl, h2, h3, hB⟩
 rw [result_one rfl]
 simp [asAddr, Result.andThen, l1]
set_option maxHeartbeats 4000000 in
theorem said_any {b : Nat} {l : Lg} {fs : List Fm} {w : World} (w0 : World) (hK : KindsLaid w) (hL : LibLaid w) (hW : Below w.heap.size w w0) (hlg : LogAt b l w0) (hr : LgRun l fs) :
    Calls Tryz.prog 64 #[.agg #[.pointer (some ⟨b, 0, none⟩)]] w0 fun e w' => ∃ vo vc, e = .returned (.slice vo (saidOr fs).length vc) ∧ ReadsF w' (.slice vo (saidOr fs).length vc) (saidOr fs) ∧ Below w0.heap.size w0 w' := by
 have hW0 : w.heap.size ≤ w0.heap.size := hW.size
 obtain ⟨w1, hw1⟩ := nm (w0.alloc (.cells #[.pointer (some ⟨b, 0, none⟩)] 38))
 have b1 : Below w0.heap.size w0 w1 := by rw [hw1]; exact below_alloc1 _ _
 have HB1 := hide b1
 have d1 : Blk w1 w0.heap.size 38 #[.pointer (some ⟨b, 0, none⟩)] := by rw [hw1]; exact Blk.new _ _ _
 have c0 : w1.cell? ⟨w0.heap.size, 0, none⟩ = some (.pointer (some ⟨b, 0, none⟩)) := d1.cell 0
 have HAl : Hid (Calls Tryz.prog 37 #[.pointer (some ⟨b, 0, none⟩)] w1 fun e w' => ∃ v, e = .returned v ∧ ReadsF w' v fs ∧ Below w1.heap.size w1 w') := deskAll_any hK hL (hW.trans (b1.mono hW0)) (hlg.keep (b1.block _ hlg.lt)) hr
 clear hK hL hW hW0 hlg hr b1 d1
 go_enter Tryz.func64, Tryz.ntmps64
 go_upto_region 1 with fail
 rw [← hw1]
 clear hw1
 go_wp2_with fail
 go_at_call 37
 refine HAl.out.mono ?_
 rintro e w2 ⟨v, rfl, hf2, hb2⟩
 have HF2 := hide hf2
 have HB2 := hide (HB1.out.trans (hb2.mono HB1.out.size))
 obtain ⟨vo, vc, rfl, _⟩ := hf2.slice
 obtain ⟨nf, hnf⟩ := nm fs.length
 have HNf := hide hnf
 rw [← hnf] at HF2 ⊢
 clear hnf
 by_cases h0 : nf = 0
 ·subst h0
  obtain rfl : fs = [] := List.length_eq_zero_iff.1 HNf.out.symm
  have hg : ¬ (0 : Int) < ((0 : Nat) : Int) := by decide
  obtain ⟨w3, hw3⟩ := nm (((w2.alloc (.cells #[.int .i64 3] 3)).alloc (.cells #[.int .i64 4] 3)).alloc (.cells #[.int .i64 1, .slice (some ⟨w2.heap.size, 0, none⟩) 1 1, .slice (some ⟨w2.heap.size + 1, 0, none⟩) 1 1, .int .i64 0] 71))
  obtain ⟨_, t0, t1, t2, t3⟩ := three_new w2 (.cells #[.int .i64 3] 3) (.cells #[.int .i64 4] 3) (.cells #[.int .i64 1, .slice (some ⟨w2.heap.size, 0, none⟩) 1 1, .slice (some ⟨w2.heap.size + 1, 0, none⟩) 1 1, .int .i64 0] 71)
  rw [← hw3] at t0 t1 t2 t3
  obtain ⟨G, hG⟩ := nm w2.heap.size
  rw [← hG] at t0 t1 t2
  have HB3 := hide (HB2.out.trans (t3.mono HB2.out.size))
  have HT : Hid (Blk w3 G 3 #[.int .i64 3] ∧ Blk w3 (G + 1) 3 #[.int .i64 4]) := ⟨t0, t1⟩
  have A3 : Blk w3 (G + 1 + 1) 71 #[.int .i64 1, .slice (some ⟨G, 0, none⟩) 1 1, .slice (some ⟨G + 1, 0, none⟩) 1 1, .int .i64 0] := by rw [hG] at t2 ⊢; exact t2
  have y0 : w3.cell? ⟨G + 1 + 1, 0, none⟩ = some (.int .i64 1) := A3.cell 0
  have y1 : w3.cell? ⟨G + 1 + 1, 1, none⟩ = some (.slice (some ⟨G, 0, none⟩) 1 1) := A3.cell 1
  have y2 : w3.cell? ⟨G + 1 + 1, 2, none⟩ = some (.slice (some ⟨G + 1, 0, none⟩) 1 1) := A3.cell 2
  have y3 : w3.cell? ⟨G + 1 + 1, 3, none⟩ = some (.int .i64 0) := A3.cell 3
  have HAn : Hid (Calls Tryz.prog 65 #[.agg #[.int .i64 1, .slice (some ⟨G, 0, none⟩) 1 1, .slice (some ⟨G + 1, 0, none⟩) 1 1, .int .i64 0]] w3 fun e w' => ∃ G2 C, e = .returned (.agg #[.slice (some ⟨G2, 0, none⟩) 1 1, .slice (some ⟨C, 0, none⟩) 1 1]) ∧ Blk w' G2 71 #[.int .i64 1, .slice (some ⟨G, 0, none⟩) 1 1, .slice (some ⟨G + 1, 0, none⟩) 1 1, .int .i64 0] ∧ Blk w' C 3 #[.int .i64 0] ∧ Below w3.heap.size w3 w') := alone_on alwaysA _ _ _ _ _ _ w3
  clear t0 t1 t2 t3 A3 hf2 hb2 c0
  go_upto_region 5 with fail
  rw [← hw3, ← hG]
  clear hw3 hG
  go_wp2_with fail
  go_at_call 65
  refine HAn.out.mono ?_
  rintro e w4 ⟨G2, C, rfl, hA4, hC4, hb4⟩
  have HB4 := hide (HB3.out.trans (hb4.mono HB3.out.size))
  have HR : Hid (ReadsA w4 (.slice (some ⟨G2, 0, none⟩) 1 1) alwaysFm.ats ∧ Reads w4 (.slice (some ⟨C, 0, none⟩) 1 1) alwaysFm.c) := one_reads (a := alwaysA) hA4 (int_reads (HT.out.1.below hb4)) (int_reads (HT.out.2.below hb4)) hC4
  clear hA4 hC4 hb4 y0 y1 y2 y3
  go_wp2
  go_ret
  have hb5 : Below w4.heap.size w4 (w4.alloc (.cells #[.slice (some ⟨G2, 0, none⟩) 1 1, .slice (some ⟨C, 0, none⟩) 1 1] 78)) := below_alloc1 _ _
  have k5 : Blk (w4.alloc (.cells #[.slice (some ⟨G2, 0, none⟩) 1 1, .slice (some ⟨C, 0, none⟩) 1 1] 78)) w4.heap.size 78 #[.slice (some ⟨G2, 0, none⟩) 1 1, .slice (some ⟨C, 0, none⟩) 1 1] := Blk.new _ _ _
  exact ⟨_, _, rfl, forms_one k5 (HR.out.1.below hb5) (HR.out.2.below hb5), HB4.out.trans (hb5.mono HB4.out.size)⟩
 ·have e : saidOr fs = fs := if_neg fun e => h0 (by rw [HNf.out, e]; rfl)
  have HE := hide e
  have hg : (0 : Int) < (nf : Int) := by omega
  clear hf2 hb2 c0 h0 e
  go_wp2
  go_ret
  rw [HE.out, ← HNf.out]
  exact ⟨_, _, rfl, HF2.out, HB2.out⟩
theorem both_acc {fs : List Fm} (h : SaidOk fs) {k : Nat} (hk : k + 1 < fs.length) {f : Fm} (hf : fs[k + 1]? = some f) (va vc vb vd : Value) (W : World) (hA : ReadsA W va (accF fs k).ats) (hC : Reads W vc (accF fs k).c) (hA2 : ReadsA W vb f.ats) (hC2 : Reads W vd f.c) (hK : KindsLaid W) :
    Calls Tryz.prog 77 #[.agg #[va, vc], .agg #[vb, vd]] W fun e w' => ∃ q1 n1 e1 q2 n2 e2, e = .returned (.tuple #[.agg #[.slice q1 n1 e1, .slice q2 n2 e2], .nilIface]) ∧ ReadsA w' (.slice q1 n1 e1) (accF fs (k + 1)).ats ∧ Reads w' (.slice q2 n2 e2) (accF fs (k + 1)).c ∧ Below W.heap.size W w' := by
 obtain ⟨a1, a2, a3, _⟩ := acc_facts h.good h.n6 k (by omega)
 obtain ⟨f1, f2, f3⟩ : f.fault = 0 ∧ f.ats.length = 1 ∧ f.c.length ≤ 2 := alone_fm (h.good f (List.mem_of_getElem? hf))
 have h6 := h.n6
 have hacc : accF fs (k + 1) = bothFm (accF fs k) f := by
  show bothFm (accF fs k) (fs.getD (k + 1) fmZ) = bothFm (accF fs k) f
  rw [List.getD_eq_getElem?_getD, hf]; rfl
 have a1' : formFault (accF fs k).ats (accF fs k).c = 0 := a1
 have f1' : formFault f.ats f.c = 0 := f1
 refine (both_good va vc vb vd (accF fs k).ats f.ats (accF fs k).c f.c W hA hC hA2 hC2 hK a1' f1' (by omega)).mono ?_
 rintro e w' ⟨va', vc', rfl, r1, r2, h3⟩
 obtain ⟨q1, e1, rfl, _⟩ := r1.slice
 obtain ⟨q2, e2, rfl, _⟩ := r2.slice
 rw [hacc]
 exact ⟨_, _, _, _, _, _, rfl, r1, r2, h3⟩
set_option maxHeartbeats 4000000 in
theorem together_any {b : Nat} {l : Lg} {ms : List Fm} {w : World} (w0 : World) (hK : KindsLaid w) (hL : LibLaid w) (hW : Below w.heap.size w w0) (hlg : LogAt b l w0) (hr : LgRun l ms) :
    Calls Tryz.prog 55 #[.agg #[.pointer (some ⟨b, 0, none⟩)]] w0 fun e w' => ∃ o1 l1 c1 o2 l2 c2 g, e = .returned (.tuple #[.agg #[.slice o1 l1 c1, .slice o2 l2 c2], .nilIface]) ∧ ReadsA w' (.slice o1 l1 c1) g.ats ∧ Reads w' (.slice o2 l2 c2) g.c ∧ SaysAll ms g ∧ Below w0.heap.size w0 w' := by
 obtain ⟨fs, hfs⟩ := nm (saidOr ms)
 have HFs := hide hfs
 have HOk : Hid (SaidOk fs ∧ fs ≠ []) := by unfold Hid; rw [hfs]; exact saidOr_ok hr.ok
 obtain ⟨w1, hw1⟩ := nm (w0.alloc (.cells #[.pointer (some ⟨b, 0, none⟩)] 38))
 have s1 : w1.heap.size = w0.heap.size + 1 := by rw [hw1, World.size_alloc]
 have b1 : Below w0.heap.size w0 w1 := by rw [hw1]; exact below_alloc1 _ _
 have d1 : Blk w1 w0.heap.size 38 #[.pointer (some ⟨b, 0, none⟩)] := by rw [hw1]; exact Blk.new _ _ _
 obtain ⟨w2, hw2⟩ := nm (w1.alloc (.cells #[.slice none 0 0, .slice none 0 0] 78))
 have s2 : w2.heap.size = w0.heap.size + 1 + 1 := by rw [hw2, World.size_alloc, s1]
 have b2 : Below w0.heap.size w0 w2 := by rw [hw2]; exact b1.alloc b1.size _
 have d2 : Blk w2 w0.heap.size 38 #[.pointer (some ⟨b, 0, none⟩)] := by rw [hw2]; exact d1.old _
 have HB2 := hide b2
 have HF2 : Hid (Blk w2 (w0.heap.size + 1) 78 #[.slice none 0 0, .slice none 0 0]) := by unfold Hid; rw [hw2, ← s1]; exact Blk.new _ _ _
 have HAl : Hid (Calls Tryz.prog 64 #[.agg #[.pointer (some ⟨b, 0, none⟩)]] w2 fun e w' => ∃ vo vc, e = .returned (.slice vo fs.length vc) ∧ ReadsF w' (.slice vo fs.length vc) fs ∧ Below w2.heap.size w2 w') := by
  unfold Hid
  rw [hfs]
  exact said_any w2 hK hL (hW.trans (b2.mono hW.size)) (hlg.keep (b2.block _ hlg.lt)) hr
 have HKd := hide (hK.below hW)
 have HS2 := hide s2
 have c0 : w2.cell? ⟨w0.heap.size, 0, none⟩ = some (.pointer (some ⟨b, 0, none⟩)) := d2.cell 0
 clear hr hK hL hW hlg s1 b1 d1 s2 b2 d2 hfs
 go_enter Tryz.func55, Tryz.ntmps55
 go_upto_region 1 with fail
 rw [← hw1, ← hw2]
 clear hw1 hw2
 go_wp2_with fail
 go_at_call 64
 refine HAl.out.mono ?_
 rintro e w3 ⟨vo, vc, rfl, hf3, hb3⟩
 have HF3 := hide hf3
 have HB3 := hide (HB2.out.trans (hb3.mono HB2.out.size))
 have HK3 := hide (HF2.out.below hb3)
 have HS3 : Hid (w0.heap.size + 1 + 1 ≤ w3.heap.size) := by unfold Hid; have := hb3.size; have := HS2.out; omega
 obtain ⟨nf, hnf⟩ := nm fs.length
 have HNf := hide hnf
 rw [← hnf] at HF3 ⊢
 clear hf3 hb3 hnf c0
 have h0 : ¬ nf = 0 := by have := List.length_pos_iff.2 HOk.out.2; have := HNf.out; omega
 obtain ⟨bL, oL, cL, hv⟩ := HF3.out.place (by rw [← HNf.out]; omega)
 obtain ⟨hlo, hx1, hx2⟩ := Value.slice.inj hv
 clear hx1 hx2 hv
 subst hlo
 -- the k-th, as it lies there
 have HAt : Hid (∀ (k : Nat), k < nf → ∃ f o1 l1 c1 o2 l2 c2, fs[k]? = some f ∧ ∀ W, Below w3.heap.size w3 W → W.cell? ⟨bL, oL + k * 2, none⟩ = some (.slice o1 l1 c1) ∧ W.cell? ⟨bL, oL + k * 2 + 1, none⟩ = some (.slice o2 l2 c2) ∧ ReadsA W (.slice o1 l1 c1) f.ats ∧ Reads W (.slice o2 l2 c2) f.c) := fun k hk => by
  have hf := List.getElem?_eq_getElem (show k < fs.length by rw [← HNf.out]; exact hk)
  obtain ⟨hbL, va, vc', c0, c1, hA, hC⟩ := HF3.out.at hf
  obtain ⟨ao, acap, rfl, _⟩ := hA.slice
  obtain ⟨co, ccap, rfl, _⟩ := hC.slice
  exact ⟨_, _, _, _, _, _, _, hf, fun W hW => ⟨(hW.cell hbL).trans c0, (hW.cell hbL).trans c1, hA.below hW, hC.below hW⟩⟩
 have HCap : Hid (nf ≤ vc) := by
  rcases HF3.out with ⟨_, _, h, h'⟩ | ⟨b', off, cap, h1, h2, h3, h4, h5⟩
  ·have := HNf.out; rw [h'] at this; exact absurd this h0
  ·obtain ⟨_, _, e⟩ := Value.slice.inj h1
   have := HNf.out
   unfold Hid
   omega
 obtain ⟨f0, o1, l1, c1, o2, l2, c2, hf0, hcell⟩ := HAt.out 0 (by omega)
 obtain ⟨x0, x1, r0, r1⟩ := hcell w3 (Below.refl _ _)
 rw [Nat.zero_mul, Nat.add_zero] at x0 x1
 obtain ⟨w4, hw4⟩ := nm (w3.alloc (.cells #[.slice o1 l1 c1, .slice o2 l2 c2] 78))
 obtain ⟨G, hG⟩ := nm w3.heap.size
 have HB4 : Hid (Below w3.heap.size w3 w4) := by unfold Hid; rw [hw4]; exact below_alloc1 _ _
 have HX4 : Hid (BoxF w4 G (accF fs 0)) := by
  have hacc : accF fs 0 = f0 := by
   show fs.getD 0 fmZ = f0
   rw [List.getD_eq_getElem?_getD, hf0]; rfl
  unfold Hid
  rw [hacc, hw4, hG]
  exact ⟨_, _, _, _, _, _, Blk.new _ _ _, r0.below (below_alloc1 _ _), r1.below (below_alloc1 _ _)⟩
 have HG : Hid (w3.heap.size ≤ G) := by unfold Hid; omega
 clear hcell hf0 r0 r1
 have hn1 : (1 : Int) ≤ (nf : Int) := by omega
 have hcp : (nf : Int) ≤ (vc : Int) := by have := HCap.out; omega
 go_upto_region 3 with fail
 rw [← hw4, ← hG]
 clear hw4 hG x0 x1
 go_wp2
 all_goals
  obtain ⟨N1, hN1⟩ := nm (nf - 1)
  have HN1 : Hid (N1 + 1 = nf) := by unfold Hid; omega
  rw [← hN1]
  clear hN1
  have hn6 : nf ≤ 6 := by rw [HNf.out]; exact HOk.out.1.n6
  have hN6 : N1 ≤ 5 := by have := HN1.out; omega
  go_loopw [18] (fun i wr => ∃ k : Nat, k ≤ N1 ∧ i = .int .i64 k ∧ Below w3.heap.size w3 wr ∧ BoxF wr G (accF fs k)) (fun i _ => N1 - (intOf i).toNat)
  case atStart => exact ⟨0, Nat.zero_le _, rfl, HB4.out, HX4.out⟩
  case round =>
   obtain ⟨k, hk, rfl, hbr, hbox⟩ := hrel
   have HBr := hide hbr
   clear hbr
   by_cases hlt : k < N1
   ·first
     | (exfalso; have h1 := HCap.out; have h2 := HN1.out; omega)
     | (have hltz : (k : Int) < (N1 : Int) := by omega
        obtain ⟨f, o1, l1, c1, o2, l2, c2, hf, hcell⟩ := HAt.out (k + 1) (by have := HN1.out; omega)
        have HFk := hide hf
        obtain ⟨x0, x1, r0, r1⟩ := hcell wr HBr.out
        rw [show oL + (k + 1) * 2 = oL + 2 + k * 2 by omega] at x0 x1
        obtain ⟨p1, m1, d1, p2, m2, d2, hB, hA, hC⟩ := hbox
        obtain ⟨w5, hw5⟩ := nm (wr.alloc (.cells #[.slice o1 l1 c1, .slice o2 l2 c2] 78))
        obtain ⟨G5, hG5⟩ := nm wr.heap.size
        have b5 : Below wr.heap.size wr w5 := by rw [hw5]; exact below_alloc1 _ _
        have HB5 := hide (HBr.out.trans (b5.mono HBr.out.size))
        have K5 : Blk w5 G5 78 #[.slice o1 l1 c1, .slice o2 l2 c2] := by rw [hw5, hG5]; exact Blk.new _ _ _
        have B5 : Blk w5 G 78 #[.slice p1 m1 d1, .slice p2 m2 d2] := hB.below b5
        have HX5 : Hid (Blk w5 G 78 #[.slice p1 m1 d1, .slice p2 m2 d2]) := B5
        have HBo : Hid (Calls Tryz.prog 77 #[.agg #[.slice p1 m1 d1, .slice p2 m2 d2], .agg #[.slice o1 l1 c1, .slice o2 l2 c2]] w5 fun e w' => ∃ q1 n1 e1 q2 n2 e2, e = .returned (.tuple #[.agg #[.slice q1 n1 e1, .slice q2 n2 e2], .nilIface]) ∧ ReadsA w' (.slice q1 n1 e1) (accF fs (k + 1)).ats ∧ Reads w' (.slice q2 n2 e2) (accF fs (k + 1)).c ∧ Below w5.heap.size w5 w') :=
         both_acc HOk.out.1 (by have := HN1.out; have := HNf.out; omega) hf _ _ _ _ w5 (hA.below b5) (hC.below b5) (r0.below b5) (r1.below b5) (HKd.out.below (HB3.out.trans (HB5.out.mono HB3.out.size)))
        have y0 : w5.cell? ⟨G, 0, none⟩ = some (.slice p1 m1 d1) := B5.cell 0
        have y1 : w5.cell? ⟨G, 1, none⟩ = some (.slice p2 m2 d2) := B5.cell 1
        have y2 : w5.cell? ⟨G5, 0, none⟩ = some (.slice o1 l1 c1) := K5.cell 0
        have y3 : w5.cell? ⟨G5, 1, none⟩ = some (.slice o2 l2 c2) := K5.cell 1
        clear hf hcell r0 r1 hB hA hC b5 K5 B5
        go_upto_region 6 with fail
        rw [← hw5, ← hG5]
        clear hw5 hG5 x0 x1
        go_wp2_with fail
        go_at_call 77
        refine HBo.out.mono ?_
        rintro e w6 ⟨q1, n1, e1, q2, n2, e2, rfl, hA6, hC6, hb6⟩
        have HB6 := hide (HB5.out.trans (hb6.mono HB5.out.size))
        have HX6 := hide (HX5.out.below hb6)
        have HR6 : Hid (ReadsA w6 (.slice q1 n1 e1) (accF fs (k + 1)).ats ∧ Reads w6 (.slice q2 n2 e2) (accF fs (k + 1)).c) := ⟨hA6, hC6⟩
        clear hA6 hC6 hb6 y0 y1 y2 y3
        obtain ⟨w7, hw7⟩ := nm (w6.alloc (.cells #[.slice q1 n1 e1, .slice q2 n2 e2] 78))
        obtain ⟨G7, hG7⟩ := nm w6.heap.size
        have b7 : Below w6.heap.size w6 w7 := by rw [hw7]; exact below_alloc1 _ _
        have HB7 := hide (HB6.out.trans (b7.mono HB6.out.size))
        have K7 : Blk w7 G7 78 #[.slice q1 n1 e1, .slice q2 n2 e2] := by rw [hw7, hG7]; exact Blk.new _ _ _
        have HX7 := hide (HX6.out.below b7)
        have HR7 : Hid (ReadsA w7 (.slice q1 n1 e1) (accF fs (k + 1)).ats ∧ Reads w7 (.slice q2 n2 e2) (accF fs (k + 1)).c) := ⟨HR6.out.1.below b7, HR6.out.2.below b7⟩
        have y2 : w7.cell? ⟨G7, 0, none⟩ = some (.slice q1 n1 e1) := K7.cell 0
        have y3 : w7.cell? ⟨G7, 1, none⟩ = some (.slice q2 n2 e2) := K7.cell 1
        have y0 : w7.cell? ⟨G, 0, none⟩ = some (.slice p1 m1 d1) := HX7.out.cell 0
        have y1 : w7.cell? ⟨G, 1, none⟩ = some (.slice p2 m2 d2) := HX7.out.cell 1
        have z0 : w7.frozen? ⟨G, 0, none⟩ = false := HX7.out.frozen 0
        have z1 : w7.frozen? ⟨G, 1, none⟩ = false := HX7.out.frozen 1
        clear b7 K7
        go_upto_region 7 with fail
        rw [← hw7, ← hG7]
        clear hw7 hG7
        go_wp2
        have HBx : Hid (BoxF ((w7.setCell ⟨G, 0, none⟩ (.slice q1 n1 e1)).setCell ⟨G, 1, none⟩ (.slice q2 n2 e2)) G (accF fs (k + 1))) := BoxF.put HX7.out HR7.out.1 HR7.out.2
        have HBb : Hid (Below w3.heap.size w3 ((w7.setCell ⟨G, 0, none⟩ (.slice q1 n1 e1)).setCell ⟨G, 1, none⟩ (.slice q2 n2 e2))) := (HB7.out.setCell HG.out _).setCell HG.out _
        go_roundw
        case rel => first | exact ⟨k + 1, by omega, by go_num, HBb.out, HBx.out⟩ | ((repeat apply Exists.intro); refine ⟨?_, rfl⟩; exact ⟨k + 1, by omega, by go_num, HBb.out, HBx.out⟩)
        case measure => first | (simp [intOf]; done) | (simp [intOf]; omega))
   ·obtain rfl : k = N1 := by omega
    have hltz : ¬ (k : Int) < (k : Int) := by omega
    obtain ⟨p1, m1, d1, p2, m2, d2, hB, hA, hC⟩ := hbox
    have y0 : wr.cell? ⟨G, 0, none⟩ = some (.slice p1 m1 d1) := hB.cell 0
    have y1 : wr.cell? ⟨G, 1, none⟩ = some (.slice p2 m2 d2) := hB.cell 1
    have HKr := hide (HK3.out.below HBr.out)
    have HRr : Hid (ReadsA wr (.slice p1 m1 d1) (accF fs k).ats ∧ Reads wr (.slice p2 m2 d2) (accF fs k).c) := ⟨hA, hC⟩
    have t0 : wr.cell? ⟨w0.heap.size + 1, 0, none⟩ = some (.slice none 0 0) := HKr.out.cell 0
    have t1 : wr.cell? ⟨w0.heap.size + 1, 1, none⟩ = some (.slice none 0 0) := HKr.out.cell 1
    have z0 : wr.frozen? ⟨w0.heap.size + 1, 0, none⟩ = false := HKr.out.frozen 0
    have z1 : wr.frozen? ⟨w0.heap.size + 1, 1, none⟩ = false := HKr.out.frozen 1
    have HBw := hide (HB3.out.trans (HBr.out.mono HB3.out.size))
    clear hB hA hC
    go_wp2
    have hbx := BoxF.put HKr.out HRr.out.1 HRr.out.2
    have hbl : Below w0.heap.size w0 ((wr.setCell ⟨w0.heap.size + 1, 0, none⟩ (.slice p1 m1 d1)).setCell ⟨w0.heap.size + 1, 1, none⟩ (.slice p2 m2 d2)) := (HBw.out.setCell (by simp) _).setCell (by simp) _
    obtain ⟨v1, i1, j1, v2, i2, j2, hB, hA, hC⟩ := hbx
    have l1 := loadFmL hB
    refine bodyPost_ret (v := .tuple #[.agg #[.slice v1 i1 j1, .slice v2 i2 j2], .nilIface]) ?_ rfl ⟨_, _, _, _, _, _, rfl, accF fs k, hA, hC, says_or (by rw [← HFs.out]; exact says_acc HOk.out.1 (by rw [HN1.out]; exact HNf.out)), hbl⟩
    rw [results_mix rfl]
    simp [asAddr, Result.andThen, l1]
end Go.Proofs.YtnoohlibgaeklaaGreatDoor
namespace Go.Proofs.YtnoohlibgaeklaaGreatDoor
open Go.ChangeShapes Go.WideShapes Go.ChangeAt Go.RowKit
set_option maxRecDepth 100000
attribute [local go_sem] Oper.semAt_some
theorem itoa_digits {u : Nat} (hu : u < 1000000000) (w : World) (hL : LibLaid w) :
    Calls Tryz.prog 36 #[.int .i64 (u : Int)] w (Bk w (.string (strOf (decT u)))) := by
 refine (Any.strconv_Itoa Tryz.laysM171 (u : Int) (by omega) (by omega) w hL.1).mono ?_
 rintro e w' ⟨he, k, os, rfl⟩
 refine ⟨?_, Lib.below_grow _ _ (Nat.le_refl _) _ _⟩
 rw [he, itoa_dec hu]
 rfl
set_option maxHeartbeats 4000000 in
theorem worlds_any {b : Nat} {l : Lg} {fs : List Fm} {w : World} (w0 : World) (hK : KindsLaid w) (hL : LibLaid w) (hW : Below w.heap.size w w0) (hlg : LogAt b l w0) (hr : LgRun l fs) :
    Calls Tryz.prog 35 #[.agg #[.pointer (some ⟨b, 0, none⟩)]] w0 (Bk w0 (.tuple #[.string (strOf (decT (worldsSo fs).toNat)), .nilIface])) := by
 have hW0 : w.heap.size ≤ w0.heap.size := hW.size
 have hbl := hlg.lt
 obtain ⟨w1, hw1⟩ := nm (w0.alloc (.cells #[.pointer (some ⟨b, 0, none⟩)] 38))
 have b1 : Below w0.heap.size w0 w1 := by rw [hw1]; exact below_alloc1 _ _
 have HB1 := hide b1
 have d1 : Blk w1 w0.heap.size 38 #[.pointer (some ⟨b, 0, none⟩)] := by rw [hw1]; exact Blk.new _ _ _
 have c0 : w1.cell? ⟨w0.heap.size, 0, none⟩ = some (.pointer (some ⟨b, 0, none⟩)) := d1.cell 0
 have HTo : Hid (Calls Tryz.prog 55 #[.agg #[.pointer (some ⟨b, 0, none⟩)]] w1 fun e w' => ∃ o1 l1 c1 o2 l2 c2 g, e = .returned (.tuple #[.agg #[.slice o1 l1 c1, .slice o2 l2 c2], .nilIface]) ∧ ReadsA w' (.slice o1 l1 c1) g.ats ∧ Reads w' (.slice o2 l2 c2) g.c ∧ SaysAll fs g ∧ Below w1.heap.size w1 w') := together_any w1 hK hL (hW.trans (b1.mono hW0)) (hlg.keep (b1.block _ hbl)) hr
 have HKd : Hid (KindsLaid w0 ∧ LibLaid w0) := ⟨hK.below hW, hL.below hW⟩
 obtain ⟨N, hN⟩ := nm ((worldsSo fs).toNat)
 have HN : Hid (N < 1000000000 ∧ (N : Int) = worldsSo fs) := by
  have hrg := worldsSo_range fs
  unfold Hid
  rw [hN, Int.toNat_of_nonneg hrg.1]
  omega
 rw [← hN]
 clear b1 d1 hK hL hW hW0 hlg hr hN
 go_enter Tryz.func35, Tryz.ntmps35
 go_upto_region 1 with fail
 rw [← hw1]
 clear hw1
 go_wp2_with fail
 go_at_call 55
 refine HTo.out.mono ?_
 rintro e w2 ⟨o1, l1, c1, o2, l2, c2, g, rfl, hA, hC, hsay, hb2⟩
 have HB2 := hide (HB1.out.trans (hb2.mono HB1.out.size))
 obtain ⟨w3, hw3⟩ := nm (w2.alloc (.cells #[.slice o1 l1 c1, .slice o2 l2 c2] 78))
 obtain ⟨G, hG⟩ := nm w2.heap.size
 have b3 : Below w2.heap.size w2 w3 := by rw [hw3]; exact below_alloc1 _ _
 have HB3 := hide (HB2.out.trans (b3.mono HB2.out.size))
 have F3 : Blk w3 G 78 #[.slice o1 l1 c1, .slice o2 l2 c2] := by rw [hw3, hG]; exact Blk.new _ _ _
 have y0 : w3.cell? ⟨G, 0, none⟩ = some (.slice o1 l1 c1) := F3.cell 0
 have y1 : w3.cell? ⟨G, 1, none⟩ = some (.slice o2 l2 c2) := F3.cell 1
 have HWo : Hid (Calls Tryz.prog 56 #[.agg #[.slice o1 l1 c1, .slice o2 l2 c2], .int .i64 4] w3 (Bk w3 (.tuple #[.int .i64 (N : Int), .nilIface]))) := by
  obtain ⟨s1, s2⟩ := says_worlds hsay
  have h := worldsOf_any (.slice o1 l1 c1) (.slice o2 l2 c2) g.ats g.c 4 w3 (hA.below b3) (hC.below b3) (HKd.out.1.below HB3.out)
  rw [s1, s2] at h
  rw [HN.out.2]
  exact h
 clear hA hC hsay hb2 b3 F3 c0
 go_upto_region 2 with fail
 rw [← hw3, ← hG]
 clear hw3 hG
 go_wp2_with fail
 go_at_call 56
 refine HWo.out.mono ?_
 rintro e w4 ⟨rfl, hb4⟩
 have HB4 := hide (HB3.out.trans (hb4.mono HB3.out.size))
 clear hb4 y0 y1
 have HIt : Hid (Calls Tryz.prog 36 #[.int .i64 (N : Int)] w4 (Bk w4 (.string (strOf (decT N))))) := itoa_digits HN.out.1 w4 (HKd.out.2.below HB4.out)
 go_wp2_with fail
 go_at_call 36
 refine HIt.out.mono ?_
 rintro e w5 ⟨rfl, hb5⟩
 have HB5 := hide (HB4.out.trans (hb5.mono HB4.out.size))
 clear hb5
 go_wp2
 go_ret2
 exact ⟨rfl, HB5.out⟩
theorem two_texts (a b : List UInt8) : strOf a ++ ⟨#[32]⟩ ++ strOf b = strOf (a ++ 32 :: b) := by
 apply strOf_same
 rw [strOf_list, ByteArray.data_append, ByteArray.data_append]
 simp [strOf_list]
def spanL (fs : List Fm) (t : List UInt8) : List UInt8 := if lettersB t = true ∧ faultN (readN t) = 0 then decT (spanSo fs (readN t)).1.toNat ++ (32 :: decT (spanSo fs (readN t)).2.toNat) else badW
theorem text_zero {t : List UInt8} : textFault t = 0 ↔ lettersB t = true ∧ faultN (readN t) = 0 := by
 unfold textFault
 by_cases h : lettersB t = true
 ·rw [if_pos h]; exact ⟨fun h' => ⟨h, h'⟩, fun h' => h'.2⟩
 ·rw [if_neg h]; exact ⟨fun h' => absurd h' (by decide), fun h' => absurd h'.1 h⟩
set_option maxHeartbeats 8000000 in
theorem span_any {b : Nat} {l : Lg} {fs : List Fm} {w : World} (w0 : World) (hK : KindsLaid w) (hL : LibLaid w) (hW : Below w.heap.size w w0) (hlg : LogAt b l w0) (hr : LgRun l fs) (t : List UInt8) (hz : t.length ≤ 3000) :
    Calls Tryz.prog 41 #[.agg #[.pointer (some ⟨b, 0, none⟩)], .string (strOf t)] w0 fun e w' => ∃ s E, e = .returned (.tuple #[.string s, E]) ∧ LineEnd (spanL fs t) s E ∧ Below w0.heap.size w0 w' := by
 have hW0 : w.heap.size ≤ w0.heap.size := hW.size
 have hbl := hlg.lt
 have HOp := hide (hr.ok)
 obtain ⟨w1, hw1⟩ := nm (w0.alloc (.cells #[.pointer (some ⟨b, 0, none⟩)] 38))
 have b1 : Below w0.heap.size w0 w1 := by rw [hw1]; exact below_alloc1 _ _
 have HB1 := hide b1
 have d1 : Blk w1 w0.heap.size 38 #[.pointer (some ⟨b, 0, none⟩)] := by rw [hw1]; exact Blk.new _ _ _
 have HD1 : Hid (Blk w1 w0.heap.size 38 #[.pointer (some ⟨b, 0, none⟩)]) := d1
 have HPa : Hid (Calls Tryz.prog 66 #[.string (strOf t)] w1 fun e w' => ∃ v, e = .returned (.tuple #[v, errV (textFault t)]) ∧ (textFault t = 0 → Reads w' v (readN t)) ∧ (¬ textFault t = 0 → v = .slice none 0 0) ∧ Below w1.heap.size w1 w') := by
  have h := parse_any (strOf t) (by rw [strOf_size]; omega) w1
  rw [strOf_list] at h
  exact h
 have HTo : Hid (∀ W, Below w0.heap.size w0 W → Calls Tryz.prog 55 #[.agg #[.pointer (some ⟨b, 0, none⟩)]] W fun e w' => ∃ o1 l1 c1 o2 l2 c2 g, e = .returned (.tuple #[.agg #[.slice o1 l1 c1, .slice o2 l2 c2], .nilIface]) ∧ ReadsA w' (.slice o1 l1 c1) g.ats ∧ Reads w' (.slice o2 l2 c2) g.c ∧ SaysAll fs g ∧ Below W.heap.size W w') := fun W hB => together_any W hK hL (hW.trans (hB.mono hW0)) (hlg.keep (hB.block _ hbl)) hr
 have HKd : Hid (KindsLaid w0 ∧ LibLaid w0) := ⟨hK.below hW, hL.below hW⟩
 clear b1 d1 hK hL hW hW0 hlg hr
 go_enter Tryz.func41, Tryz.ntmps41
 go_upto_region 1 with fail
 rw [← hw1]
 clear hw1
 go_wp2_with fail
 go_at_call 66
 refine HPa.out.mono ?_
 rintro e w2 ⟨v, rfl, hv1, hv2, hb2⟩
 have HB2 := hide (HB1.out.trans (hb2.mono HB1.out.size))
 have HD2 := hide (HD1.out.below hb2)
 clear hb2
 by_cases hf : textFault t = 0
 ·have HT2 := hide (hv1 hf)
  obtain ⟨to_, tc, rfl, _⟩ := HT2.out.slice
  obtain ⟨tn, htn⟩ := nm ((readN t).length)
  rw [← htn] at HT2 ⊢
  have HF := hide hf
  rw [hf, show errV 0 = .nilIface from rfl]
  have c0 : w2.cell? ⟨w0.heap.size, 0, none⟩ = some (.pointer (some ⟨b, 0, none⟩)) := HD2.out.cell 0
  clear hv1 hv2 hf htn
  go_wp2_with fail
  go_at_call 55
  refine (HTo.out _ HB2.out).mono ?_
  rintro e w3 ⟨o1, l1, c1, o2, l2, c2, g, rfl, hA, hC, hsay, hb3⟩
  have HB3 := hide (HB2.out.trans (hb3.mono HB2.out.size))
  obtain ⟨w4, hw4⟩ := nm (w3.alloc (.cells #[.slice o1 l1 c1, .slice o2 l2 c2] 78))
  obtain ⟨G, hG⟩ := nm w3.heap.size
  have b4 : Below w3.heap.size w3 w4 := by rw [hw4]; exact below_alloc1 _ _
  have HB4 := hide (HB3.out.trans (b4.mono HB3.out.size))
  have F4 : Blk w4 G 78 #[.slice o1 l1 c1, .slice o2 l2 c2] := by rw [hw4, hG]; exact Blk.new _ _ _
  have y0 : w4.cell? ⟨G, 0, none⟩ = some (.slice o1 l1 c1) := F4.cell 0
  have y1 : w4.cell? ⟨G, 1, none⟩ = some (.slice o2 l2 c2) := F4.cell 1
  have HSp : Hid (∃ N M : Nat, (N < 1000000000 ∧ M < 1000000000) ∧ spanL fs t = decT N ++ (32 :: decT M) ∧ Calls Tryz.prog 67 #[.agg #[.slice o1 l1 c1, .slice o2 l2 c2], .slice to_ tn tc, .int .i64 4] w4 (Bk w4 (.tuple #[.agg #[.int .i64 (N : Int), .int .i64 (M : Int)], .nilIface]))) := by
   obtain ⟨f1, f2⟩ := text_zero.1 HF.out
   obtain ⟨s0, s1, s2⟩ := says_span hsay HOp.out.op f2
   have hrg := spanSo_range fs (readN t) (worldsL 4)
   have h := spanOf_any (.slice o1 l1 c1) (.slice o2 l2 c2) (.slice to_ tn tc) g.ats g.c (readN t) 4 w4 (hA.below b4) (hC.below b4) ((HT2.out.below hb3).below b4) (HKd.out.1.below HB4.out)
   rw [s0, s1, s2] at h
   have hr1 : 0 ≤ (spanSo fs (readN t)).1 ∧ (spanSo fs (readN t)).1 ≤ 100 := hrg.1
   have hr2 : 0 ≤ (spanSo fs (readN t)).2 ∧ (spanSo fs (readN t)).2 ≤ 100 := hrg.2
   refine ⟨(spanSo fs (readN t)).1.toNat, (spanSo fs (readN t)).2.toNat, ⟨by omega, by omega⟩, by unfold spanL; rw [if_pos ⟨f1, f2⟩], ?_⟩
   rw [Int.toNat_of_nonneg hr1.1, Int.toNat_of_nonneg hr2.1]
   exact h
  obtain ⟨N, M, hNM, hsl, hSp⟩ := HSp.out
  have HN : Hid ((N < 1000000000 ∧ M < 1000000000) ∧ spanL fs t = decT N ++ (32 :: decT M)) := ⟨hNM, hsl⟩
  have HSc := hide hSp
  clear hA hC hsay hb3 b4 F4 HSp hNM hsl hSp c0
  go_upto_region 5 with fail
  rw [← hw4, ← hG]
  clear hw4 hG
  go_wp2_with fail
  go_at_call 67
  refine HSc.out.mono ?_
  rintro e w5 ⟨rfl, hb5⟩
  have HB5 := hide (HB4.out.trans (hb5.mono HB4.out.size))
  clear hb5 y0 y1
  obtain ⟨w6, hw6⟩ := nm (w5.alloc (.cells #[.int .i64 (N : Int), .int .i64 (M : Int)] 117))
  obtain ⟨G6, hG6⟩ := nm w5.heap.size
  have HB6 : Hid (Below w0.heap.size w0 w6) := by unfold Hid; rw [hw6]; exact HB5.out.trans ((below_alloc1 _ _).mono HB5.out.size)
  have F6 : Blk w6 G6 117 #[.int .i64 (N : Int), .int .i64 (M : Int)] := by rw [hw6, hG6]; exact Blk.new _ _ _
  have HF6 : Hid (Blk w6 G6 117 #[.int .i64 (N : Int), .int .i64 (M : Int)]) := F6
  clear F6
  go_upto_region 8 with fail
  rw [← hw6, ← hG6]
  clear hw6 hG6
  have HI1 : Hid (∀ W, Below w6.heap.size w6 W → Calls Tryz.prog 36 #[.int .i64 (N : Int)] W fun e w' => e = .returned (.string (strOf (decT N))) ∧ Below w6.heap.size w6 w' ∧ w'.cell? ⟨G6, 0, none⟩ = some (.int .i64 (N : Int)) ∧ w'.cell? ⟨G6, 1, none⟩ = some (.int .i64 (M : Int))) := fun W hB =>
   (itoa_digits HN.out.1.1 W (HKd.out.2.below (HB6.out.trans (hB.mono HB6.out.size)))).mono fun e w' ⟨h1, h2⟩ => ⟨h1, hB.trans (h2.mono hB.size), (HF6.out.below (hB.trans (h2.mono hB.size))).cell 0, (HF6.out.below (hB.trans (h2.mono hB.size))).cell 1⟩
  have HI2 : Hid (∀ W, Below w6.heap.size w6 W → Calls Tryz.prog 36 #[.int .i64 (M : Int)] W fun e w' => e = .returned (.string (strOf (decT M))) ∧ Below w6.heap.size w6 w' ∧ w'.cell? ⟨G6, 0, none⟩ = some (.int .i64 (N : Int)) ∧ w'.cell? ⟨G6, 1, none⟩ = some (.int .i64 (M : Int))) := fun W hB =>
   (itoa_digits HN.out.1.2 W (HKd.out.2.below (HB6.out.trans (hB.mono HB6.out.size)))).mono fun e w' ⟨h1, h2⟩ => ⟨h1, hB.trans (h2.mono hB.size), (HF6.out.below (hB.trans (h2.mono hB.size))).cell 0, (HF6.out.below (hB.trans (h2.mono hB.size))).cell 1⟩
  have c0 : w6.drew.cell? ⟨G6, 0, none⟩ = some (.int .i64 (N : Int)) := HF6.out.cell 0
  have c1 : w6.drew.cell? ⟨G6, 1, none⟩ = some (.int .i64 (M : Int)) := HF6.out.cell 1
  have z1 : (strOf (decT N)).size ≤ 9 := by rw [strOf_size]; exact decF_length 8 N
  have z2 : (strOf (decT M)).size ≤ 9 := by rw [strOf_size]; exact decF_length 8 M
  go_upto_region 10 with fail
  obtain ⟨T1, hT1⟩ := nm (strOf (decT N))
  obtain ⟨T2, hT2⟩ := nm (strOf (decT M))
  rw [← hT1] at HI1 z1
  rw [← hT2] at HI2 z2
  have HTx : Hid (T1 = strOf (decT N) ∧ T2 = strOf (decT M)) := ⟨hT1, hT2⟩
  clear hT1 hT2
  go_region_with (first
   | (go_at_call 36; refine (HI1.out _ (by first | exact Below.drew (Below.refl _ _) | exact Below.refl _ _ | assumption)).mono ?_; rintro e w7 ⟨rfl, hb7, d0, d1⟩)
   | (go_at_call 36; refine (HI2.out _ (by first | assumption | exact Below.drew (Below.refl _ _) | exact Below.refl _ _)).mono ?_; rintro e w8 ⟨rfl, hb8, d2, d3⟩))
  all_goals
   go_wp2
   go_ret2
   refine ⟨_, _, rfl, Or.inl ⟨rfl, ?_⟩, HB6.out.trans (hb8.mono HB6.out.size)⟩
   obtain ⟨e1, e2⟩ := HTx.out
   rw [HN.out.2, e1, e2]
   exact two_texts _ _
 ·have HF := hide hf
  obtain rfl := hv2 hf
  rw [errV_no hf]
  clear hf hv1 hv2
  go_wp2
  go_ret2
  refine ⟨_, _, rfl, Or.inr (Or.inl ⟨?_, _, _, rfl⟩), HB2.out⟩
  unfold spanL
  rw [if_neg fun h => HF.out (text_zero.2 h)]
end Go.Proofs.YtnoohlibgaeklaaGreatDoor
namespace Go.Proofs.YtnoohlibgaeklaaGreatDoor
open Go.ChangeShapes Go.WideShapes Go.ChangeAt Go.RowKit
set_option maxRecDepth 100000
attribute [local go_sem] Oper.semAt_some
def askL (fs : List Fm) (t : List UInt8) : List UInt8 := if lineFault t = 0 then answerW (answerN (askP fs [atOf t] [0] 4)) else badW
set_option maxHeartbeats 8000000 in
theorem ask_any {b : Nat} {l : Lg} {fs : List Fm} {w : World} (w0 : World) (hK : KindsLaid w) (hL : LibLaid w) (hW : Below w.heap.size w w0) (hlg : LogAt b l w0) (hr : LgRun l fs) (t : List UInt8) (hz : t.length ≤ 3000) :
    Calls Tryz.prog 40 #[.agg #[.pointer (some ⟨b, 0, none⟩)], .string (strOf t)] w0 fun e w' => ∃ s E, e = .returned (.tuple #[.string s, E]) ∧ LineEnd (askL fs t) s E ∧ Below w0.heap.size w0 w' := by
 have hW0 : w.heap.size ≤ w0.heap.size := hW.size
 have hbl := hlg.lt
 have HOp := hide (hr.ok)
 obtain ⟨w1, hw1⟩ := nm (w0.alloc (.cells #[.pointer (some ⟨b, 0, none⟩)] 38))
 have b1 : Below w0.heap.size w0 w1 := by rw [hw1]; exact below_alloc1 _ _
 have HB1 := hide b1
 have HD1 : Hid (Blk w1 w0.heap.size 38 #[.pointer (some ⟨b, 0, none⟩)]) := by unfold Hid; rw [hw1]; exact Blk.new _ _ _
 have HPa : Hid (Calls Tryz.prog 61 #[.string (strOf t)] w1 fun e w' => LineOf t w1 e w' ∧ Below w1.heap.size w1 w') := line_new t (by omega) w1 (hK.below (hW.trans (b1.mono hW0))) (hL.below (hW.trans (b1.mono hW0)))
 have HAl : Hid (∀ W, Below w0.heap.size w0 W → Calls Tryz.prog 64 #[.agg #[.pointer (some ⟨b, 0, none⟩)]] W fun e w' => ∃ vo vc, e = .returned (.slice vo (saidOr fs).length vc) ∧ ReadsF w' (.slice vo (saidOr fs).length vc) (saidOr fs) ∧ Below W.heap.size W w') := fun W hB =>
  said_any W hK hL (hW.trans (hB.mono hW0)) (hlg.keep (hB.block _ hbl)) hr
 have HKd := hide (hK.below hW)
 clear b1 hK hL hW hW0 hlg hr hz
 go_enter Tryz.func40, Tryz.ntmps40
 go_upto_region 1 with fail
 rw [← hw1]
 clear hw1
 go_wp2_with fail
 go_at_call 61
 refine HPa.out.mono ?_
 rintro e w2 ⟨hline, hb2⟩
 have HB2 := hide (HB1.out.trans (hb2.mono HB1.out.size))
 have HD2 := hide (HD1.out.below hb2)
 clear hb2
 rcases hline with ⟨hf, vs, vt, rfl, hs, ht, _, _⟩ | ⟨hf, rfl⟩
 ·obtain ⟨a, ha⟩ := nm (atOf t)
  have HF := hide hf
  have HA := hide ha
  have HA0 : Hid (a.fault = 0) := by unfold Hid; rw [ha]; exact (words_ok hf).2.2
  rw [← ha] at hs ht ⊢
  obtain ⟨so, sc, rfl, _⟩ := hs.slice
  obtain ⟨to_, tc, rfl, _⟩ := ht.slice
  obtain ⟨sn, hsn⟩ := nm a.s.length
  obtain ⟨tn, htn⟩ := nm a.t.length
  rw [← hsn] at hs
  rw [← htn] at ht
  rw [← hsn, ← htn]
  obtain ⟨w3, hw3⟩ := nm (w2.alloc (.cells #[.int .i64 a.k, .slice so sn sc, .slice to_ tn tc, .int .i64 a.n] 71))
  obtain ⟨G, hG⟩ := nm w2.heap.size
  have b3 : Below w2.heap.size w2 w3 := by rw [hw3]; exact below_alloc1 _ _
  have HB3 := hide (HB2.out.trans (b3.mono HB2.out.size))
  have HA3 : Hid (Blk w3 G 71 #[.int .i64 a.k, .slice so sn sc, .slice to_ tn tc, .int .i64 a.n] ∧ Reads w3 (.slice so sn sc) a.s ∧ Reads w3 (.slice to_ tn tc) a.t) := ⟨by rw [hw3, hG]; exact Blk.new _ _ _, hs.below b3, ht.below b3⟩
  have D3 : Blk w3 w0.heap.size 38 #[.pointer (some ⟨b, 0, none⟩)] := HD2.out.below b3
  have c0 : w3.cell? ⟨w0.heap.size, 0, none⟩ = some (.pointer (some ⟨b, 0, none⟩)) := D3.cell 0
  have y0 : w3.cell? ⟨G, 0, none⟩ = some (.int .i64 a.k) := HA3.out.1.cell 0
  have y1 : w3.cell? ⟨G, 1, none⟩ = some (.slice so sn sc) := HA3.out.1.cell 1
  have y2 : w3.cell? ⟨G, 2, none⟩ = some (.slice to_ tn tc) := HA3.out.1.cell 2
  have y3 : w3.cell? ⟨G, 3, none⟩ = some (.int .i64 a.n) := HA3.out.1.cell 3
  -- the answer, where what is asked reads so
  obtain ⟨R, hR⟩ := nm (answerN (askP fs [a] [0] 4))
  have HRg : Hid (R = 1 ∨ R = -1 ∨ R = 0) := by
   unfold Hid
   rw [hR]
   unfold answerN
   split
   ·exact Or.inl rfl
   ·split
    ·exact Or.inr (Or.inl rfl)
    ·exact Or.inr (Or.inr rfl)
  have HL : Hid (askL fs t = answerW R) := by unfold Hid askL; rw [if_pos HF.out, ← HA.out, hR]
  obtain ⟨gs, hgs⟩ := nm (saidOr fs)
  rw [← hgs] at HAl
  obtain ⟨ng, hng⟩ := nm gs.length
  rw [← hng] at HAl
  have HAsk : Hid (∀ vo vc G2 C W, Below w3.heap.size w3 W → ReadsF W (.slice vo ng vc) gs → Blk W G2 71 #[.int .i64 a.k, .slice so sn sc, .slice to_ tn tc, .int .i64 a.n] → Blk W C 3 #[.int .i64 0] → Calls Tryz.prog 63 #[.slice vo ng vc, .agg #[.slice (some ⟨G2, 0, none⟩) 1 1, .slice (some ⟨C, 0, none⟩) 1 1], .int .i64 4] W (Bk w3 (.tuple #[.int .i64 R, .nilIface]))) := fun vo vc G2 C W hB h1 h2 h3 => by
   obtain ⟨g1, g2⟩ := saidOr_ok HOp.out
   rw [← hgs] at g1 g2
   obtain ⟨z0, z1⟩ := ask_right g1 g2 (ats := [a]) (c := [0]) (alone_right HA0.out true)
   obtain ⟨r1, r2⟩ := one_reads h2 (HA3.out.2.1.below hB) (HA3.out.2.2.below hB) h3
   have h := askOf_any _ _ _ gs [a] [0] 4 W h1 r1 r2 (HKd.out.below (HB3.out.trans (hB.mono HB3.out.size)))
   rw [z0, z1, hgs, ask_or, ← hR] at h
   exact h.mono fun e w' h => ⟨h.1, hB.trans (h.2.mono hB.size)⟩
  have HAn : Hid (∀ vo vc W, Below w3.heap.size w3 W → ReadsF W (.slice vo ng vc) gs → Calls Tryz.prog 65 #[.agg #[.int .i64 a.k, .slice so sn sc, .slice to_ tn tc, .int .i64 a.n]] W fun e w' => ∃ G2 C, e = .returned (.agg #[.slice (some ⟨G2, 0, none⟩) 1 1, .slice (some ⟨C, 0, none⟩) 1 1]) ∧ Blk w' G2 71 #[.int .i64 a.k, .slice so sn sc, .slice to_ tn tc, .int .i64 a.n] ∧ Blk w' C 3 #[.int .i64 0] ∧ Below w3.heap.size w3 w' ∧ ReadsF w' (.slice vo ng vc) gs) := fun vo vc W hB h1 => (alone_on a _ _ _ _ _ _ W).mono fun e w' ⟨G2, C, e1, e2, e3, e4⟩ => ⟨G2, C, e1, e2, e3, hB.trans (e4.mono hB.size), h1.below e4⟩
  have HAl : Hid (∀ W, Below w3.heap.size w3 W → Calls Tryz.prog 64 #[.agg #[.pointer (some ⟨b, 0, none⟩)]] W fun e w' => ∃ vo vc, e = .returned (.slice vo ng vc) ∧ ReadsF w' (.slice vo ng vc) gs ∧ Below w3.heap.size w3 w' ∧ w'.cell? ⟨G, 0, none⟩ = some (.int .i64 a.k) ∧ w'.cell? ⟨G, 1, none⟩ = some (.slice so sn sc) ∧ w'.cell? ⟨G, 2, none⟩ = some (.slice to_ tn tc) ∧ w'.cell? ⟨G, 3, none⟩ = some (.int .i64 a.n)) := fun W hB => (HAl.out W (HB3.out.trans (hB.mono HB3.out.size))).mono fun e w' ⟨vo, vc, e1, e2, e3⟩ => by
   have h := hB.trans (e3.mono hB.size)
   have hA := HA3.out.1.below h
   exact ⟨vo, vc, e1, e2, h, hA.cell 0, hA.cell 1, hA.cell 2, hA.cell 3⟩
  clear hs ht hf ha hsn htn b3 D3 hR hgs hng
  go_upto_region 2 with fail
  rw [← hw3, ← hG]
  clear hw3 hG
  go_upto_region 4 with fail
  go_region_with (first
   | (go_at_call 64; refine (HAl.out _ (by first | exact Below.drew (Below.refl _ _) | exact Below.refl _ _)).mono ?_; rintro e w4 ⟨vo, vc, rfl, hg4, hb4, d0, d1, d2, d3⟩)
   | (go_at_call 65; refine (HAn.out _ _ _ (by first | exact hb4 | exact hb4.drew) hg4).mono ?_; rintro e w5 ⟨G2, C, rfl, hA5, hC5, hb5, hg5⟩)
   | (go_at_call 63; refine (HAsk.out _ _ _ _ _ (by first | exact hb5 | exact hb5.drew) hg5 hA5 hC5).mono ?_; rintro e w6 ⟨rfl, hb6⟩))
  all_goals
   have HB6 := hide (HB3.out.trans (hb6.mono HB3.out.size))
   rcases HRg.out with rfl | rfl | rfl
   all_goals
    go_wp2
    go_ret2
    exact ⟨_, _, rfl, Or.inl ⟨rfl, by rw [HL.out]; rfl⟩, HB6.out⟩
 ·have HF := hide hf
  obtain ⟨w3, hw3⟩ := nm (w2.alloc (.cells #[.int .i64 0, .slice none 0 0, .slice none 0 0, .int .i64 0] 71))
  have HB3 : Hid (Below w0.heap.size w0 w3) := by unfold Hid; rw [hw3]; exact HB2.out.trans ((below_alloc1 _ _).mono HB2.out.size)
  clear hf
  go_upto_region 2 with fail
  rw [← hw3]
  clear hw3
  go_wp2
  go_ret2
  refine ⟨_, _, rfl, Or.inr (Or.inl ⟨?_, _, _, rfl⟩), HB3.out⟩
  unfold askL
  rw [if_neg HF.out]
end Go.Proofs.YtnoohlibgaeklaaGreatDoor
namespace Go.Proofs.YtnoohlibgaeklaaGreatDoor
open Go.ChangeShapes Go.WideShapes Go.ChangeAt Go.RowKit
set_option maxRecDepth 100000
attribute [local go_sem] Oper.semAt_some
theorem lineT_say {fs : List Fm} {y : List UInt8} (hm : moreB y = true) (h : Bool) (hw : wordL y = if h = true then sayW else denyW) : lineT fs y = sayL fs (restL y) h ∧ lineS fs y = saidL fs (restL y) h := by
 have h1 : ¬ wordL y = spanW := by rw [hw]; cases h <;> decide
 have h2 : wordL y = sayW ∨ wordL y = denyW ∨ wordL y = askW := by rw [hw]; cases h <;> simp
 have h3 : ¬ wordL y = askW := by rw [hw]; cases h <;> decide
 have h4 : wordL y = sayW ∨ wordL y = denyW := by rw [hw]; cases h <;> simp
 have h5 : decide (wordL y = sayW) = h := by rw [hw]; cases h <;> decide
 have hm' : ¬ moreB y = false := by rw [hm]; decide
 unfold lineT lineS sayL saidL
 rw [if_neg hm', if_neg h1, if_pos h2, if_neg h3, h5]
 by_cases hf : lineFault (restL y) = 0
 ·rw [if_pos hf, if_pos hf, if_pos hf]
  unfold sayS sayF
  by_cases h6 : 6 ≤ fs.length
  ·rw [if_pos h6, if_pos h6]
   refine ⟨by rw [if_neg (by decide)]; rfl, ?_⟩
   rw [if_neg (fun c => by have := c.2.2.2.1; omega), if_neg (by decide)]
  ·rw [if_neg h6, if_neg h6]
   by_cases ho : openN (fs ++ [aloneF (atOf (restL y)) h]) 4 = true
   ·rw [if_pos ho, if_pos ho]
    refine ⟨by rw [if_pos rfl], ?_⟩
    rw [if_pos ⟨hm, h4, hf, by omega, ho⟩, if_pos rfl]
   ·rw [if_neg ho, if_neg ho]
    refine ⟨by rw [if_neg (by decide)]; rfl, ?_⟩
    rw [if_neg (fun c => ho c.2.2.2.2), if_neg (by decide)]
 ·rw [if_neg hf, if_neg hf, if_neg hf]
  exact ⟨rfl, if_neg fun c => hf c.2.2.1⟩
theorem lineT_ask {fs : List Fm} {y : List UInt8} (hm : moreB y = true) (hw : wordL y = askW) : lineT fs y = askL fs (restL y) ∧ lineS fs y = fs := by
 have hm' : ¬ moreB y = false := by rw [hm]; decide
 refine ⟨?_, lineS_same fun c => by rcases c.2.1 with e | e <;> (rw [hw] at e; exact absurd e (by decide))⟩
 unfold lineT askL
 rw [if_neg hm', if_neg (by rw [hw]; decide), if_pos (by rw [hw]; simp), if_pos hw]
theorem lineT_span {fs : List Fm} {y : List UInt8} (hm : moreB y = true) (hw : wordL y = spanW) : lineT fs y = spanL fs (restL y) ∧ lineS fs y = fs := by
 have hm' : ¬ moreB y = false := by rw [hm]; decide
 refine ⟨?_, lineS_same fun c => by rcases c.2.1 with e | e <;> (rw [hw] at e; exact absurd e (by decide))⟩
 unfold lineT spanL
 rw [if_neg hm', if_pos hw]
theorem lineT_bad {fs : List Fm} {y : List UInt8} (hm : moreB y = true) (h0 : ¬ wordL y = spanW) (h1 : ¬ wordL y = sayW) (h2 : ¬ wordL y = denyW) (h3 : ¬ wordL y = askW) : lineT fs y = badW ∧ lineS fs y = fs := by
 have hm' : ¬ moreB y = false := by rw [hm]; decide
 refine ⟨?_, lineS_same fun c => by rcases c.2.1 with e | e; exact h1 e; exact h2 e⟩
 unfold lineT
 rw [if_neg hm', if_neg h0, if_neg (by rintro (e | e | e); exact h1 e; exact h2 e; exact h3 e)]
theorem line_short {fs : List Fm} {y : List UInt8} (hm : moreB y = false) (h1 : ¬ y = worldsW) (h2 : ¬ y = manyW) : lineT fs y = badW ∧ lineS fs y = fs ∧ (∀ h, sayL fs (restL y) h = badW ∧ saidL fs (restL y) h = fs) ∧ askL fs (restL y) = badW ∧ spanL fs (restL y) = badW := by
 have hr : restL y = [] := (word_all hm).2
 have hf : ¬ lineFault [] = 0 := by decide
 refine ⟨by unfold lineT; rw [if_pos hm, if_neg h2, if_neg h1], lineS_same fun c => by rw [hm] at c; exact absurd c.1 (by decide), fun h => ?_, ?_, ?_⟩
 ·rw [hr]; unfold sayL saidL; rw [if_neg hf, if_neg hf]; exact ⟨rfl, rfl⟩
 ·rw [hr]; unfold askL; rw [if_neg hf]
 ·rw [hr]; unfold spanL; rw [if_neg (by decide)]
theorem line_ways {fs : List Fm} {y : List UInt8} (h1 : ¬ y = worldsW) (h2 : ¬ y = manyW) :
    (∀ h, (wordL y = if h = true then sayW else denyW) → lineT fs y = sayL fs (restL y) h ∧ lineS fs y = saidL fs (restL y) h) ∧ (wordL y = askW → lineT fs y = askL fs (restL y) ∧ lineS fs y = fs) ∧ (wordL y = spanW → lineT fs y = spanL fs (restL y) ∧ lineS fs y = fs) ∧ (¬ wordL y = spanW → ¬ wordL y = sayW → ¬ wordL y = denyW → ¬ wordL y = askW → lineT fs y = badW ∧ lineS fs y = fs) := by
 cases hm : moreB y with
 | true => exact ⟨fun h hw => lineT_say hm h hw, lineT_ask hm, lineT_span hm, lineT_bad hm⟩
 | false =>
  obtain ⟨k1, k2, k3, k4, k5⟩ := line_short (fs := fs) hm h1 h2
  exact ⟨fun h _ => ⟨k1.trans (k3 h).1.symm, k2.trans (k3 h).2.symm⟩, fun _ => ⟨k1.trans k4.symm, k2⟩, fun _ => ⟨k1.trans k5.symm, k2⟩, fun _ _ _ _ => ⟨k1, k2⟩⟩
set_option maxHeartbeats 8000000 in
theorem line_of (w : World) (b : Nat) (hK : KindsLaid w) (hL : LibLaid w) : AnsOk w b := by
 intro l fs y w0 hy hW hlg hr
 have hW0 : w.heap.size ≤ w0.heap.size := hW.size
 have hbl := hlg.lt
 obtain ⟨w1, hw1⟩ := nm (w0.alloc (.cells #[.pointer (some ⟨b, 0, none⟩)] 38))
 have b1 : Below w0.heap.size w0 w1 := by rw [hw1]; exact below_alloc1 _ _
 have HB1 := hide b1
 have HD1 : Hid (Blk w1 w0.heap.size 38 #[.pointer (some ⟨b, 0, none⟩)]) := by unfold Hid; rw [hw1]; exact Blk.new _ _ _
 have c0 : w1.cell? ⟨w0.heap.size, 0, none⟩ = some (.pointer (some ⟨b, 0, none⟩)) := HD1.out.cell 0
 -- what was there reads so behind the cut
 have HKd : Hid (KindsLaid w ∧ LibLaid w) := ⟨hK, hL⟩
 have HSt : Hid (∀ W, Below w0.heap.size w0 W → Below w.heap.size w W ∧ LogAt b l W) := fun W hB => ⟨hW.trans (hB.mono hW0), hlg.keep (hB.block _ hbl)⟩
 have HR : Hid (LgRun l fs ∧ y.length ≤ 3000 ∧ (restL y).length ≤ 3000) := ⟨hr, hy, by unfold restL; rw [List.length_drop]; omega⟩
 have HSame : Hid (∀ W, Below w0.heap.size w0 W → (∃ l', LogAt b l' W ∧ LgRun l' fs) ∧ LKeep (fun x => x = b) w0 W) := fun W hB => ⟨⟨l, hlg.keep (hB.block _ hbl), hr⟩, LKeep.of_below hB⟩
 have HCu : Hid (Calls Tryz.prog 38 #[.string (strOf y), .string ⟨#[32]⟩] w1 fun e w' => ∃ f, e = .returned (.tuple #[.string (strOf (wordL y)), .string (strOf (restL y)), .bool f]) ∧ Below w1.heap.size w1 w') := cut_any y (by omega) w1
 clear b1 hK hL hW hW0 hlg hr hy
 by_cases h1 : y = worldsW
 ·have q1 : ((strOf y).toList == [119, 111, 114, 108, 100, 115]) = true := by rw [h1]; exact wq_yes _
  have hm : moreB y = false := by rw [h1]; decide
  have HT : Hid (lineT fs y = decT (worldsSo fs).toNat ∧ lineS fs y = fs) := by
   refine ⟨?_, lineS_same fun c => by rw [hm] at c; exact absurd c.1 (by decide)⟩
   unfold lineT
   rw [if_pos hm, if_neg (by rw [h1]; decide), if_pos h1]
  have HWo : Hid (∀ W, Below w0.heap.size w0 W → Calls Tryz.prog 35 #[.agg #[.pointer (some ⟨b, 0, none⟩)]] W (Bk W (.tuple #[.string (strOf (decT (worldsSo fs).toNat)), .nilIface]))) := fun W hB => worlds_any W HKd.out.1 HKd.out.2 (HSt.out W hB).1 (HSt.out W hB).2 HR.out.1
  clear hm h1
  go_enter Tryz.func12, Tryz.ntmps12
  go_upto_region 1 with fail
  rw [← hw1]
  clear hw1
  go_wp2_with fail
  go_at_call 35
  refine (HWo.out _ HB1.out).mono ?_
  rintro e w3 ⟨rfl, hb3⟩
  have HB3 := hide (HB1.out.trans (hb3.mono HB1.out.size))
  clear hb3
  go_wp2
  go_ret2
  rw [HT.out.2]
  exact ⟨_, _, rfl, Or.inl ⟨rfl, by rw [HT.out.1]⟩, HSame.out _ HB3.out⟩
 have q1 : ((strOf y).toList == [119, 111, 114, 108, 100, 115]) = false := wq_no h1
 by_cases h2 : y = manyW
 ·have q2 : ((strOf y).toList == [109, 97, 110, 121]) = true := by rw [h2]; exact wq_yes _
  have hm : moreB y = false := by rw [h2]; decide
  have HT : Hid (lineT fs y = decT fs.length ∧ lineS fs y = fs) := by
   refine ⟨?_, lineS_same fun c => by rw [hm] at c; exact absurd c.1 (by decide)⟩
   unfold lineT
   rw [if_pos hm, if_pos h2]
  have HAl : Hid (∀ W, Below w0.heap.size w0 W → Calls Tryz.prog 37 #[.pointer (some ⟨b, 0, none⟩)] W fun e w' => ∃ vo vc, e = .returned (.slice vo fs.length vc) ∧ Below W.heap.size W w') := fun W hB => by
   refine (deskAll_any HKd.out.1 HKd.out.2 (HSt.out W hB).1 (HSt.out W hB).2 HR.out.1).mono ?_
   rintro e w' ⟨v, rfl, h1, h2⟩
   obtain ⟨vo, vc, rfl, _⟩ := h1.slice
   exact ⟨_, _, rfl, h2⟩
  have HIt : Hid (∀ W, Below w0.heap.size w0 W → Calls Tryz.prog 36 #[.int .i64 (fs.length : Int)] W (Bk W (.string (strOf (decT fs.length))))) := fun W hB => itoa_digits (by have := HR.out.1.ok.n6; omega) W (HKd.out.2.below (HSt.out W hB).1)
  obtain ⟨nf, hnf⟩ := nm fs.length
  rw [← hnf] at HT HAl HIt
  clear hm h1 h2 hnf
  go_enter Tryz.func12, Tryz.ntmps12
  go_upto_region 1 with fail
  rw [← hw1]
  clear hw1
  go_wp2_with fail
  go_at_call 37
  refine (HAl.out _ HB1.out).mono ?_
  rintro e w3 ⟨vo, vc, rfl, hb3⟩
  have HB3 := hide (HB1.out.trans (hb3.mono HB1.out.size))
  clear hb3
  go_wp2_with fail
  go_at_call 36
  refine (HIt.out _ HB3.out).mono ?_
  rintro e w4 ⟨rfl, hb4⟩
  have HB4 := hide (HB3.out.trans (hb4.mono HB3.out.size))
  clear hb4
  go_wp2
  go_ret2
  rw [HT.out.2]
  exact ⟨_, _, rfl, Or.inl ⟨rfl, by rw [HT.out.1]⟩, HSame.out _ HB4.out⟩
 have q2 : ((strOf y).toList == [109, 97, 110, 121]) = false := wq_no h2
 obtain ⟨d1, d2, d3, d4⟩ := line_ways (fs := fs) h1 h2
 obtain ⟨L, hL⟩ := nm (lineT fs y)
 obtain ⟨F, hF⟩ := nm (lineS fs y)
 rw [← hL, ← hF]
 rw [← hL, ← hF] at d2 d3 d4
 have HSy : Hid (∀ h W, (wordL y = if h = true then sayW else denyW) → Below w0.heap.size w0 W → Calls Tryz.prog 39 #[.agg #[.pointer (some ⟨b, 0, none⟩)], .string (strOf (restL y)), .bool h] W fun e w' => ∃ s E, e = .returned (.tuple #[.string s, E]) ∧ LineEnd L s E ∧ (∃ l', LogAt b l' w' ∧ LgRun l' F) ∧ LKeep (fun x => x = b) W w') := fun h W hw hB => by
  rw [hL, hF, (d1 h hw).1, (d1 h hw).2]
  exact say_any W HKd.out.1 HKd.out.2 (HSt.out W hB).1 (HSt.out W hB).2 HR.out.1 _ HR.out.2.2 h
 have HAs : Hid (∀ W, wordL y = askW → Below w0.heap.size w0 W → F = fs ∧ Calls Tryz.prog 40 #[.agg #[.pointer (some ⟨b, 0, none⟩)], .string (strOf (restL y))] W fun e w' => ∃ s E, e = .returned (.tuple #[.string s, E]) ∧ LineEnd L s E ∧ Below W.heap.size W w') := fun W hw hB => ⟨(d2 hw).2, by
  rw [(d2 hw).1]
  exact ask_any W HKd.out.1 HKd.out.2 (HSt.out W hB).1 (HSt.out W hB).2 HR.out.1 _ HR.out.2.2⟩
 have HSp : Hid (∀ W, wordL y = spanW → Below w0.heap.size w0 W → F = fs ∧ Calls Tryz.prog 41 #[.agg #[.pointer (some ⟨b, 0, none⟩)], .string (strOf (restL y))] W fun e w' => ∃ s E, e = .returned (.tuple #[.string s, E]) ∧ LineEnd L s E ∧ Below W.heap.size W w') := fun W hw hB => ⟨(d3 hw).2, by
  rw [(d3 hw).1]
  exact span_any W HKd.out.1 HKd.out.2 (HSt.out W hB).1 (HSt.out W hB).2 HR.out.1 _ HR.out.2.2⟩
 have HBa := hide d4
 clear d1 d2 d3 d4 hL hF h1 h2
 go_enter Tryz.func12, Tryz.ntmps12
 go_upto_region 1 with fail
 rw [← hw1]
 clear hw1
 go_wp2_with fail
 go_at_call 38
 refine HCu.out.mono ?_
 rintro e w2 ⟨f, rfl, hb2⟩
 have HB2 := hide (HB1.out.trans (hb2.mono HB1.out.size))
 have c2 : w2.cell? ⟨w0.heap.size, 0, none⟩ = some (.pointer (some ⟨b, 0, none⟩)) := (HD1.out.below hb2).cell 0
 clear hb2 c0
 by_cases h1 : wordL y = sayW
 ·have q3 : ((strOf (wordL y)).toList == [115, 97, 121]) = true := by rw [h1]; exact wq_yes _
  have HCl := hide (HSy.out true w2 h1 HB2.out)
  clear h1
  go_wp2_with fail
  go_at_call 39
  refine HCl.out.mono ?_
  rintro e w3 ⟨s, E, rfl, he, hl3, hk3⟩
  have H3 : Hid (LineEnd L s E ∧ (∃ l', LogAt b l' w3 ∧ LgRun l' F) ∧ LKeep (fun x => x = b) w0 w3) := ⟨he, hl3, (LKeep.of_below HB2.out).trans (Grows.refl _ _) hk3⟩
  clear he hl3 hk3
  go_wp2
  go_ret2
  exact ⟨_, _, rfl, H3.out⟩
 have q3 : ((strOf (wordL y)).toList == [115, 97, 121]) = false := wq_no h1
 by_cases h2 : wordL y = denyW
 ·have q4 : ((strOf (wordL y)).toList == [100, 101, 110, 121]) = true := by rw [h2]; exact wq_yes _
  have HCl := hide (HSy.out false w2 h2 HB2.out)
  clear h1 h2
  go_wp2_with fail
  go_at_call 39
  refine HCl.out.mono ?_
  rintro e w3 ⟨s, E, rfl, he, hl3, hk3⟩
  have H3 : Hid (LineEnd L s E ∧ (∃ l', LogAt b l' w3 ∧ LgRun l' F) ∧ LKeep (fun x => x = b) w0 w3) := ⟨he, hl3, (LKeep.of_below HB2.out).trans (Grows.refl _ _) hk3⟩
  clear he hl3 hk3
  go_wp2
  go_ret2
  exact ⟨_, _, rfl, H3.out⟩
 have q4 : ((strOf (wordL y)).toList == [100, 101, 110, 121]) = false := wq_no h2
 by_cases h3 : wordL y = askW
 ·have q5 : ((strOf (wordL y)).toList == [97, 115, 107]) = true := by rw [h3]; exact wq_yes _
  have HCl := hide (HAs.out w2 h3 HB2.out)
  clear h1 h2 h3
  go_wp2_with fail
  go_at_call 40
  refine HCl.out.2.mono ?_
  rintro e w3 ⟨s, E, rfl, he, hb3⟩
  have H3 : Hid (LineEnd L s E ∧ Below w0.heap.size w0 w3) := ⟨he, HB2.out.trans (hb3.mono HB2.out.size)⟩
  clear he hb3
  go_wp2
  go_ret2
  rw [HCl.out.1]
  exact ⟨_, _, rfl, H3.out.1, HSame.out _ H3.out.2⟩
 have q5 : ((strOf (wordL y)).toList == [97, 115, 107]) = false := wq_no h3
 by_cases h4 : wordL y = spanW
 ·have q6 : ((strOf (wordL y)).toList == [115, 112, 97, 110]) = true := by rw [h4]; exact wq_yes _
  have HCl := hide (HSp.out w2 h4 HB2.out)
  clear h1 h2 h3 h4
  go_wp2_with fail
  go_at_call 41
  refine HCl.out.2.mono ?_
  rintro e w3 ⟨s, E, rfl, he, hb3⟩
  have H3 : Hid (LineEnd L s E ∧ Below w0.heap.size w0 w3) := ⟨he, HB2.out.trans (hb3.mono HB2.out.size)⟩
  clear he hb3
  go_wp2
  go_ret2
  rw [HCl.out.1]
  exact ⟨_, _, rfl, H3.out.1, HSame.out _ H3.out.2⟩
 have q6 : ((strOf (wordL y)).toList == [115, 112, 97, 110]) = false := wq_no h4
 have HX := hide (HBa.out h4 h1 h2 h3)
 clear h1 h2 h3 h4
 go_wp2
 go_ret2
 rw [HX.out.2]
 exact ⟨_, _, rfl, Or.inr (Or.inl ⟨HX.out.1, _, _, rfl⟩), HSame.out _ HB2.out⟩
theorem run_done (s : ByteArray) (w : World) (hK : KindsLaid w) (hL : LibLaid w) (hE : Laid w) :
    Calls Tryz.prog 6 #[.string s] w (Bk w (.string (txtOf (runT s.data.toList)))) :=
 run_any s w hE (line_of w w.heap.size hK hL)
end Go.Proofs.YtnoohlibgaeklaaGreatDoor