/-
  Proved: vennlaw3.RunAnswers returns true, of any text of at most 3000 bytes, or a longer one, where run.Run answers as chapter 20 says; what was in memory is as it was (the walk that the statement leans on).
-/
import Derived.Test.YtnoohlibgaeklaaGreatDoorLibQ18
import Derived.Deep.CutRange
namespace Go.Proofs.YtnoohlibgaeklaaGreatDoor
open Go.ChangeShapes Go.WideShapes Go.ChangeAt Go.RowKit
set_option maxRecDepth 100000
set_option maxHeartbeats 16000000
set_option maxRecDepth 100000
theorem lineS_ok {fs : List Fm} (h : SaidOk fs) (s : List UInt8) : SaidOk (lineS fs s) := by
 unfold lineS
 split
 ·rename_i hc
  obtain ⟨_, _, h3, h4, h5⟩ := hc
  refine ⟨fun f hf => ?_, by rw [List.length_append]; show _ + 1 ≤ 6; omega, h5⟩
  rcases List.mem_append.1 hf with hf | hf
  ·exact h.good f hf
  ·exact ⟨atOf (restL s), decide (wordL s = sayW), by simpa using hf, (words_ok h3).2.2⟩
 ·exact h
theorem saidF_ok {fs : List Fm} (h : SaidOk fs) (ls : List (List UInt8)) : SaidOk (saidF fs ls) := by
 induction ls generalizing fs with
 | nil => exact h
 | cons s r ih => exact ih (lineS_ok h s)
theorem runF_step {ls : List (List UInt8)} {k : Nat} {s : List UInt8} (h : ls[k]? = some s) : runF [] (ls.take (k + 1)) = runF [] (ls.take k) ++ (lineT (saidF [] (ls.take k)) s ++ [10]) ∧ saidF [] (ls.take (k + 1)) = lineS (saidF [] (ls.take k)) s := by
 have e : ls.take (k + 1) = ls.take k ++ [s] := by rw [List.take_add_one, h]; rfl
 rw [e]
 refine ⟨by rw [runF_append]; rfl, ?_⟩
 unfold saidF
 rw [List.foldl_append]
 rfl
theorem runAnswers_in (t : List UInt8) (ht : t.length ≤ 3000) (cs : List (List UInt8)) (m : Nat) (hm : m ≤ cs.length) (h0 : 0 < cs.length) (hc3 : cs.length ≤ 3001) (hx : ∀ x ∈ cs, x.length ≤ 3000) (hls : runL t = cs.take m) (hor : (m = cs.length ∧ ¬ cs.getLast? = some []) ∨ (m + 1 = cs.length ∧ cs.getLast? = some [])) (w : World)
    (HRun : Hid (Calls Tryz.prog 6 #[.string (strOf t)] w (Bk w (.string (txtOf (runF [] (runL t)))))))
    (HCut : Hid (∀ W, Calls Tryz.prog 7 #[.string (strOf t), .int .u8 10] W fun e w' => ∃ b off cap, e = .returned (.slice (some ⟨b, off, none⟩) cs.length cap) ∧ cs.length ≤ cap ∧ b < w'.heap.size ∧ (∀ (i : Nat) (s : List UInt8), cs[i]? = some s → w'.cell? ⟨b, off + i, none⟩ = some (.string (strOf s))) ∧ Bw W w')) :
    Calls Tryz.prog 3 #[.string (strOf t)] w (Bk w (.bool true)) := by
 obtain ⟨ls, hlsE⟩ := nm (cs.take m)
 rw [← hlsE] at hls
 rw [hls] at HRun
 have hll : ls.length = m := by rw [hlsE, List.length_take]; omega
 have HLs : Hid (∀ (i : Nat) (s : List UInt8), ls[i]? = some s → cs[i]? = some s) := fun i s hi => by
  rw [hlsE] at hi
  have : i < m := by have := (List.getElem?_eq_some_iff.1 hi).1; rw [List.length_take] at this; omega
  rw [List.getElem?_take_of_lt this] at hi
  exact hi
 have HX : Hid (∀ (i : Nat) (s : List UInt8), cs[i]? = some s → s.length ≤ 1048576) := fun i s hi => Nat.le_trans (hx s (List.mem_of_getElem? hi)) (by decide)
 have HLine : Hid (∀ (fs : List Fm) (s : List UInt8) (v : Value) (W : World), SaidOk fs → s.length ≤ 1048576 → SaidAt W v fs → Calls Tryz.prog 8 #[v, .string (strOf s)] W fun e w' => ∃ v', e = .returned (.tuple #[.string (txtOf (lineT fs s)), v']) ∧ SaidAt w' v' (lineS fs s) ∧ Bw W w') := fun fs s v W h1 h2 h3 => refLine_any fs h1 v s h2 W h3
 obtain ⟨last, hlast⟩ : ∃ x, cs[cs.length - 1]? = some x := ⟨_, List.getElem?_eq_getElem (by omega)⟩
 have hgl : cs.getLast? = some last := by rw [List.getLast?_eq_getElem?]; exact hlast
 rw [hgl] at hor
 obtain ⟨s, hs⟩ := nm (strOf t)
 have hz : ¬ (3000 : Int) < (s.size : Int) := by rw [hs, strOf_size]; omega
 rw [← hs] at HRun HCut ⊢
 obtain ⟨RT, hRT⟩ := nm (txtOf (runF [] ls))
 rw [← hRT] at HRun
 have HRT := hide hRT
 obtain ⟨nc, hnc⟩ := nm cs.length
 rw [← hnc] at HCut hlast hor hm h0 hc3
 have HOr : Hid ((m = nc ∧ ¬ last = []) ∨ (m + 1 = nc ∧ last = [])) := by
  rcases hor with ⟨h1, h2⟩ | ⟨h1, h2⟩
  ·exact Or.inl ⟨h1, fun h => h2 (by rw [h])⟩
  ·exact Or.inr ⟨h1, Option.some.inj h2⟩
 have HLa := hide hlast
 have HLl := hide hll
 clear hs hRT hnc hlast hor hgl hll hls hlsE hx ht
 go_enter Tryz.func3, Tryz.ntmps3
 go_wp2_with fail
 go_at_call 6
 refine HRun.out.mono ?_
 rintro e w1 ⟨rfl, hb⟩
 have HB1 := hide hb
 clear hb HRun
 go_wp2_with fail
 go_at_call 7
 refine (HCut.out _).mono ?_
 rintro e w2 ⟨b, off, cap, rfl, hcap, hbl, hcell, hb⟩
 have HB2 := bt HB1 hb
 have HCe : Hid (∀ (W : World) (i : Nat) (s : List UInt8), Bw w2 W → cs[i]? = some s → W.cell? ⟨b, off + i, none⟩ = some (.string (strOf s))) := fun W i s hW hi => (hW.cell hbl).trans (hcell i s hi)
 clear hb hcell hbl HCut HB1
 obtain ⟨mc, hmc⟩ : ∃ mc : Nat, nc = mc + 1 := ⟨nc - 1, by omega⟩
 subst hmc
 have cl := HCe.out w2 mc last (Below.refl _ _) (by have h := HLa.out; simpa using h)
 have hw1 : wrap64 (((mc + 1 : Nat) : Int) - 1) = mc := by unfold wrap64; omega
 have hmm : (mc : Int) < ((mc + 1 : Nat) : Int) := by omega
 go_upto_if 24 with fail
 go_cut [4] from 9 (fun x wx => x = .slice (some ⟨b, off, none⟩) m cap ∧ w2 = wx)
 case first =>
  rcases HOr.out with ⟨h1, h2⟩ | ⟨h1, h2⟩
  ·have ql : (strOf last).toList.isEmpty = false := by rw [Lib.toList_data, strOf_list]; simpa using h2
   have Hm := hide h1
   rw [ql]
   clear h1 h2 ql
   go_wp2_with fail
   go_meet
   case rel => exact ⟨by rw [Hm.out], rfl⟩
  ·have ql : (strOf last).toList.isEmpty = true := by rw [Lib.toList_data, strOf_list, h2]; rfl
   have Hm : Hid (m = mc) := by unfold Hid; omega
   have hcz : (mc : Int) ≤ (cap : Int) := by omega
   rw [ql]
   clear h1 h2 ql
   go_wp2_with fail
   go_meet
   case rel => exact ⟨by rw [Hm.out], rfl⟩
 case rest =>
 obtain ⟨rfl, hwc⟩ := hcut
 subst hwc
 clear cl hw1 hmm
 go_wp2
 go_loopw [5, 6, 7, 8] (fun sv wv iv _ wr => ∃ k : Nat, k ≤ m ∧ iv = .int .i64 k ∧ wv = .string (txtOf (runF [] (ls.take k))) ∧ SaidAt wr sv (saidF [] (ls.take k)) ∧ Bw w2 wr) (fun _ _ iv _ _ => m - (intOf iv).toNat)
 case atStart => exact ⟨0, Nat.zero_le _, rfl, rfl, said_nil _, Below.refl _ _⟩
 case round =>
  obtain ⟨k, hk, rfl, rfl, hsa, hbr⟩ := hrel
  have HSa := hide hsa
  have HBr := hide hbr
  clear hsa hbr
  by_cases hlt : k < m
  ·have hltz : (k : Int) < (m : Int) := by omega
   obtain ⟨x, hxk⟩ : ∃ x, ls[k]? = some x := ⟨_, List.getElem?_eq_getElem (by rw [HLl.out]; exact hlt)⟩
   have cx := HCe.out wr k x HBr.out (HLs.out k x hxk)
   obtain ⟨st1, st2⟩ := runF_step hxk
   have HSt1 := hide st1
   have HSt2 := hide st2
   have HLi : Hid (Calls Tryz.prog 8 #[u5, .string (strOf x)] wr fun e w' => ∃ v', e = .returned (.tuple #[.string (txtOf (lineT (saidF [] (ls.take k)) x)), v']) ∧ SaidAt w' v' (lineS (saidF [] (ls.take k)) x) ∧ Bw wr w') := HLine.out _ _ _ _ (saidF_ok said0 _) (HX.out k x (HLs.out k x hxk)) HSa.out
   have hb1 := runF_short [] (ls.take k)
   rw [List.length_take, HLl.out] at hb1
   have hb2 := lineT_short (saidF [] (ls.take k)) x
   obtain ⟨A, hA⟩ := nm (runF [] (ls.take k))
   obtain ⟨B, hB⟩ := nm (lineT (saidF [] (ls.take k)) x)
   rw [← hA] at HSt1 hb1 ⊢
   rw [← hB] at HSt1 HLi hb2
   have hsA : (txtOf A).size ≤ 60100 := by rw [txtOf_size]; omega
   have hsB : (txtOf B).size ≤ 19 := by rw [txtOf_size]; exact hb2
   have hsC : (txtOf A ++ txtOf B).size ≤ 60200 := by rw [ByteArray.size_append]; omega
   clear hA hB st1 st2 hxk hb1 hb2
   go_wp2_with fail
   go_at_call 8
   refine HLi.out.mono ?_
   rintro e w3 ⟨v3, rfl, hs3, hb⟩
   have HSa3 := hide hs3
   have HB3 := bt HBr hb
   clear hb hs3 cx HLi
   go_wp2
   go_roundw
   case rel => exact ⟨k + 1, by omega, by go_num, by rw [HSt1.out, ← txt_append, ← txt_append, ← ByteArray.append_assoc]; rfl, by rw [HSt2.out]; exact HSa3.out, HB3.out⟩
   case measure => first | (simp [intOf]; done) | (simp [intOf]; omega)
  ·obtain rfl : k = m := by omega
   have hltz : ¬ (k : Int) < (k : Int) := by omega
   have HTk : Hid (ls.take k = ls) := by unfold Hid; rw [List.take_of_length_le (by rw [HLl.out]; exact Nat.le_refl _)]
   rw [HTk.out, ← HRT.out]
   go_wp2
   go_ret
   exact ⟨by first | rfl | simp, HB2.out.trans (HBr.out.mono HB2.out.size)⟩
end Go.Proofs.YtnoohlibgaeklaaGreatDoor