/-
  Facts and contracts that the statement leans on.
-/
import Derived.Test.YtjaedfjfcghgcabGreatDoorLibX24
import Derived.Test.YtjaedfjfcghgcabGreatDoorLibX25
import Derived.Test.YtjaedfjfcghgcabGreatDoorLibX6
import Derived.Test.YtjaedfjfcghgcabGreatDoorLibX4
import Derived.Test.YtjaedfjfcghgcabGreatDoorLibX3
import Derived.Test.YtjaedfjfcghgcabGreatDoorLibX9
namespace Go.Proofs.YtjaedfjfcghgcabGreatDoor
open Go.ChangeShapes Go.WideShapes Go.ChangeAt Go.RowKit
set_option maxRecDepth 100000
theorem cut_shape : ∀ (n : Nat) (l : List UInt8), l.length ≤ n → ∃ H c, cutB 10 l = H ++ [c] ∧ (∀ x ∈ H, plainC 10 x = true) ∧ plainC 10 c = true ∧ l = linesT H ++ c := by
 intro n
 induction n with
 | zero =>
  intro l hl
  have : l = [] := List.length_eq_zero_iff.1 (by omega)
  subst this
  exact ⟨[], [], rfl, (fun x h => by cases h), rfl, rfl⟩
 | succ n ih =>
  intro l hl
  rcases cut_parts 10 l with h | ⟨x, r, rfl, h⟩
  ·exact ⟨[], l, cutB_miss h, (fun x h => by cases h), h, rfl⟩
  ·obtain ⟨H, c, h1, h2, h3, h4⟩ := ih r (by simp at hl; omega)
   refine ⟨x :: H, c, by rw [cutB_hit h, h1]; rfl, fun y hy => ?_, h3, ?_⟩
   ·rcases List.mem_cons.1 hy with rfl | hy
    ·exact h
    ·exact h2 y hy
   ·rw [h4]
    show x ++ 10 :: (linesT H ++ c) = ((x ++ [10]) ++ linesT H) ++ c
    simp
theorem cut_ended {H : List (List UInt8)} {c : List UInt8} (hH : ∀ x ∈ H, plainC 10 x = true) (hc : plainC 10 c = true) : cutB 10 (linesT H ++ c ++ [10]) = H ++ [c, []] := by
 rw [List.append_assoc]
 have h := cut_lines hH (c ++ [10])
 unfold linesT
 rw [h, cutB_hit hc]
 rfl
theorem ended_parts {H : List (List UInt8)} {c : List UInt8} (hH : ∀ x ∈ H, plainC 10 x = true) (hc : plainC 10 c = true) : headLines (linesT H ++ c ++ [10]) = H ∧ codeLine (linesT H ++ c ++ [10]) = c ∧ lastLine (linesT H ++ c ++ [10]) = [] ∧ 2 ≤ (cutB 10 (linesT H ++ c ++ [10])).length := by
 have e := cut_ended hH hc
 have hl : (cutB 10 (linesT H ++ c ++ [10])).length = H.length + 2 := by rw [e]; simp
 refine ⟨?_, ?_, ?_, by omega⟩
 ·unfold headLines
  rw [hl, e, show H.length + 2 - 2 = H.length by omega, List.take_left]
 ·unfold codeLine
  rw [hl, e, List.getD_eq_getElem?_getD, List.getElem?_append_right (by omega), show H.length + 2 - 2 - H.length = 0 by omega]
  rfl
 ·unfold lastLine
  rw [hl, e, List.getD_eq_getElem?_getD, List.getElem?_append_right (by omega), show H.length + 2 - 1 - H.length = 1 by omega]
  rfl
theorem cutB_plain (c : UInt8) : ∀ (l : List UInt8), ∀ y ∈ cutB c l, plainC c y = true := by
 intro l
 induction l with
 | nil => intro y hy; simp [cutB] at hy; subst hy; rfl
 | cons x r ih =>
  intro y hy
  rw [cutB_cons] at hy
  by_cases hx : x = c
  ·rw [if_pos hx] at hy
   rcases List.mem_cons.1 hy with rfl | hy
   ·rfl
   ·exact ih y hy
  ·rw [if_neg hx] at hy
   obtain ⟨z, zs, e⟩ := cutB_some c r
   rw [e] at hy ih
   rcases List.mem_cons.1 hy with rfl | hy
   ·exact plainC_cons hx (ih z List.mem_cons_self)
   ·exact ih y (List.mem_cons_of_mem _ hy)
theorem lines_last {H : List (List UInt8)} (h : H ≠ []) : ∃ m, linesT H = m ++ [10] := by
 have e := List.dropLast_concat_getLast h
 refine ⟨linesT H.dropLast ++ H.getLast h, ?_⟩
 obtain ⟨D, hD⟩ := nm H.dropLast
 obtain ⟨x, hx⟩ := nm (H.getLast h)
 rw [← hD, ← hx] at e ⊢
 rw [← e]
 unfold linesT
 simp
theorem frame_open {s : ByteArray} (h : endB s = false) : frameBad s.data.toList = true := by
 obtain ⟨H, c, h1, h2, h3, h4⟩ := cut_shape _ s.data.toList (Nat.le_refl _)
 have hl : (cutB 10 s.data.toList).length = H.length + 1 := by rw [h1]; simp
 unfold frameBad
 by_cases h0 : H = []
 ·have : (cutB 10 s.data.toList).length < 2 := by rw [hl, h0]; decide
  simp [this]
 ·have hc : ¬ lastLine s.data.toList = [] := by
   unfold lastLine
   rw [hl, h1, List.getD_eq_getElem?_getD, List.getElem?_append_right (by omega), show H.length + 1 - 1 - H.length = 0 by omega]
   intro hc
   have hc' : c = [] := hc
   obtain ⟨m, hm⟩ := lines_last h0
   rw [hc', hm, List.append_nil] at h4
   have : endB s = true := by rw [← strOf_data s, h4]; exact endB_app m
   rw [h] at this
   cases this
  simp [hc]
theorem last_end {H : List (List UInt8)} {c : List UInt8} (hc : plainC 10 c = true) : lastTen (linesT H ++ c) (linesT H ++ c).length = ((linesT H).length : Int) - 1 := by
 have e : lastTen (linesT H ++ c) (linesT H ++ c).length = lastTen (linesT H ++ c) (linesT H).length := by
  refine lastTen_plain (fun j h1 h2 => ?_) (by simp)
  rw [List.getD_eq_getElem?_getD, List.getElem?_append_right h1]
  have hj : j - (linesT H).length < c.length := by rw [List.length_append] at h2; omega
  rw [List.getElem?_eq_getElem hj]
  have := List.all_eq_true.1 hc _ (List.getElem_mem hj)
  simpa using this
 rw [e]
 by_cases h0 : H = []
 ·subst h0; rfl
 ·obtain ⟨m, hm⟩ := lines_last h0
  rw [hm]
  have hl : (m ++ [10]).length = m.length + 1 := by simp
  rw [hl, lastTen, if_pos]
  ·omega
  ·rw [List.append_assoc, List.getD_eq_getElem?_getD, List.getElem?_append_right (Nat.le_refl _), Nat.sub_self]; rfl
theorem fault_take (ats : List At) (c : List Int) : formFault (ats.take 7) (c.take 21) = formFault ats c := by
 by_cases h1 : ats.length ≤ 7 ∧ c.length ≤ 21
 ·rw [List.take_of_length_le h1.1, List.take_of_length_le h1.2]
 ·have l1 : (ats.take 7).length = min 7 ats.length := List.length_take
  have l2 : (c.take 21).length = min 21 c.length := List.length_take
  unfold formFault
  by_cases h2 : ats.length = 0 ∨ c.length = 0
  ·rw [if_pos (by omega), if_pos h2]
  ·rw [if_neg (by omega), if_neg h2, if_pos (by omega), if_pos (by omega)]
def NoInt (W : World) (N : Nat) : Prop := ∀ k i, W.cell? ⟨N, k, none⟩ ≠ some (.int .i64 i)
theorem noInt_of {W : World} {N : Nat} {o1 o2 : Option Addr} {n1 c1 n2 c2 : Nat} (h : Blk W N 25 #[.slice o1 n1 c1, .slice o2 n2 c2]) : NoInt W N := by
 intro k i e
 rw [h.cell k] at e
 match k, e with
 | 0, e => simp at e
 | 1, e => simp at e
 | k + 2, e => simp at e
theorem Reads.aside {W : World} {N j : Nat} {u v : Value} {t : List Int} (hN : NoInt W N) (h : Reads W v t) : Reads (W.setCell ⟨N, j, none⟩ u) v t := by
 rcases h with h | ⟨b, off, cap, rfl, h2, h3, h4, h5⟩
 ·exact Or.inl h
 ·have hb : N ≠ b := fun e => hN _ _ (by rw [e]; exact h5 0 h3)
  exact Or.inr ⟨b, off, cap, rfl, by simpa [World.setCell] using h2, h3, h4, fun k hk => by rw [set_far (ne_blk hb)]; exact h5 k hk⟩
theorem ReadsA.aside {W : World} {N j : Nat} {u v : Value} {ats : List At} (hN : NoInt W N) (h : ReadsA W v ats) : ReadsA (W.setCell ⟨N, j, none⟩ u) v ats := by
 rcases h with h | ⟨b, off, cap, rfl, h2, h3, h4, h5⟩
 ·exact Or.inl h
 ·refine Or.inr ⟨b, off, cap, rfl, by simpa [World.setCell] using h2, h3, h4, fun i a hi => ?_⟩
  obtain ⟨vs, vt, c0, c1, c2, c3, r1, r2⟩ := h5 i a hi
  have hb : N ≠ b := fun e => hN _ _ (by rw [e]; exact c0)
  exact ⟨vs, vt, by rw [set_far (ne_blk hb)]; exact c0, by rw [set_far (ne_blk hb)]; exact c1, by rw [set_far (ne_blk hb)]; exact c2, by rw [set_far (ne_blk hb)]; exact c3, r1.aside hN, r2.aside hN⟩
theorem loadFm {W : World} {R : Nat} {c0 c1 : Value} (h0 : W.cell? ⟨R, 0, none⟩ = some c0) (h1 : W.cell? ⟨R, 1, none⟩ = some c1) : (loadVar 25 ⟨R, 0, none⟩).run Tryz.prog W = .ok (.agg #[c0, c1]) W := by
 have hl := run_loadCells_list (P := Tryz.prog) W ⟨R, 0, none⟩ [c0, c1] (fun j v hj => by
  match j, hj with
  | 0, hj => simp at hj; subst hj; simpa [Addr.add] using h0
  | 1, hj => simp at hj; subst hj; simpa [Addr.add] using h1)
 simp [loadVar, Tryz.isAgg25, Tryz.sizeOf25, Result.andThen] at hl ⊢
 simp [hl]
def ParseA (RA : List At) (RC : List Int) (F : Int) (e : Ending) (w' : World) : Prop := ∃ va vc, e = .returned (.tuple #[.agg #[va, vc], errV F]) ∧ ReadsA w' va RA ∧ Reads w' vc RC
set_option maxHeartbeats 4000000 in
theorem tparse_open (s : ByteArray) (hz : s.size ≤ 9223372036854775807) (he : endB s = false) (w : World) :
    Calls Tryz.prog 16 #[.string s] w (Bk w (.tuple #[.agg #[.slice none 0 0, .slice none 0 0], .iface 75 (.int .i64 2)])) := by
 obtain ⟨w1, hw1⟩ := nm (w.alloc (.cells #[.slice none 0 0, .slice none 0 0] 25))
 have HB1 : Hid (Below w.heap.size w w1) := by unfold Hid; rw [hw1]; exact below_alloc1 _ _
 have HP1 : Hid (Blk w1 w.heap.size 25 #[.slice none 0 0, .slice none 0 0]) := by unfold Hid; rw [hw1]; exact Blk.new _ _ _
 have HC : Hid (∀ W, Calls Tryz.prog 50 #[.string s, .string ⟨#[10]⟩] W (Sk W (.tuple #[.string s, .bool false]))) := fun W => cutEnd_miss s hz he W
 clear hz he
 go_enter Tryz.func16, Tryz.ntmps16
 go_upto_region 1 with fail
 rw [← hw1]
 clear hw1
 go_wp2_with fail
 go_at_call 50
 refine (HC.out _).mono ?_
 rintro e w' ⟨rfl, rfl⟩
 have x0 : w1.cell? ⟨w.heap.size, 0, none⟩ = some (.slice none 0 0) := HP1.out.cell 0
 have x1 : w1.cell? ⟨w.heap.size, 1, none⟩ = some (.slice none 0 0) := HP1.out.cell 1
 have f0 : w1.frozen? ⟨w.heap.size, 0, none⟩ = false := HP1.out.frozen 0
 have f1 : w1.frozen? ⟨w.heap.size, 1, none⟩ = false := HP1.out.frozen 1
 go_wp2_with fail
 refine bodyPost_ret (v := .tuple #[.agg #[.slice none 0 0, .slice none 0 0], .iface 75 (.int .i64 2)]) ?_ rfl ⟨rfl, (HB1.out.setCell (Nat.le_refl w.heap.size) _).setCell (Nat.le_refl w.heap.size) _⟩
 have hb := (HP1.out.set 0 (.slice none 0 0)).set 1 (.slice none 0 0)
 rw [results_cell_tmp rfl]
 simp [asAddr, Result.andThen, loadFm (hb.cell 0) (hb.cell 1)]
set_option maxHeartbeats 8000000 in
theorem tparse_in (s B A C : ByteArray) (n : Nat) (w : World) (ta RA : List At) (tc RC : List Int) (F : Int) (okC : Prop)
    (HCu : Hid (∀ W, Calls Tryz.prog 50 #[.string s, .string ⟨#[10]⟩] W (Sk W (.tuple #[.string B, .bool true]))))
    (HLa : Hid (∀ W, Calls Tryz.prog 51 #[.string B, .string ⟨#[10]⟩] W (Sk W (.int .i64 ((n : Int) - 1)))))
    (HeC : Hid (B.extract n B.size = C)) (HeA : Hid (B.extract 0 n = A)) (hn : (n : Int) ≤ (B.size : Int)) (hz : (B.size : Int) ≤ 9223372036854775806)
    (HCo : Hid (∀ W, Below w.heap.size w W → Calls Tryz.prog 52 #[.string C] W fun e w' => ((∃ v, okC ∧ e = .returned (.tuple #[v, .nilIface]) ∧ Reads w' v tc) ∨ (F = 2 ∧ e = .returned (.tuple #[.slice none 0 0, .iface 75 (.int .i64 2)]))) ∧ Below W.heap.size W w'))
    (HAo : Hid (okC → ∀ W, Below w.heap.size w W → Calls Tryz.prog 53 #[.string A] W fun e w' => ((∃ v, F = formFault ta tc ∧ e = .returned (.tuple #[v, .nilIface]) ∧ ReadsA w' v ta) ∨ (¬ F = 0 ∧ e = .returned (.tuple #[.slice none 0 0, .iface 75 (.int .i64 F)]))) ∧ Below W.heap.size W w'))
    (HCk : Hid (∀ va vc W, Below w.heap.size w W → ReadsA W va ta → Reads W vc tc → Calls Tryz.prog 14 #[.agg #[va, vc]] W (Bk W (errV (formFault ta tc)))))
    (HR0 : Hid (F = 0 → RA = ta ∧ RC = tc)) (HR1 : Hid (¬ F = 0 → RA = [] ∧ RC = [])) :
    Calls Tryz.prog 16 #[.string s] w fun e w' => ParseA RA RC F e w' ∧ Below w.heap.size w w' := by
 obtain ⟨w1, hw1⟩ := nm (w.alloc (.cells #[.slice none 0 0, .slice none 0 0] 25))
 have HB1 : Hid (Below w.heap.size w w1) := by unfold Hid; rw [hw1]; exact below_alloc1 _ _
 have HP1 : Hid (Blk w1 w.heap.size 25 #[.slice none 0 0, .slice none 0 0]) := by unfold Hid; rw [hw1]; exact Blk.new _ _ _
 have HBad : Hid (∀ W, ¬ F = 0 → Below w.heap.size w W → ParseA RA RC F (.returned (.tuple #[.agg #[.slice none 0 0, .slice none 0 0], .iface 75 (.int .i64 F)])) W ∧ Below w.heap.size w W) := fun W hF hW => by
  obtain ⟨e1, e2⟩ := HR1.out hF
  refine ⟨⟨.slice none 0 0, .slice none 0 0, by rw [errV_no hF], ?_, ?_⟩, hW⟩
  ·rw [e1]; exact Or.inl ⟨none, 0, rfl, rfl⟩
  ·rw [e2]; exact Or.inl ⟨none, 0, rfl, rfl⟩
 have HLd : Hid (∀ W, Blk W w.heap.size 25 #[.slice none 0 0, .slice none 0 0] → ∀ v u, (loadVar 25 ⟨w.heap.size, 0, none⟩).run Tryz.prog ((W.setCell ⟨w.heap.size, 0, none⟩ v).setCell ⟨w.heap.size, 1, none⟩ u) = .ok (.agg #[v, u]) ((W.setCell ⟨w.heap.size, 0, none⟩ v).setCell ⟨w.heap.size, 1, none⟩ u)) := fun W h v u => by
  have hb := (h.set 0 v).set 1 u
  exact loadFm (hb.cell 0) (hb.cell 1)
 have hn0 : (0 : Int) ≤ (n : Int) := by omega
 go_enter Tryz.func16, Tryz.ntmps16
 go_upto_region 1 with fail
 rw [← hw1]
 clear hw1
 go_wp2_with fail
 go_at_call 50
 refine (HCu.out _).mono ?_
 rintro e w' ⟨rfl, rfl⟩
 go_wp2_with fail
 go_at_call 51
 refine (HLa.out _).mono ?_
 rintro e w' ⟨rfl, rfl⟩
 go_upto_region 5 with fail
 go_wp2_with fail
 rw [HeC.out]
 go_at_call 52
 refine (HCo.out _ HB1.out).mono ?_
 rintro e w2 ⟨hor, hb⟩
 have HB2 := hide (HB1.out.trans (hb.mono HB1.out.size))
 have HP2 := hide (HP1.out.below hb)
 clear hb
 rcases hor with ⟨vc, hok, rfl, hrc⟩ | ⟨rfl, rfl⟩
 ·obtain ⟨co, ccap, rfl, _⟩ := hrc.slice
  obtain ⟨cl, hcl⟩ := nm tc.length
  rw [← hcl] at hrc ⊢
  clear hcl
  have HRc := hide hrc
  have HAo' := hide (HAo.out hok)
  clear hrc hok
  go_wp2_with fail
  rw [HeA.out]
  go_at_call 53
  refine (HAo'.out _ HB2.out).mono ?_
  rintro e w3 ⟨hor, hb⟩
  have HB3 := hide (HB2.out.trans (hb.mono HB2.out.size))
  have HP3 := hide (HP2.out.below hb)
  have HRc3 := hide (HRc.out.below hb)
  clear hb
  rcases hor with ⟨va, hFe, rfl, hra⟩ | ⟨hF, rfl⟩
  ·obtain ⟨ao, acap, rfl, _⟩ := hra.slice
   obtain ⟨al, hal⟩ := nm ta.length
   rw [← hal] at hra ⊢
   clear hal
   have HRa := hide hra
   have HFe := hide hFe
   clear hra hFe
   obtain ⟨w4, hw4⟩ := nm (w3.alloc (.cells #[.slice ao al acap, .slice co cl ccap] 25))
   obtain ⟨G, hG⟩ := nm w3.heap.size
   have hb4 : Below w3.heap.size w3 w4 := by rw [hw4]; exact below_alloc1 _ _
   have HB4 := hide (HB3.out.trans (hb4.mono HB3.out.size))
   have HP4 := hide (HP3.out.below hb4)
   have HG4 : Hid (Blk w4 G 25 #[.slice ao al acap, .slice co cl ccap]) := by unfold Hid; rw [hw4, hG]; exact Blk.new _ _ _
   have HRc4 := hide (HRc3.out.below hb4)
   have HRa4 := hide (HRa.out.below hb4)
   clear hb4
   go_upto_region 12 with fail
   rw [← hw4, ← hG]
   clear hw4 hG
   have y0 : w4.cell? ⟨G, 0, none⟩ = some (.slice ao al acap) := HG4.out.cell 0
   have y1 : w4.cell? ⟨G, 1, none⟩ = some (.slice co cl ccap) := HG4.out.cell 1
   go_wp2_with fail
   go_at_call 14
   refine (HCk.out _ _ _ HB4.out HRa4.out HRc4.out).mono ?_
   rintro e w5 ⟨rfl, hb⟩
   have HB5 := hide (HB4.out.trans (hb.mono HB4.out.size))
   have HP5 := hide (HP4.out.below hb)
   have HG5 := hide (HG4.out.below hb)
   have HRc5 := hide (HRc4.out.below hb)
   have HRa5 := hide (HRa4.out.below hb)
   clear hb y0 y1
   rw [← HFe.out]
   by_cases hF : F = 0
   ·have HF := hide hF
    rw [show errV F = .nilIface by rw [hF]; rfl]
    clear hF
    have y0 : w5.cell? ⟨G, 0, none⟩ = some (.slice ao al acap) := HG5.out.cell 0
    have y1 : w5.cell? ⟨G, 1, none⟩ = some (.slice co cl ccap) := HG5.out.cell 1
    have x0 : w5.cell? ⟨w.heap.size, 0, none⟩ = some (.slice none 0 0) := HP5.out.cell 0
    have x1 : w5.cell? ⟨w.heap.size, 1, none⟩ = some (.slice none 0 0) := HP5.out.cell 1
    have f0 : w5.frozen? ⟨w.heap.size, 0, none⟩ = false := HP5.out.frozen 0
    have f1 : w5.frozen? ⟨w.heap.size, 1, none⟩ = false := HP5.out.frozen 1
    go_wp2_with fail
    have hb5 := HP5.out.set 0 (.slice ao al acap)
    have hN0 := noInt_of HP5.out
    have hN1 : NoInt (w5.setCell ⟨w.heap.size, 0, none⟩ (.slice ao al acap)) w.heap.size := noInt_of (o1 := ao) (n1 := al) (c1 := acap) (o2 := none) (n2 := 0) (c2 := 0) hb5
    obtain ⟨e1, e2⟩ := HR0.out HF.out
    refine bodyPost_ret (v := .tuple #[.agg #[.slice ao al acap, .slice co cl ccap], .nilIface]) ?_ rfl ⟨⟨_, _, by rw [HF.out]; rfl, ?_, ?_⟩, (HB5.out.setCell (Nat.le_refl w.heap.size) _).setCell (Nat.le_refl w.heap.size) _⟩
    ·rw [results_cell_tmp rfl]
     simp [asAddr, Result.andThen, HLd.out w5 HP5.out]
    ·rw [e1]; exact (HRa5.out.aside hN0).aside hN1
    ·rw [e2]; exact (HRc5.out.aside hN0).aside hN1
   ·have HF := hide hF
    rw [errV_no hF]
    clear hF
    have x0 : w5.cell? ⟨w.heap.size, 0, none⟩ = some (.slice none 0 0) := HP5.out.cell 0
    have x1 : w5.cell? ⟨w.heap.size, 1, none⟩ = some (.slice none 0 0) := HP5.out.cell 1
    have f0 : w5.frozen? ⟨w.heap.size, 0, none⟩ = false := HP5.out.frozen 0
    have f1 : w5.frozen? ⟨w.heap.size, 1, none⟩ = false := HP5.out.frozen 1
    go_wp2_with fail
    refine bodyPost_ret (v := .tuple #[.agg #[.slice none 0 0, .slice none 0 0], .iface 75 (.int .i64 F)]) ?_ rfl (HBad.out _ HF.out ((HB5.out.setCell (Nat.le_refl w.heap.size) _).setCell (Nat.le_refl w.heap.size) _))
    rw [results_cell_tmp rfl]
    simp [asAddr, Result.andThen, HLd.out w5 HP5.out]
  ·have HF := hide hF
   clear hF
   have x0 : w3.cell? ⟨w.heap.size, 0, none⟩ = some (.slice none 0 0) := HP3.out.cell 0
   have x1 : w3.cell? ⟨w.heap.size, 1, none⟩ = some (.slice none 0 0) := HP3.out.cell 1
   have f0 : w3.frozen? ⟨w.heap.size, 0, none⟩ = false := HP3.out.frozen 0
   have f1 : w3.frozen? ⟨w.heap.size, 1, none⟩ = false := HP3.out.frozen 1
   go_wp2_with fail
   refine bodyPost_ret (v := .tuple #[.agg #[.slice none 0 0, .slice none 0 0], .iface 75 (.int .i64 F)]) ?_ rfl (HBad.out _ HF.out ((HB3.out.setCell (Nat.le_refl w.heap.size) _).setCell (Nat.le_refl w.heap.size) _))
   rw [results_cell_tmp rfl]
   simp [asAddr, Result.andThen, HLd.out w3 HP3.out]
 ·have HF : Hid (¬ (2 : Int) = 0) := by unfold Hid; decide
  have x0 : w2.cell? ⟨w.heap.size, 0, none⟩ = some (.slice none 0 0) := HP2.out.cell 0
  have x1 : w2.cell? ⟨w.heap.size, 1, none⟩ = some (.slice none 0 0) := HP2.out.cell 1
  have f0 : w2.frozen? ⟨w.heap.size, 0, none⟩ = false := HP2.out.frozen 0
  have f1 : w2.frozen? ⟨w.heap.size, 1, none⟩ = false := HP2.out.frozen 1
  go_wp2_with fail
  refine bodyPost_ret (v := .tuple #[.agg #[.slice none 0 0, .slice none 0 0], .iface 75 (.int .i64 2)]) ?_ rfl (HBad.out _ HF.out ((HB2.out.setCell (Nat.le_refl w.heap.size) _).setCell (Nat.le_refl w.heap.size) _))
  rw [results_cell_tmp rfl]
  simp [asAddr, Result.andThen, HLd.out w2 HP2.out]
theorem tparse_any (s : ByteArray) (hz : s.size ≤ 4611686018427387903) (w : World) (hK : KindsLaid w) (hL : LibLaid w) (hW : WordsLaid w) :
    Calls Tryz.prog 16 #[.string s] w fun e w' => (∃ va vc, e = .returned (.tuple #[.agg #[va, vc], errV (formTextFault s.data.toList)]) ∧ ReadsA w' va (readA s.data.toList) ∧ Reads w' vc (readC s.data.toList)) ∧ Below w.heap.size w w' := by
 cases he : endB s with
 | false =>
  have hf : formTextFault s.data.toList = 2 := by unfold formTextFault; rw [if_pos (frame_open he)]
  have h2 : ¬ formTextFault s.data.toList = 0 := by rw [hf]; decide
  refine (tparse_open s (by omega) he w).mono ?_
  rintro e w' ⟨rfl, hb⟩
  refine ⟨⟨_, _, by rw [hf]; rfl, ?_, ?_⟩, hb⟩
  ·unfold readA; rw [if_neg h2]; exact Or.inl ⟨none, 0, rfl, rfl⟩
  ·unfold readC; rw [if_neg h2]; exact Or.inl ⟨none, 0, rfl, rfl⟩
 | true =>
  obtain ⟨l, hs, hsl⟩ := endB_some he
  obtain ⟨H, c, h1, hH, hc, hl⟩ := cut_shape _ l (Nat.le_refl _)
  have hsz : s.size = l.length + 1 := by rw [hs, strOf_size]; simp
  have hln : l.length = (linesT H).length + c.length := by rw [hl, List.length_append]
  obtain ⟨p1, p2, p3, p4⟩ := ended_parts hH hc
  rw [← hl, ← hsl] at p1 p2 p3 p4
  obtain ⟨t, ht⟩ := nm s.data.toList
  rw [← ht] at p1 p2 p3 p4 ⊢
  obtain ⟨h, L, hw⟩ : ∃ h L, cutL c = h :: L := by
   obtain ⟨y, ys, e⟩ := cutB_some 32 c
   exact ⟨y, ys, by rw [cutL_eq]; exact e⟩
  have hj : joinB 32 (h :: L) = c := by
   have e := join_cut 32 _ c (Nat.le_refl _)
   rw [← cutL_eq, hw] at e
   exact e
  have hpl : ∀ y ∈ h :: L, plainC 32 y = true := by
   rw [← hw, cutL_eq]
   exact cutB_plain 32 c
  have hfr : frameBad t = (decide (¬ h = codeW) || (signsN L).isNone) := by
   unfold frameBad codeWords
   rw [p2, p3, hw]
   have q : ¬ (cutB 10 t).length < 2 := by omega
   simp [q]
  have hcw : codeWords t = L := by unfold codeWords; rw [p2, hw]; rfl
  refine tparse_in s (strOf l) (strOf (linesT H)) (strOf c) (linesT H).length w ((H.map atOf).take 7) (readA t) (((signsN L).getD []).take 21) (readC t) (formTextFault t) (h = codeW ∧ (signsN L).isNone = false) (fun W => ?_) (fun W => ?_) ?_ ?_ (by rw [strOf_size]; omega) (by rw [strOf_size]; omega) (fun W hb => ?_) (fun hok W hb => ?_) (fun va vc W hb h1 h2 => fcheck_any va vc _ _ W h1 h2 (hK.below hb)) (fun hF => ?_) (fun hF => ?_)
  ·rw [hs]; exact cutEnd_hit l (by omega) W
  ·have q := lastIndex_any (strOf l) (by rw [strOf_size]; omega) W
   have e : lastTen (strOf l).data.toList (strOf l).size = ((linesT H).length : Int) - 1 := by rw [strOf_list, strOf_size, hl]; exact last_end hc
   rw [e] at q
   exact q
  ·show (strOf l).extract _ _ = _
   rw [strOf_drop _ _ _ (strOf_size _), hl, List.drop_left]
  ·show (strOf l).extract _ _ = _
   rw [strOf_take, hl, List.take_left]
  ·rw [← hj]
   have hz' : (joinB 32 (h :: L)).length ≤ 9223372036854775806 := by rw [hj]; omega
   by_cases hh : h = codeW
   ·subst hh
    refine (codeOf_good L (fun y hy => hpl y (List.mem_cons_of_mem _ hy)) hz' W (hW.below hb)).mono ?_
    rintro e w' ⟨(⟨cc, v, e1, rfl, r⟩ | ⟨e1, rfl⟩), hb'⟩
    ·refine ⟨Or.inl ⟨v, ⟨rfl, by rw [e1]; rfl⟩, rfl, ?_⟩, hb'⟩
     rw [e1]; exact r
    ·refine ⟨Or.inr ⟨?_, rfl⟩, hb'⟩
     unfold formTextFault; rw [if_pos (by rw [hfr, e1]; simp)]
   ·refine (codeOf_bad h L (hpl h List.mem_cons_self) hh hz' W).mono ?_
    rintro e w' ⟨rfl, hb'⟩
    refine ⟨Or.inr ⟨?_, rfl⟩, hb'⟩
    unfold formTextFault; rw [if_pos (by rw [hfr]; simp [hh])]
  ·have hfr' : frameBad t = false := by rw [hfr, hok.2]; simp [hok.1]
   refine (atomsOf_any H hH (by omega) W (hK.below hb) (hL.below hb)).mono ?_
   rintro e w' ⟨(⟨e1, v, rfl, r⟩ | ⟨e1, rfl⟩), hb'⟩
   ·refine ⟨Or.inl ⟨v, ?_, rfl, r⟩, hb'⟩
    unfold formTextFault textAts textCode
    rw [hfr', if_neg (by decide), p1, if_pos e1, fault_take, hcw]
   ·have e2 : formTextFault t = linesFault H := by unfold formTextFault; rw [hfr', if_neg (by decide), p1, if_neg e1]
    exact ⟨Or.inr ⟨by rw [e2]; exact e1, by rw [e2]⟩, hb'⟩
  ·obtain ⟨q1, q2⟩ := print_read hF
   obtain ⟨⟨_, g1⟩, ⟨_, g2⟩, _⟩ := formFault_zero.1 q2
   have a1 : textAts t = H.map atOf := by unfold textAts; rw [p1]
   have a2 : textCode t = (signsN L).getD [] := by unfold textCode; rw [hcw]
   unfold readA readC
   rw [if_pos hF, if_pos hF, ← a1, ← a2]
   exact ⟨(List.take_of_length_le (by omega)).symm, (List.take_of_length_le (by omega)).symm⟩
  ·unfold readA readC
   rw [if_neg hF, if_neg hF]
   exact ⟨rfl, rfl⟩
end Go.Proofs.YtjaedfjfcghgcabGreatDoor
namespace Go.Proofs.YtjaedfjfcghgcabGreatDoor
open Go.ChangeShapes Go.WideShapes Go.ChangeAt Go.RowKit
set_option maxRecDepth 100000
set_option maxHeartbeats 8000000 in
theorem coreCheck_any (v : Value) (fs : List Fm) (u : Int) (w : World) (hF : ReadsF w v fs) (hK : KindsLaid w) :
    Calls Tryz.prog 77 #[v, .int .i64 u] w (Bk w (errV (formsFault fs u))) := by
 obtain ⟨lo, lcap, rfl, hl63⟩ := hF.slice
 have HF := hide hF
 have HFm : Hid (∀ f va vc W, Below w.heap.size w W → ReadsA W va f.ats → Reads W vc f.c → Calls Tryz.prog 14 #[.agg #[va, vc]] W (Bk W (errV (Fm.fault f)))) := fun f va vc W hW hA hC => fcheck_any va vc f.ats f.c W hA hC (hK.below hW)
 obtain ⟨R, hR⟩ := nm (formsFault fs u)
 have H0 : Hid (fs.length = 0 → R = 5) := fun h => by rw [hR]; unfold formsFault; rw [if_pos h]
 have H6 : Hid (¬ fs.length = 0 → 6 < fs.length → R = 4) := fun h1 h2 => by rw [hR]; unfold formsFault; rw [if_neg h1, if_pos h2]
 have HBad : Hid (¬ fs.length = 0 → ¬ 6 < fs.length → ∀ (k : Nat) f, fs[k]? = some f → (∀ j, j < k → ∀ g, fs[j]? = some g → Fm.fault g = 0) → ¬ Fm.fault f = 0 → R = Fm.fault f) := fun h1 h2 k f hk hj hf => by
  have e := firstForm_at hk hj hf
  rw [hR]; unfold formsFault; rw [if_neg h1, if_neg h2, if_neg (by rw [e]; exact hf), e]
 have HEnd : Hid (¬ fs.length = 0 → ¬ 6 < fs.length → (∀ j, j < fs.length → ∀ g, fs[j]? = some g → Fm.fault g = 0) → R = if 0 ≤ u ∧ u ≤ 6 then 0 else 1) := fun h1 h2 hj => by
  have e : firstForm fs = 0 := firstForm_zero.2 fun f hf => by
   obtain ⟨i, hi⟩ := List.mem_iff_getElem?.1 hf
   exact hj i (List.getElem?_eq_some_iff.1 hi).1 f hi
  rw [hR]; unfold formsFault; rw [if_neg h1, if_neg h2, if_pos e]
 rw [← hR]
 obtain ⟨n, hn⟩ := nm fs.length
 rw [← hn] at HF hl63 H0 H6 HBad HEnd ⊢
 have HN := hide hn
 clear hF hR hn hK
 by_cases hz : n = 0
 ·have HR := hide (H0.out hz)
  subst hz
  go_enter Tryz.func77, Tryz.ntmps77
  go_wp2
  go_ret
  exact ⟨by first | (rw [HR.out]; done) | (rw [HR.out]; rfl), Below.refl _ _⟩
 ·by_cases h6 : 6 < n
  ·have HR := hide (H6.out hz h6)
   have dz : ((n : Int) == 0) = false := by simp; omega
   have h6' : (6 : Int) < (n : Int) := by omega
   go_enter Tryz.func77, Tryz.ntmps77
   go_wp2
   go_ret
   exact ⟨by first | (rw [HR.out]; done) | (rw [HR.out]; rfl), Below.refl _ _⟩
  ·have dz : ((n : Int) == 0) = false := by simp; omega
   have h6' : (n : Int) ≤ 6 := by omega
   have HBad' := hide (HBad.out hz h6)
   have HEnd' := hide (HEnd.out hz h6)
   have Hz := hide hz
   clear hz h6 H0 H6 HBad HEnd
   go_enter Tryz.func77, Tryz.ntmps77
   go_wp2
   go_loopw [18] (fun i wr => ∃ k : Nat, k ≤ n ∧ i = .int .i64 k ∧ Below w.heap.size w wr ∧ ∀ j, j < k → ∀ g, fs[j]? = some g → Fm.fault g = 0) (fun i _ => n - (intOf i).toNat)
   case atStart => exact ⟨0, Nat.zero_le _, rfl, Below.refl _ _, fun j hj => by omega⟩
   case round =>
    obtain ⟨k, hk, rfl, hbr, hso⟩ := hrel
    have HBr := hide hbr
    have HSo := hide hso
    clear hbr hso
    by_cases hlt : k < n
    ·obtain ⟨f, hf⟩ : ∃ f, fs[k]? = some f := ⟨_, List.getElem?_eq_getElem (by rw [← HN.out]; exact hlt)⟩
     have HFk := hide hf
     obtain ⟨bL, oL, cL, hv⟩ := HF.out.place (by rw [← HN.out]; omega)
     obtain ⟨hlo, hx1, hx2⟩ := Value.slice.inj hv
     clear hx1 hx2
     subst hlo
     obtain ⟨hbL, va, vc, c0, c1, hA, hC⟩ := HF.out.at hf
     have HFc : Hid (∀ W, Below wr.heap.size wr W → Calls Tryz.prog 14 #[.agg #[va, vc]] W (Bk w (errV (Fm.fault f)))) := fun W hW => by
      have hb' := HBr.out.trans (hW.mono HBr.out.size)
      exact (HFm.out f va vc W hb' (hA.below hb') (hC.below hb')).mono fun e w' ⟨h1, h2⟩ => ⟨h1, hb'.trans (h2.mono hb'.size)⟩
     have x0 : wr.cell? ⟨bL, oL + k * 2, none⟩ = some va := (HBr.out.cell hbL).trans c0
     have x1 : wr.cell? ⟨bL, oL + k * 2 + 1, none⟩ = some vc := (HBr.out.cell hbL).trans c1
     obtain ⟨ao, acap, rfl, _⟩ := hA.slice
     obtain ⟨co, ccap, rfl, _⟩ := hC.slice
     obtain ⟨al, hal⟩ := nm f.ats.length
     obtain ⟨cl, hcl⟩ := nm f.c.length
     rw [← hal] at x0 HFc
     rw [← hcl] at x1 HFc
     obtain ⟨q, hq⟩ := nm (Fm.fault f)
     have HQ := hide hq
     rw [← hq] at HFc
     clear hf hv hbL c0 c1 hA hC hq hal hcl
     have hkn : (k : Int) < (n : Int) := by omega
     by_cases h0 : q = 0
     ·have HFz : Hid (∀ W, Below wr.heap.size wr W → Calls Tryz.prog 14 #[.agg #[.slice ao al acap, .slice co cl ccap]] W (Bk w .nilIface)) := by
       have h := HFc.out
       rw [h0] at h
       exact h
      have HQ0 : Hid (Fm.fault f = 0) := by unfold Hid; rw [← HQ.out, h0]
      clear h0 HFc HQ
      go_wp2_with fail
      go_at_call 14
      refine (HFz.out _ (by first | exact below_alloc1 _ _ | exact ((((Below.refl _ _).alloc (Nat.le_refl _) _).setCell (by simp) _).setCell (by simp) _))).mono ?_
      rintro e w8 ⟨rfl, hb8⟩
      have HB8 := hide hb8
      clear hb8 x0 x1
      go_wp2
      go_roundw
      case rel =>
       refine ⟨k + 1, by omega, by go_num, HB8.out, fun j hj g hg => ?_⟩
       by_cases e : j = k
       ·subst e
        obtain rfl : f = g := Option.some.inj (HFk.out.symm.trans hg)
        exact HQ0.out
       ·exact HSo.out j (by omega) g hg
      case measure => simp [intOf]; omega
     ·have HFz : Hid (∀ W, Below wr.heap.size wr W → Calls Tryz.prog 14 #[.agg #[.slice ao al acap, .slice co cl ccap]] W (Bk w (.iface 75 (.int .i64 q)))) := by
       have h := HFc.out
       rw [show errV q = .iface 75 (.int .i64 q) by unfold errV; rw [if_neg h0]] at h
       exact h
      have HR : Hid (errV R = .iface 75 (.int .i64 q)) := by
       unfold Hid
       rw [HBad'.out k f HFk.out HSo.out (by rw [← HQ.out]; exact h0), ← HQ.out]
       unfold errV; rw [if_neg h0]
      clear h0 HFc HQ
      go_wp2_with fail
      go_at_call 14
      refine (HFz.out _ (by first | exact below_alloc1 _ _ | exact ((((Below.refl _ _).alloc (Nat.le_refl _) _).setCell (by simp) _).setCell (by simp) _))).mono ?_
      rintro e w8 ⟨rfl, hb8⟩
      have HB8 := hide hb8
      clear hb8 x0 x1
      go_wp2
      go_ret
      exact ⟨by first | (rw [HR.out]; done) | (rw [HR.out]; rfl), HB8.out⟩
    ·obtain rfl : k = n := by omega
     have hE := HEnd'.out HSo.out
     by_cases hu : 0 ≤ u ∧ u ≤ 6
     ·rw [if_pos hu] at hE
      have HR := hide hE
      have h : okB u 0 = true := ok_zero hu.1 hu.2
      have HC : Hid (∀ W, Calls Tryz.prog 24 #[.int .i64 u, .int .i64 0] W (Sk W .nilIface)) := fun W => check_ok _ _ h W
      clear hE hu h
      go_wp2_with fail
      go_at_call 24
      refine (HC.out _).mono ?_
      rintro e w' ⟨rfl, rfl⟩
      go_wp2
      go_ret
      exact ⟨by first | (rw [HR.out]; done) | (rw [HR.out]; rfl), HBr.out⟩
     ·rw [if_neg hu] at hE
      have HR := hide hE
      have h : okB u 0 = false := okB_not.2 fun h => hu ⟨h.1, h.2.1⟩
      have HC : Hid (∀ W, Calls Tryz.prog 24 #[.int .i64 u, .int .i64 0] W (Sk W (.iface 75 (.int .i64 1)))) := fun W => check_no _ _ h W
      clear hE hu h
      go_wp2_with fail
      go_at_call 24
      refine (HC.out _).mono ?_
      rintro e w' ⟨rfl, rfl⟩
      go_wp2
      go_ret
      exact ⟨by first | (rw [HR.out]; done) | (rw [HR.out]; rfl), HBr.out⟩
end Go.Proofs.YtjaedfjfcghgcabGreatDoor
namespace Go.Proofs.YtjaedfjfcghgcabGreatDoor
open Go.ChangeShapes Go.WideShapes Go.ChangeAt Go.RowKit
set_option maxRecDepth 100000
def askCheckN (fs : List Fm) (ats : List At) (c : List Int) (u : Int) : Int := if formsFault fs u = 0 then formFault ats c else formsFault fs u
theorem askcheck_forms (lo : Option Addr) (ln lcap : Nat) (ao : Option Addr) (al acap : Nat) (co : Option Addr) (cl ccap : Nat) (u m : Int) (w : World)
    (HF : Hid (∀ W, Below w.heap.size w W → Calls Tryz.prog 77 #[.slice lo ln lcap, .int .i64 u] W (Bk W (.iface 75 (.int .i64 m))))) :
    Calls Tryz.prog 63 #[.slice lo ln lcap, .agg #[.slice ao al acap, .slice co cl ccap], .int .i64 u] w (Bk w (.iface 75 (.int .i64 m))) := by
 go_enter Tryz.func63, Tryz.ntmps63
 go_wp2_with fail
 go_at_call 77
 refine (HF.out _ (below_alloc1 _ _)).mono ?_
 rintro e w2 ⟨rfl, hb⟩
 have HB : Hid (Below w.heap.size w w2) := (below_alloc1 w _).trans (hb.mono (by simp))
 clear hb
 go_wp2
 go_ret
 exact ⟨rfl, HB.out⟩
theorem askcheck_good (lo : Option Addr) (ln lcap : Nat) (ao : Option Addr) (al acap : Nat) (co : Option Addr) (cl ccap : Nat) (u : Int) (E : Value) (w : World)
    (HF : Hid (∀ W, Below w.heap.size w W → Calls Tryz.prog 77 #[.slice lo ln lcap, .int .i64 u] W (Bk W .nilIface)))
    (HG : Hid (∀ W, Below w.heap.size w W → Calls Tryz.prog 14 #[.agg #[.slice ao al acap, .slice co cl ccap]] W (Bk W E))) :
    Calls Tryz.prog 63 #[.slice lo ln lcap, .agg #[.slice ao al acap, .slice co cl ccap], .int .i64 u] w (Bk w E) := by
 obtain ⟨w1, hw1⟩ := nm (w.alloc (.cells #[.slice ao al acap, .slice co cl ccap] 25))
 have HB1 : Hid (Below w.heap.size w w1) := by unfold Hid; rw [hw1]; exact below_alloc1 _ _
 have HQ : Hid (Blk w1 w.heap.size 25 #[.slice ao al acap, .slice co cl ccap]) := by unfold Hid; rw [hw1]; exact Blk.new _ _ _
 go_enter Tryz.func63, Tryz.ntmps63
 go_upto_region 1 with fail
 rw [← hw1]
 clear hw1
 go_wp2_with fail
 go_at_call 77
 refine (HF.out _ HB1.out).mono ?_
 rintro e w2 ⟨rfl, hb⟩
 have HB2 := hide (HB1.out.trans (hb.mono HB1.out.size))
 have y0 : w2.cell? ⟨w.heap.size, 0, none⟩ = some (.slice ao al acap) := (HQ.out.below hb).cell 0
 have y1 : w2.cell? ⟨w.heap.size, 1, none⟩ = some (.slice co cl ccap) := (HQ.out.below hb).cell 1
 clear hb
 go_wp2_with fail
 go_at_call 14
 refine (HG.out _ HB2.out).mono ?_
 rintro e w3 ⟨rfl, hb⟩
 have HB3 := hide (HB2.out.trans (hb.mono HB2.out.size))
 clear hb y0 y1
 go_wp2
 go_ret
 exact ⟨rfl, HB3.out⟩
theorem askCheck_any (v va vc : Value) (fs : List Fm) (ats : List At) (c : List Int) (u : Int) (w : World) (hF : ReadsF w v fs) (hA : ReadsA w va ats) (hC : Reads w vc c) (hK : KindsLaid w) :
    Calls Tryz.prog 63 #[v, .agg #[va, vc], .int .i64 u] w (Bk w (errV (askCheckN fs ats c u))) := by
 have hL := fun W (hW : Below w.heap.size w W) => coreCheck_any v fs u W (hF.below hW) (hK.below hW)
 have hG := fun W (hW : Below w.heap.size w W) => fcheck_any va vc ats c W (hA.below hW) (hC.below hW) (hK.below hW)
 obtain ⟨lo, lcap, rfl, _⟩ := hF.slice
 obtain ⟨ao, acap, rfl, _⟩ := hA.slice
 obtain ⟨co, ccap, rfl, _⟩ := hC.slice
 unfold askCheckN
 by_cases h : formsFault fs u = 0
 ·rw [if_pos h]
  rw [h] at hL
  exact askcheck_good lo _ lcap ao _ acap co _ ccap u _ w hL hG
 ·rw [if_neg h, errV_no h]
  rw [errV_no h] at hL
  exact askcheck_forms lo _ lcap ao _ acap co _ ccap u _ w hL
def seenN (h f : Bool) : Int := if h = true then (if f = true then 0 else 1) else (if f = true then -1 else 0)
def seenE (h f : Bool) : Int := if (h || f) = true then 0 else 6
theorem seenAnswer_any (h f : Bool) (w : World) : Calls Tryz.prog 65 #[.agg #[.bool h, .bool f]] w (Bk w (.tuple #[.int .i64 (seenN h f), errV (seenE h f)])) := by
 cases h <;> cases f
 ·show Calls _ _ _ _ fun e w' => e = .returned (.tuple #[.int .i64 0, .iface 75 (.int .i64 6)]) ∧ _
  go_enter Tryz.func65, Tryz.ntmps65
  go_wp2
  go_ret2
  exact ⟨rfl, below_alloc1 _ _⟩
 ·show Calls _ _ _ _ fun e w' => e = .returned (.tuple #[.int .i64 (-1), .nilIface]) ∧ _
  go_enter Tryz.func65, Tryz.ntmps65
  go_wp2
  go_ret2
  exact ⟨rfl, below_alloc1 _ _⟩
 ·show Calls _ _ _ _ fun e w' => e = .returned (.tuple #[.int .i64 1, .nilIface]) ∧ _
  go_enter Tryz.func65, Tryz.ntmps65
  go_wp2
  go_ret2
  exact ⟨rfl, below_alloc1 _ _⟩
 ·show Calls _ _ _ _ fun e w' => e = .returned (.tuple #[.int .i64 0, .nilIface]) ∧ _
  go_enter Tryz.func65, Tryz.ntmps65
  go_wp2
  go_ret2
  exact ⟨rfl, below_alloc1 _ _⟩
theorem seen_is {p : Int × Int} (h : 0 ≤ p.1 ∧ 0 ≤ p.2) : seenN (decide (¬ p.1 = 0)) (decide (¬ p.2 = 0)) = (if p.1 + p.2 = 0 then 0 else answerN p) ∧ seenE (decide (¬ p.1 = 0)) (decide (¬ p.2 = 0)) = if p.1 + p.2 = 0 then 6 else 0 := by
 unfold seenN seenE answerN
 by_cases h1 : p.1 = 0 <;> by_cases h2 : p.2 = 0 <;> simp [h1, h2] <;> omega
set_option maxHeartbeats 8000000 in
theorem allHold_any (v : Value) (fs : List Fm) (hgood : ∀ f ∈ fs, f.fault = 0) (D : Wd) (hok : D.ok = true) (w : World) (hF : ReadsF w v fs) (hK : KindsLaid w) :
    Calls Tryz.prog 103 #[v, .agg #[.int .i64 D.u, .int .i64 D.a, .int .i64 D.b, .int .i64 D.c]] w (Bk w (.tuple #[.bool (D.so fs), .nilIface])) := by
 obtain ⟨lo, lcap, rfl, hl63⟩ := hF.slice
 have HF := hide hF
 obtain ⟨L, hL⟩ : ∃ L : Nat → Bool, L = fun j => match fs[j]? with | some f => D.formIs f.ats f.c | none => false := ⟨_, rfl⟩
 have HHo : Hid (∀ (k : Nat) f va vc W, fs[k]? = some f → Below w.heap.size w W → ReadsA W va f.ats → Reads W vc f.c → Calls Tryz.prog 76 #[.agg #[va, vc], .agg #[.int .i64 D.u, .int .i64 D.a, .int .i64 D.b, .int .i64 D.c]] W (Bk W (.tuple #[.bool (L k), .nilIface]))) := fun k f va vc W hf hW hA hC => by
  have h := fholds_any va vc f.ats f.c D.u D.a D.b D.c W hA hC (hK.below hW)
  have e : (Wd.mk D.u D.a D.b D.c).formFault f.ats f.c = 0 := wdForm_zero.2 ⟨hgood f (List.mem_of_getElem? hf), hok⟩
  rw [e] at h
  have eL : L k = D.formIs f.ats f.c := by rw [hL]; show (match fs[k]? with | some f => D.formIs f.ats f.c | none => false) = _; rw [hf]
  rw [eL]
  exact h
 have HNo : Hid (∀ k, k < fs.length → L k = false → D.so fs = false) := fun k hk h => by
  rw [hL] at h
  simp only [List.getElem?_eq_getElem hk] at h
  unfold Wd.so
  rw [List.all_eq_false]
  exact ⟨_, List.getElem_mem hk, by rw [h]; decide⟩
 have HYes : Hid ((∀ j, j < fs.length → L j = true) → D.so fs = true) := fun h => by
  unfold Wd.so
  rw [List.all_eq_true]
  intro f hf
  obtain ⟨i, hi⟩ := List.mem_iff_getElem?.1 hf
  have := h i (List.getElem?_eq_some_iff.1 hi).1
  rw [hL] at this
  simp only [hi] at this
  exact this
 obtain ⟨S, hS⟩ := nm (D.so fs)
 rw [← hS] at HNo HYes ⊢
 obtain ⟨n, hn⟩ := nm fs.length
 rw [← hn] at HF hl63 HNo HYes ⊢
 have HN := hide hn
 obtain ⟨w1, hw1⟩ := nm (w.alloc (.cells #[.int .i64 D.u, .int .i64 D.a, .int .i64 D.b, .int .i64 D.c] 34))
 have HB1 : Hid (Below w.heap.size w w1) := by unfold Hid; rw [hw1]; exact below_alloc1 _ _
 have HQ1 : Hid (Blk w1 w.heap.size 34 (arrW D)) := by unfold Hid; rw [hw1]; exact Blk.new _ _ _
 clear hF hL hS hn hgood hok hK
 go_enter Tryz.func103, Tryz.ntmps103
 go_wp2
 rw [← hw1]
 clear hw1
 go_loopw [12] (fun i wr => ∃ k : Nat, k ≤ n ∧ i = .int .i64 k ∧ Below w1.heap.size w1 wr ∧ Hid (∀ j, j < k → L j = true)) (fun i _ => n - (intOf i).toNat)
 case atStart => exact ⟨0, Nat.zero_le _, rfl, Below.refl _ _, fun j hj => by omega⟩
 case round =>
  obtain ⟨k, hk, rfl, hbr, HSo⟩ := hrel
  have HBr := hide hbr
  have HBw := hide (HB1.out.trans (hbr.mono HB1.out.size))
  clear hbr
  by_cases hlt : k < n
  ·obtain ⟨f, hf⟩ : ∃ f, fs[k]? = some f := ⟨_, List.getElem?_eq_getElem (by rw [← HN.out]; exact hlt)⟩
   obtain ⟨bL, oL, cL, hv⟩ := HF.out.place (by rw [← HN.out]; omega)
   obtain ⟨hlo, hx1, hx2⟩ := Value.slice.inj hv
   clear hx1 hx2
   subst hlo
   obtain ⟨hbL, va, vc, c0, c1, hA, hC⟩ := HF.out.at hf
   obtain ⟨ao, acap, rfl, _⟩ := hA.slice
   obtain ⟨co, ccap, rfl, _⟩ := hC.slice
   have x0 : wr.cell? ⟨bL, oL + k * 2, none⟩ = some (.slice ao f.ats.length acap) := (HBw.out.cell hbL).trans c0
   have x1 : wr.cell? ⟨bL, oL + k * 2 + 1, none⟩ = some (.slice co f.c.length ccap) := (HBw.out.cell hbL).trans c1
   have HH1 : Hid (∀ W, Below wr.heap.size wr W → Calls Tryz.prog 76 #[.agg #[.slice ao f.ats.length acap, .slice co f.c.length ccap], .agg #[.int .i64 D.u, .int .i64 D.a, .int .i64 D.b, .int .i64 D.c]] W (Bk w1 (.tuple #[.bool (L k), .nilIface]))) := fun W hW => by
    have hb' := HBw.out.trans (hW.mono HBw.out.size)
    have hb1 := HBr.out.trans (hW.mono HBr.out.size)
    exact (HHo.out k f _ _ W hf hb' (hA.below hb') (hC.below hb')).mono fun e w' ⟨he, hb⟩ => ⟨he, hb1.trans (hb.mono hb1.size)⟩
   obtain ⟨al, hal⟩ := nm f.ats.length
   obtain ⟨cl, hcl⟩ := nm f.c.length
   rw [← hal] at x0 HH1
   rw [← hcl] at x1 HH1
   obtain ⟨wf, hwf⟩ := nm (wr.alloc (.cells #[.slice ao al acap, .slice co cl ccap] 25))
   have HBf : Hid (Below wr.heap.size wr wf) := by unfold Hid; rw [hwf]; exact below_alloc1 _ _
   have HQf : Hid (Blk wf wr.heap.size 25 #[.slice ao al acap, .slice co cl ccap]) := by unfold Hid; rw [hwf]; exact Blk.new _ _ _
   have HH2 : Hid (Calls Tryz.prog 76 #[.agg #[.slice ao al acap, .slice co cl ccap], .agg #[.int .i64 D.u, .int .i64 D.a, .int .i64 D.b, .int .i64 D.c]] wf (Bk w1 (.tuple #[.bool (L k), .nilIface]))) := HH1.out _ HBf.out
   clear hf hv hbL c0 c1 hA hC hal hcl HH1
   have hkn : (k : Int) < (n : Int) := by omega
   obtain ⟨q, hq⟩ := nm (L k)
   have HQ := hide (hq.symm)
   rw [← hq] at HH2
   clear hq
   go_upto_region 4 with fail
   rw [← hwf]
   clear hwf x0 x1
   have y0 : wf.cell? ⟨wr.heap.size, 0, none⟩ = some (.slice ao al acap) := HQf.out.cell 0
   have y1 : wf.cell? ⟨wr.heap.size, 1, none⟩ = some (.slice co cl ccap) := HQf.out.cell 1
   obtain ⟨d0, d1, d2, d3⟩ := ((HQ1.out.below HBr.out).below HBf.out).cells4
   go_wp2_with fail
   go_at_call 76
   refine HH2.out.mono ?_
   rintro e w8 ⟨rfl, hb8⟩
   have HB8 := hide hb8
   clear hb8 y0 y1 d0 d1 d2 d3
   cases q with
   | true =>
    go_wp2
    go_roundw
    case rel =>
     refine ⟨k + 1, by omega, by go_num, HB8.out, fun j hj => ?_⟩
     by_cases e : j = k
     ·subst e; exact HQ.out
     ·exact HSo.out j (by omega)
    case measure => simp [intOf]; omega
   | false =>
    have HR := hide (HNo.out k hlt HQ.out)
    go_wp2
    go_ret2
    exact ⟨by first | (rw [HR.out]; done) | (rw [HR.out]; rfl), HB1.out.trans (HB8.out.mono HB1.out.size)⟩
  ·obtain rfl : k = n := by omega
   have HR := hide (HYes.out HSo.out)
   clear hlt
   go_wp2
   go_ret2
   exact ⟨by first | (rw [HR.out]; done) | (rw [HR.out]; rfl), HBw.out⟩
end Go.Proofs.YtjaedfjfcghgcabGreatDoor