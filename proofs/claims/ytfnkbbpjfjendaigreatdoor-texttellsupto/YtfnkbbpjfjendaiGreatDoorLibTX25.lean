/-
  Proved: what vennref2.ReadForm returns, of a text whose frame of lines is right; what was in memory is as it was (a contract that the statements lean on). Written by program.
-/
import Derived.Test.YtfnkbbpjfjendaiGreatDoorLibTX24
import Derived.Deep.Cut
import Derived.Deep.RegionLaw
import Derived.Deep.AppendLies
namespace Go.Proofs.YtfnkbbpjfjendaiGreatDoor
open Go.ChangeShapes Go.WideShapes Go.ChangeAt Go.RowKit
set_option maxRecDepth 100000

theorem load_formT {W : World} {R : Nat} {c0 c1 : Value} (h : Blk W R 25 #[c0, c1]) : (loadVar 25 ⟨R, 0, none⟩).run Tryz.prog W = .ok (.agg #[c0, c1]) W := by
  have hl := run_loadCells_list (P := Tryz.prog) W ⟨R, 0, none⟩ [c0, c1] (fun j v hj => by
    match j, hj with
    | 0, hj => simp at hj; subst hj; simpa [Addr.add] using h.cell 0
    | 1, hj => simp at hj; subst hj; simpa [Addr.add] using h.cell 1)
  simp [loadVar, Tryz.isAgg25, Tryz.sizeOf25, Result.andThen] at hl ⊢
  simp [hl]
set_option maxHeartbeats 16000000 in
theorem readForm_rest (s : ByteArray) (L W : List (List UInt8)) (m : Nat) (w : World) (hm : L.length = m + 2) (hW : 1 ≤ W.length) (zm : m ≤ 1048576) (zW : W.length ≤ 1048577)
    (R : List (List UInt8)) (HRd : Hid (R = W.drop 1)) (x z y : ByteArray) (hx : strOf (L.getD m []) = x) (hz : strOf (L.getD (m + 1) []) = z) (qz : (z.toList == []) = true) (hy : strOf (W.getD 0 []) = y) (qy : (y.toList == [99, 111, 100, 101]) = true)
    (HC1 : Hid (∀ X, Calls Tryz.prog 21 #[.string s, .int .u8 10] X fun e w' => ∃ v, e = .returned v ∧ ReadsS w' v L ∧ Below X.heap.size X w'))
    (HC2 : Hid (∀ X, Calls Tryz.prog 21 #[.string x, .int .u8 32] X fun e w' => ∃ v, e = .returned v ∧ ReadsS w' v W ∧ Below X.heap.size X w'))
    (HRA : Hid (∀ k, k < m → ∀ X, Calls Tryz.prog 22 #[.string (strOf (L.getD k []))] X (AnswersN (cutL (L.getD k [])) X)))
    (HFm : Hid (∀ va vc ats c X, ReadsA X va ats → Reads X vc c → Calls Tryz.prog 6 #[.agg #[va, vc]] X fun e w' => e = .returned (.int .i64 (formFault ats c)) ∧ Below X.heap.size X w')) :
    Calls Tryz.prog 10 #[.string s] w fun e w' => ∃ va vc F, e = .returned (.tuple #[.agg #[va, vc], .int .i64 F]) ∧ Below w.heap.size w w' ∧
      ((signsN R = none ∧ F = 2 ∧ va = .slice none 0 0 ∧ vc = .slice none 0 0) ∨ ∃ c, signsN R = some c ∧
        ((¬ linesFault (L.take m) = 0 ∧ F = linesFault (L.take m) ∧ va = .slice none 0 0 ∧ vc = .slice none 0 0) ∨
         (linesFault (L.take m) = 0 ∧ F = formFault ((L.take m).map atOf) c ∧ ((F = 0 ∧ ReadsA w' va ((L.take m).map atOf) ∧ Reads w' vc c) ∨ (¬ F = 0 ∧ va = .slice none 0 0 ∧ vc = .slice none 0 0))))) := by
  obtain ⟨i0, hi, hz0, hz1, hz2⟩ := info_parts infoInt
  obtain ⟨iA, hiA, hA0, hA1, hA2⟩ := info_parts infoAt
  obtain ⟨w1, hw1⟩ : ∃ w1, w1 = w.alloc (.cells #[.slice none 0 0, .slice none 0 0] 25) := ⟨_, rfl⟩
  have HB1 : Hid (Below w.heap.size w w1) := by unfold Hid; rw [hw1]; exact below_alloc1 _ _
  have HR1 : Hid (Blk w1 w.heap.size 25 #[.slice none 0 0, .slice none 0 0]) := by unfold Hid; rw [hw1]; exact Blk.new _ _ _
  obtain ⟨nW, hnW⟩ : ∃ n, n = W.length := ⟨_, rfl⟩
  have HnW : Hid (nW = W.length) := hnW
  have HLm : Hid (L.length = m + 2) := hm
  go_enter Tryz.func10, Tryz.ntmps10
  go_upto_region 1 with fail
  rw [← hw1]
  clear hw1
  go_wp2_with fail
  go_at_call 21
  refine (HC1.out _).mono ?_
  rintro e w2 ⟨v, rfl, ⟨gL, capL, rfl, hgL, hcapL, hcellL⟩, hb⟩
  have HB2 : Hid (Below w.heap.size w w2) := HB1.out.trans (hb.mono HB1.out.size)
  have HR2 : Hid (Blk w2 w.heap.size 25 #[.slice none 0 0, .slice none 0 0]) := HR1.out.below hb
  have HL2 : Hid (gL < w2.heap.size ∧ ∀ k, k < m + 2 → w2.cell? ⟨gL, k, none⟩ = some (.string (strOf (L.getD k [])))) := ⟨hgL, fun k hk => hcellL k (by omega)⟩
  rw [hm]
  clear hb hcellL hgL hcapL
  have c0 : w2.cell? ⟨gL, m, none⟩ = some (.string x) := by rw [HL2.out.2 m (by omega), hx]
  have c1 : w2.cell? ⟨gL, m + 1, none⟩ = some (.string z) := by rw [HL2.out.2 (m + 1) (by omega), hz]
  have eM : (((m + 2 : Nat) : Int)) - 2 = (m : Int) := by omega
  have m0 : (0 : Int) ≤ (m : Int) := by omega
  clear hm hx hz
  go_upto_region 3 with fail
  try rw [eM]
  clear eM
  go_wp2_with fail
  go_at_call 21
  refine (HC2.out _).mono ?_
  rintro e w3 ⟨v, rfl, ⟨gW, capW, rfl, hgW, hcapW, hcellW⟩, hb⟩
  have HB3 : Hid (Below w.heap.size w w3) := HB2.out.trans (hb.mono HB2.out.size)
  have HR3 : Hid (Blk w3 w.heap.size 25 #[.slice none 0 0, .slice none 0 0]) := HR2.out.below hb
  have HL3 : Hid (gL < w3.heap.size ∧ ∀ k, k < m + 2 → w3.cell? ⟨gL, k, none⟩ = some (.string (strOf (L.getD k [])))) := ⟨Nat.lt_of_lt_of_le HL2.out.1 hb.size, fun k hk => by rw [hb.cell HL2.out.1]; exact HL2.out.2 k hk⟩
  have HW3 : Hid (gW < w3.heap.size ∧ ∀ k, k < W.length → w3.cell? ⟨gW, k, none⟩ = some (.string (strOf (W.getD k [])))) := ⟨hgW, hcellW⟩
  rw [← hnW]
  have hW1 : 1 ≤ nW := by rw [hnW]; exact hW
  have zW' : nW ≤ 1048577 := by rw [hnW]; exact zW
  have d0 : w3.cell? ⟨gW, 0, none⟩ = some (.string y) := by rw [HW3.out.2 0 (by omega), hy]
  clear hb hcellW hgW hcapW c0 c1 hy hnW hW zW
  obtain ⟨w4, hw4⟩ : ∃ w4, w4 = w3.alloc (.cells #[.slice none 0 0, .slice none 0 0] 25) := ⟨_, rfl⟩
  obtain ⟨G, hG⟩ : ∃ G, G = w3.heap.size := ⟨_, rfl⟩
  have HI4 : Hid (InT G w3 w4 (.slice none 0 0) (.slice none 0 0)) := by unfold Hid; rw [hw4, hG]; exact ⟨Blk.new _ _ _, below_alloc1 _ _, by simp⟩
  have HXW : Hid (∀ X, Below G w3 X → Below w.heap.size w X ∧ Blk X w.heap.size 25 #[.slice none 0 0, .slice none 0 0] ∧ (∀ k, k < m + 2 → X.cell? ⟨gL, k, none⟩ = some (.string (strOf (L.getD k [])))) ∧ (∀ k, k < W.length → X.cell? ⟨gW, k, none⟩ = some (.string (strOf (W.getD k []))))) := fun X hX => by
    rw [hG] at hX
    exact ⟨HB3.out.trans (hX.mono HB3.out.size), HR3.out.below hX, fun k hk => by rw [hX.cell HL3.out.1]; exact HL3.out.2 k hk, fun k hk => by rw [hX.cell HW3.out.1]; exact HW3.out.2 k hk⟩
  have HgW : Hid (gW < G) := by unfold Hid; rw [hG]; exact HW3.out.1
  have HGw : Hid (w.heap.size < G) := by unfold Hid; rw [hG]; exact HR3.out.lt
  go_upto_region 9 with fail
  rw [← hw4, ← hG]
  clear hw4 hG d0 HB1 HB2 HR1 HR2 HR3 HL2 HL3 HW3 HC1 HC2
  go_wp2_with fail
  go_loopw [8] (fun i wr => ∃ (j : Nat) (cs : List Int) (v : Value), 1 ≤ j ∧ j ≤ nW ∧ i = .int .i64 j ∧ InT G w3 wr (.slice none 0 0) v ∧ wr.ownsRow (G + 1) 3 1 v cs.length (cs.map (Value.int .i64)) ∧ signsN ((W.take j).drop 1) = some cs ∧ cs.length = j - 1) (fun i _ => nW - (intOf i).toNat)
  case atStart => exact ⟨1, [], .slice none 0 0, Nat.le_refl _, hW1, rfl, HI4.out, World.ownsRow_nil _ _ _ _, by simp [signsN], rfl⟩
  case round =>
    obtain ⟨j, cs, v, hj1, hj2, rfl, hI, hO, hsN, hcl⟩ := hrel
    have HI : Hid (InT G w3 wr (.slice none 0 0) v) := hI
    have HO : Hid (wr.ownsRow (G + 1) 3 1 v cs.length (cs.map (Value.int .i64))) := hO
    have HsN : Hid (signsN ((W.take j).drop 1) = some cs) := hsN
    have HCl : Hid (cs.length = j - 1) := hcl
    have hcb : cs.length ≤ 1048577 := by omega
    clear hI hO hsN hcl
    have p0 : wr.cell? ⟨G, 0, none⟩ = some (.slice none 0 0) := HI.out.1.cell 0
    have p1 : wr.cell? ⟨G, 1, none⟩ = some v := HI.out.1.cell 1
    have f1 : wr.frozen? ⟨G, 1, none⟩ = false := HI.out.1.frozen 1
    by_cases hlt : j < nW
    · have hlt' : (j : Int) < (nW : Int) := by omega
      have j0 : (0 : Int) ≤ (j : Int) := by omega
      obtain ⟨l, hl⟩ : ∃ l, l = W.getD j [] := ⟨_, rfl⟩
      have HMo : Hid ((W.take (j + 1)).drop 1 = (W.take j).drop 1 ++ [l]) := by unfold Hid; rw [hl]; exact words_more hj1 (by rw [← HnW.out]; exact hlt)
      have HMe : Hid (l ∈ W.drop 1) := by
        unfold Hid
        rw [hl, List.getD_eq_getElem?_getD, List.getElem?_eq_getElem (by rw [← HnW.out]; exact hlt)]
        refine List.mem_iff_getElem?.2 ⟨j - 1, ?_⟩
        rw [List.getElem?_drop, show 1 + (j - 1) = j by omega]
        exact List.getElem?_eq_getElem _
      obtain ⟨X, hX⟩ : ∃ X, X = strOf l := ⟨_, rfl⟩
      have d0 : wr.cell? ⟨gW, j, none⟩ = some (.string X) := by rw [hX, hl]; exact (HXW.out wr HI.out.2.1).2.2.2 j (by rw [← HnW.out]; exact hlt)
      clear hl
      have hsX : X.size = l.length := by rw [hX, strOf_size]
      by_cases q0 : l = [97, 110, 100]
      · have hsn : signN l = some 10 := by rw [q0]; rfl
        have Q0 : (X.toList == [97, 110, 100]) = true := by rw [hX, q0]; exact q_yes _
        clear q0
        clear hX
        have HSg : Hid (signsN ((W.take (j + 1)).drop 1) = some (cs ++ [10])) := by unfold Hid; rw [HMo.out]; exact signs_more HsN.out hsn
        clear hsn hsX
        obtain ⟨wa, hwa⟩ : ∃ wa, wa = wr.alloc (.cells #[.int .i64 (10)] 3) := ⟨_, rfl⟩
        have HIa : Hid (InT G w3 wa (.slice none 0 0) v) := by unfold Hid; rw [hwa]; exact HI.out.alloc _
        have HOa : Hid (wa.ownsRow (G + 1) 3 1 v cs.length (cs.map (Value.int .i64))) := by unfold Hid; rw [hwa]; exact HO.out.alloc _
        have HCa : Hid (∀ k u, ([Value.int .i64 (10)] : List Value)[k]? = some u → wa.cell? ((⟨wr.heap.size, 0, none⟩ : Addr).add k) = some u) := by unfold Hid; rw [hwa]; exact cell_one_new _ _ _
        go_wp2_with (first | (at_builtin; rw [← hwa]; refine wpList_append_own_at _ rfl (.tmp 87) (.tmp 88) 23 rfl (G + 1) 3 i0 (.int .i64 0) 1 8 Tryz.underlying23 hi hz0 hz1 hz2 rfl (by decide) v cs.length (cs.map (Value.int .i64)) rfl HOa.out ⟨wr.heap.size, 0, none⟩ 1 1 [.int .i64 (10)] rfl rfl HCa.out ?d2 ?d3 ?d4 ?d5 ?_))
        case d2 => first | rfl | (intro y hy; simp at hy; subst hy; rfl)
        case d3 => unfold maxLen; omega
        case d4 => omega
        case d5 => have := HIa.out.2.2; omega
        intro v' w' hown hgrow _ hat
        rw [← hwa] at hgrow
        clear hwa
        obtain ⟨o', n', c', rfl⟩ := own_slice hown
        have HIb : Hid (InT G w3 w' (.slice none 0 0) v) := HIa.out.grown hgrow (fun k hk => by have := (row_at HOa.out k hk).1; omega)
        have HIc : Hid (InT G w3 (w'.setCell ⟨G, 1, none⟩ (.slice o' n' c')) (.slice none 0 0) (.slice o' n' c')) := HIb.out.set1 _
        have HOc : Hid ((w'.setCell ⟨G, 1, none⟩ (.slice o' n' c')).ownsRow (G + 1) 3 1 (.slice o' n' c') (cs ++ [10]).length ((cs ++ [10]).map (Value.int .i64))) := ownsRow_setT (by rw [List.map_append, List.length_append]; exact hown) (by omega)
        clear hown hgrow hat p0 p1 f1 d0
        have p1 : w'.cell? ⟨G, 1, none⟩ = some v := HIb.out.1.cell 1
        have f1 : w'.frozen? ⟨G, 1, none⟩ = false := HIb.out.1.frozen 1
        go_wp2_with fail
        go_roundw
        case rel => exact ⟨j + 1, cs ++ [10], .slice o' n' c', by omega, by omega, by go_num, HIc.out, HOc.out, HSg.out, by have := HCl.out; simp; omega⟩
        case measure => simp [intOf]; omega
      by_cases q1 : l = [111, 114]
      · have hsn : signN l = some 11 := by rw [q1]; rfl
        have Q0 : (X.toList == [97, 110, 100]) = false := by rw [hX, q1]; exact q_no (by decide)
        have Q1 : (X.toList == [111, 114]) = true := by rw [hX, q1]; exact q_yes _
        clear q0 q1
        clear hX
        have HSg : Hid (signsN ((W.take (j + 1)).drop 1) = some (cs ++ [11])) := by unfold Hid; rw [HMo.out]; exact signs_more HsN.out hsn
        clear hsn hsX
        obtain ⟨wa, hwa⟩ : ∃ wa, wa = wr.alloc (.cells #[.int .i64 (11)] 3) := ⟨_, rfl⟩
        have HIa : Hid (InT G w3 wa (.slice none 0 0) v) := by unfold Hid; rw [hwa]; exact HI.out.alloc _
        have HOa : Hid (wa.ownsRow (G + 1) 3 1 v cs.length (cs.map (Value.int .i64))) := by unfold Hid; rw [hwa]; exact HO.out.alloc _
        have HCa : Hid (∀ k u, ([Value.int .i64 (11)] : List Value)[k]? = some u → wa.cell? ((⟨wr.heap.size, 0, none⟩ : Addr).add k) = some u) := by unfold Hid; rw [hwa]; exact cell_one_new _ _ _
        go_wp2_with (first | (at_builtin; rw [← hwa]; refine wpList_append_own_at _ rfl (.tmp 94) (.tmp 95) 23 rfl (G + 1) 3 i0 (.int .i64 0) 1 8 Tryz.underlying23 hi hz0 hz1 hz2 rfl (by decide) v cs.length (cs.map (Value.int .i64)) rfl HOa.out ⟨wr.heap.size, 0, none⟩ 1 1 [.int .i64 (11)] rfl rfl HCa.out ?d2 ?d3 ?d4 ?d5 ?_))
        case d2 => first | rfl | (intro y hy; simp at hy; subst hy; rfl)
        case d3 => unfold maxLen; omega
        case d4 => omega
        case d5 => have := HIa.out.2.2; omega
        intro v' w' hown hgrow _ hat
        rw [← hwa] at hgrow
        clear hwa
        obtain ⟨o', n', c', rfl⟩ := own_slice hown
        have HIb : Hid (InT G w3 w' (.slice none 0 0) v) := HIa.out.grown hgrow (fun k hk => by have := (row_at HOa.out k hk).1; omega)
        have HIc : Hid (InT G w3 (w'.setCell ⟨G, 1, none⟩ (.slice o' n' c')) (.slice none 0 0) (.slice o' n' c')) := HIb.out.set1 _
        have HOc : Hid ((w'.setCell ⟨G, 1, none⟩ (.slice o' n' c')).ownsRow (G + 1) 3 1 (.slice o' n' c') (cs ++ [11]).length ((cs ++ [11]).map (Value.int .i64))) := ownsRow_setT (by rw [List.map_append, List.length_append]; exact hown) (by omega)
        clear hown hgrow hat p0 p1 f1 d0
        have p1 : w'.cell? ⟨G, 1, none⟩ = some v := HIb.out.1.cell 1
        have f1 : w'.frozen? ⟨G, 1, none⟩ = false := HIb.out.1.frozen 1
        go_wp2_with fail
        go_roundw
        case rel => exact ⟨j + 1, cs ++ [11], .slice o' n' c', by omega, by omega, by go_num, HIc.out, HOc.out, HSg.out, by have := HCl.out; simp; omega⟩
        case measure => simp [intOf]; omega
      by_cases q2 : l = [110, 111]
      · have hsn : signN l = some 12 := by rw [q2]; rfl
        have Q0 : (X.toList == [97, 110, 100]) = false := by rw [hX, q2]; exact q_no (by decide)
        have Q1 : (X.toList == [111, 114]) = false := by rw [hX, q2]; exact q_no (by decide)
        have Q2 : (X.toList == [110, 111]) = true := by rw [hX, q2]; exact q_yes _
        clear q0 q1 q2
        clear hX
        have HSg : Hid (signsN ((W.take (j + 1)).drop 1) = some (cs ++ [12])) := by unfold Hid; rw [HMo.out]; exact signs_more HsN.out hsn
        clear hsn hsX
        obtain ⟨wa, hwa⟩ : ∃ wa, wa = wr.alloc (.cells #[.int .i64 (12)] 3) := ⟨_, rfl⟩
        have HIa : Hid (InT G w3 wa (.slice none 0 0) v) := by unfold Hid; rw [hwa]; exact HI.out.alloc _
        have HOa : Hid (wa.ownsRow (G + 1) 3 1 v cs.length (cs.map (Value.int .i64))) := by unfold Hid; rw [hwa]; exact HO.out.alloc _
        have HCa : Hid (∀ k u, ([Value.int .i64 (12)] : List Value)[k]? = some u → wa.cell? ((⟨wr.heap.size, 0, none⟩ : Addr).add k) = some u) := by unfold Hid; rw [hwa]; exact cell_one_new _ _ _
        go_wp2_with (first | (at_builtin; rw [← hwa]; refine wpList_append_own_at _ rfl (.tmp 101) (.tmp 102) 23 rfl (G + 1) 3 i0 (.int .i64 0) 1 8 Tryz.underlying23 hi hz0 hz1 hz2 rfl (by decide) v cs.length (cs.map (Value.int .i64)) rfl HOa.out ⟨wr.heap.size, 0, none⟩ 1 1 [.int .i64 (12)] rfl rfl HCa.out ?d2 ?d3 ?d4 ?d5 ?_))
        case d2 => first | rfl | (intro y hy; simp at hy; subst hy; rfl)
        case d3 => unfold maxLen; omega
        case d4 => omega
        case d5 => have := HIa.out.2.2; omega
        intro v' w' hown hgrow _ hat
        rw [← hwa] at hgrow
        clear hwa
        obtain ⟨o', n', c', rfl⟩ := own_slice hown
        have HIb : Hid (InT G w3 w' (.slice none 0 0) v) := HIa.out.grown hgrow (fun k hk => by have := (row_at HOa.out k hk).1; omega)
        have HIc : Hid (InT G w3 (w'.setCell ⟨G, 1, none⟩ (.slice o' n' c')) (.slice none 0 0) (.slice o' n' c')) := HIb.out.set1 _
        have HOc : Hid ((w'.setCell ⟨G, 1, none⟩ (.slice o' n' c')).ownsRow (G + 1) 3 1 (.slice o' n' c') (cs ++ [12]).length ((cs ++ [12]).map (Value.int .i64))) := ownsRow_setT (by rw [List.map_append, List.length_append]; exact hown) (by omega)
        clear hown hgrow hat p0 p1 f1 d0
        have p1 : w'.cell? ⟨G, 1, none⟩ = some v := HIb.out.1.cell 1
        have f1 : w'.frozen? ⟨G, 1, none⟩ = false := HIb.out.1.frozen 1
        go_wp2_with fail
        go_roundw
        case rel => exact ⟨j + 1, cs ++ [12], .slice o' n' c', by omega, by omega, by go_num, HIc.out, HOc.out, HSg.out, by have := HCl.out; simp; omega⟩
        case measure => simp [intOf]; omega
      by_cases q3 : l = [116, 104, 101, 110]
      · have hsn : signN l = some 13 := by rw [q3]; rfl
        have Q0 : (X.toList == [97, 110, 100]) = false := by rw [hX, q3]; exact q_no (by decide)
        have Q1 : (X.toList == [111, 114]) = false := by rw [hX, q3]; exact q_no (by decide)
        have Q2 : (X.toList == [110, 111]) = false := by rw [hX, q3]; exact q_no (by decide)
        have Q3 : (X.toList == [116, 104, 101, 110]) = true := by rw [hX, q3]; exact q_yes _
        clear q0 q1 q2 q3
        clear hX
        have HSg : Hid (signsN ((W.take (j + 1)).drop 1) = some (cs ++ [13])) := by unfold Hid; rw [HMo.out]; exact signs_more HsN.out hsn
        clear hsn hsX
        obtain ⟨wa, hwa⟩ : ∃ wa, wa = wr.alloc (.cells #[.int .i64 (13)] 3) := ⟨_, rfl⟩
        have HIa : Hid (InT G w3 wa (.slice none 0 0) v) := by unfold Hid; rw [hwa]; exact HI.out.alloc _
        have HOa : Hid (wa.ownsRow (G + 1) 3 1 v cs.length (cs.map (Value.int .i64))) := by unfold Hid; rw [hwa]; exact HO.out.alloc _
        have HCa : Hid (∀ k u, ([Value.int .i64 (13)] : List Value)[k]? = some u → wa.cell? ((⟨wr.heap.size, 0, none⟩ : Addr).add k) = some u) := by unfold Hid; rw [hwa]; exact cell_one_new _ _ _
        go_wp2_with (first | (at_builtin; rw [← hwa]; refine wpList_append_own_at _ rfl (.tmp 108) (.tmp 109) 23 rfl (G + 1) 3 i0 (.int .i64 0) 1 8 Tryz.underlying23 hi hz0 hz1 hz2 rfl (by decide) v cs.length (cs.map (Value.int .i64)) rfl HOa.out ⟨wr.heap.size, 0, none⟩ 1 1 [.int .i64 (13)] rfl rfl HCa.out ?d2 ?d3 ?d4 ?d5 ?_))
        case d2 => first | rfl | (intro y hy; simp at hy; subst hy; rfl)
        case d3 => unfold maxLen; omega
        case d4 => omega
        case d5 => have := HIa.out.2.2; omega
        intro v' w' hown hgrow _ hat
        rw [← hwa] at hgrow
        clear hwa
        obtain ⟨o', n', c', rfl⟩ := own_slice hown
        have HIb : Hid (InT G w3 w' (.slice none 0 0) v) := HIa.out.grown hgrow (fun k hk => by have := (row_at HOa.out k hk).1; omega)
        have HIc : Hid (InT G w3 (w'.setCell ⟨G, 1, none⟩ (.slice o' n' c')) (.slice none 0 0) (.slice o' n' c')) := HIb.out.set1 _
        have HOc : Hid ((w'.setCell ⟨G, 1, none⟩ (.slice o' n' c')).ownsRow (G + 1) 3 1 (.slice o' n' c') (cs ++ [13]).length ((cs ++ [13]).map (Value.int .i64))) := ownsRow_setT (by rw [List.map_append, List.length_append]; exact hown) (by omega)
        clear hown hgrow hat p0 p1 f1 d0
        have p1 : w'.cell? ⟨G, 1, none⟩ = some v := HIb.out.1.cell 1
        have f1 : w'.frozen? ⟨G, 1, none⟩ = false := HIb.out.1.frozen 1
        go_wp2_with fail
        go_roundw
        case rel => exact ⟨j + 1, cs ++ [13], .slice o' n' c', by omega, by omega, by go_num, HIc.out, HOc.out, HSg.out, by have := HCl.out; simp; omega⟩
        case measure => simp [intOf]; omega
      have Q0 : (X.toList == [97, 110, 100]) = false := by rw [hX]; exact q_no q0
      have Q1 : (X.toList == [111, 114]) = false := by rw [hX]; exact q_no q1
      have Q2 : (X.toList == [110, 111]) = false := by rw [hX]; exact q_no q2
      have Q3 : (X.toList == [116, 104, 101, 110]) = false := by rw [hX]; exact q_no q3
      by_cases h1 : l.length = 1
      · obtain ⟨b, hb⟩ : ∃ b, l = [b] := by
          match l, h1 with
          | [b], _ => exact ⟨b, rfl⟩
        have hX0 : 0 < X.size := by omega
        have hXb : X[0]'hX0 = b := at_byte (l := l) (by rw [hX, strOf_list]) hX0 (by rw [hb]; rfl)
        have hX1 : ((X.size : Int) != 1) = false := by simp; omega
        have hX2 : (X.size : Int) = 1 := by omega
        have hX3 : (0 : Int) < (X.size : Int) := by omega
        by_cases h2 : b.toNat < 48
        · have hsn : signN l = none := by
            unfold signN
            rw [if_neg q0, if_neg q1, if_neg q2, if_neg q3, if_neg]
            rintro ⟨_, h, _⟩
            rw [hb] at h
            have : 48 ≤ b.toNat := h
            omega
          have k1 : ((X[0]'hX0).toNat : Int) < 48 := by rw [hXb]; omega
          clear hb hXb
          have HNo : Hid (signsN R = none) := by unfold Hid; rw [HRd.out]; exact signs_stop HMe.out hsn
          clear q0 q1 q2 q3 hX hsn
          obtain ⟨hBw, hRw, _, _⟩ := HXW.out wr HI.out.2.1
          have HBw : Hid (Below w.heap.size w wr) := hBw
          have HRw : Hid (Blk wr w.heap.size 25 #[.slice none 0 0, .slice none 0 0]) := hRw
          clear hBw hRw
          have r0 : wr.cell? ⟨w.heap.size, 0, none⟩ = some (.slice none 0 0) := HRw.out.cell 0
          have r1 : wr.cell? ⟨w.heap.size, 1, none⟩ = some (.slice none 0 0) := HRw.out.cell 1
          have g0 : wr.frozen? ⟨w.heap.size, 0, none⟩ = false := HRw.out.frozen 0
          have g1 : wr.frozen? ⟨w.heap.size, 1, none⟩ = false := HRw.out.frozen 1
          go_wp2
          have hB2 := (HRw.out.set 0 (.slice none 0 0)).set 1 (.slice none 0 0)
          have hld := load_formT hB2
          refine bodyPost_ret (v := .tuple #[.agg #[.slice none 0 0, .slice none 0 0], .int .i64 2]) ?_ rfl ⟨_, _, 2, rfl, (HBw.out.setCell (by simp) _).setCell (by simp) _, .inl ⟨HNo.out, rfl, rfl, rfl⟩⟩
          rw [results_cell_tmp rfl]
          simp [asAddr, Result.andThen, hld]
        by_cases h3 : 57 < b.toNat
        · have hsn : signN l = none := by
            unfold signN
            rw [if_neg q0, if_neg q1, if_neg q2, if_neg q3, if_neg]
            rintro ⟨_, _, h⟩
            rw [hb] at h
            have : b.toNat ≤ 57 := h
            omega
          have k1 : ¬ ((X[0]'hX0).toNat : Int) < 48 := by rw [hXb]; omega
          have k2 : 57 < ((X[0]'hX0).toNat : Int) := by rw [hXb]; omega
          clear hb hXb
          have HNo : Hid (signsN R = none) := by unfold Hid; rw [HRd.out]; exact signs_stop HMe.out hsn
          clear q0 q1 q2 q3 hX hsn
          obtain ⟨hBw, hRw, _, _⟩ := HXW.out wr HI.out.2.1
          have HBw : Hid (Below w.heap.size w wr) := hBw
          have HRw : Hid (Blk wr w.heap.size 25 #[.slice none 0 0, .slice none 0 0]) := hRw
          clear hBw hRw
          have r0 : wr.cell? ⟨w.heap.size, 0, none⟩ = some (.slice none 0 0) := HRw.out.cell 0
          have r1 : wr.cell? ⟨w.heap.size, 1, none⟩ = some (.slice none 0 0) := HRw.out.cell 1
          have g0 : wr.frozen? ⟨w.heap.size, 0, none⟩ = false := HRw.out.frozen 0
          have g1 : wr.frozen? ⟨w.heap.size, 1, none⟩ = false := HRw.out.frozen 1
          go_wp2
          have hB2 := (HRw.out.set 0 (.slice none 0 0)).set 1 (.slice none 0 0)
          have hld := load_formT hB2
          refine bodyPost_ret (v := .tuple #[.agg #[.slice none 0 0, .slice none 0 0], .int .i64 2]) ?_ rfl ⟨_, _, 2, rfl, (HBw.out.setCell (by simp) _).setCell (by simp) _, .inl ⟨HNo.out, rfl, rfl, rfl⟩⟩
          rw [results_cell_tmp rfl]
          simp [asAddr, Result.andThen, hld]
        have hsn : signN l = some ((b.toNat : Int) - 48) := by
          unfold signN
          rw [if_neg q0, if_neg q1, if_neg q2, if_neg q3, if_pos]
          · rw [hb]; rfl
          · rw [hb]; exact ⟨rfl, by show 48 ≤ b.toNat; omega, by show b.toNat ≤ 57; omega⟩
        have k1 : ¬ ((X[0]'hX0).toNat : Int) < 48 := by rw [hXb]; omega
        have k2 : ¬ 57 < ((X[0]'hX0).toNat : Int) := by rw [hXb]; omega
        obtain ⟨B, hB⟩ : ∃ B, B = (b.toNat : Int) - 48 := ⟨_, rfl⟩
        have e1 : IntKind.i64.wrap ((X[0]'hX0).toNat : Int) = ((X[0]'hX0).toNat : Int) := by rw [IntKind.wrap_i64]; have := (X[0]'hX0).toNat_lt; omega
        have e2 : IntKind.i64.wrap (((X[0]'hX0).toNat : Int) - 48) = B := by rw [IntKind.wrap_i64, hXb, hB]; have := b.toNat_lt; omega
        rw [← hB] at hsn
        have HSg : Hid (signsN ((W.take (j + 1)).drop 1) = some (cs ++ [B])) := by unfold Hid; rw [HMo.out]; exact signs_more HsN.out hsn
        clear q0 q1 q2 q3 hX hsn hb hXb hB
        have h63 : cs.length + 1 ≤ maxLen := by unfold maxLen; omega
        have hby : (cs.length + 1) * 8 ≤ 140737488355328 := by omega
        have hbs : G + 1 ≤ wr.heap.size + 1 := by have := HI.out.2.2; omega
        have hGl : G < wr.heap.size + 1 := by omega
        have hWl : gW < wr.heap.size + 1 := by have := World.block_lt_of_cell? _ _ d0; simp at this; omega
        have HNr : Hid (∀ k, v.ownBlock = some k → G < k) := fun k hk => by have := (row_at HO.out k hk).1; omega
        have HRw : Hid (∀ b, b < G + 1 → v.ownBlock ≠ some b) := fun b hb e => by have := HNr.out b e; omega
        have neG : some G ≠ v.ownBlock := (HRw.out G (by omega)).symm
        have neW : some gW ≠ v.ownBlock := (HRw.out gW (by have := HgW.out; omega)).symm
        have HFz : Hid (∀ o, (wr.alloc o).drew.frozen? ⟨G, 1, none⟩ = false) := fun o => ((HI.out.alloc o).1.drew).frozen 1
        have neA : (⟨G, 1, none⟩ : Addr) ≠ ⟨gW, j, none⟩ := fun e => by have := HgW.out; injection e with e1; omega
        have hcz : (wr.alloc (.cells #[.int .i64 B] 3)).cell? ⟨G, 1, none⟩ = some v := (HI.out.alloc _).1.cell 1
        have hfz : (wr.alloc (.cells #[.int .i64 B] 3)).frozen? ⟨G, 1, none⟩ = false := (HI.out.alloc _).1.frozen 1
        go_upto_region 15 with fail
        go_region_law ((refine step_append_lies _ (by rfl) _ _ _ (by rfl) (G + 1) 3 i0 (.int .i64 0) 1 8 Tryz.underlying23 hi hz0 hz1 hz2 rfl (by decide) v cs.length (cs.map (Value.int .i64)) (by rfl) ((HO.out.alloc _).drew) ⟨wr.heap.size, 0, none⟩ 1 1 [.int .i64 B] (by rfl) (by rfl) (World.news_of_block (cs := #[.int .i64 B]) (t := 3) (fr := (0, 0)) (heap_alloc_new wr _)) (by simp [Value.oneCell']) (by omega) h63 hby (by simp; omega) (wr.heap.size + 1) (by simp) ?_; intro gg cap w' hown hgrow hat hlt2; have hfw : w'.frozen? ⟨G, 1, none⟩ = false := (hgrow.frozen_far ⟨G, 1, none⟩ (by simp; omega) neG).trans hfz; have hcw : w'.cell? ⟨G, 1, none⟩ = some v := (hgrow.cell_far ⟨G, 1, none⟩ (by simp; omega) neG).trans hcz))
        all_goals have HIb : Hid (InT G w3 w' (.slice none 0 0) v) := InT.grown (InT.drewT (HI.out.alloc _)) hgrow (fun k hk => HNr.out k hk)
        all_goals have HIc : Hid (InT G w3 (w'.setCell ⟨G, 1, none⟩ (.slice (some ⟨gg, 0, none⟩) (cs.length + 1) cap)) (.slice none 0 0) (.slice (some ⟨gg, 0, none⟩) (cs.length + 1) cap)) := HIb.out.set1 _
        all_goals have HOc : Hid ((w'.setCell ⟨G, 1, none⟩ (.slice (some ⟨gg, 0, none⟩) (cs.length + 1) cap)).ownsRow (G + 1) 3 1 (.slice (some ⟨gg, 0, none⟩) (cs.length + 1) cap) (cs ++ [B]).length ((cs ++ [B]).map (Value.int .i64))) := ownsRow_setT (by rw [List.map_append, List.length_append]; exact hown) (by omega)
        all_goals clear hown hgrow hat hlt2 hfw hcw
        all_goals (try go_wp2_with fail)
        all_goals (go_roundw <;> first | exact ⟨j + 1, cs ++ [B], .slice (some ⟨gg, 0, none⟩) (cs.length + 1) cap, by omega, by omega, by go_num, HIc.out, HOc.out, HSg.out, by have := HCl.out; simp; omega⟩ | (simp [intOf]; omega))
      · have hsn : signN l = none := by
          unfold signN
          rw [if_neg q0, if_neg q1, if_neg q2, if_neg q3, if_neg]
          exact fun h => h1 h.1
        have hX1 : ((X.size : Int) != 1) = true := by simp; omega
        have hX2 : ¬ (X.size : Int) = 1 := by omega
        have HNo : Hid (signsN R = none) := by unfold Hid; rw [HRd.out]; exact signs_stop HMe.out hsn
        clear q0 q1 q2 q3 hX hsn
        obtain ⟨hBw, hRw, _, _⟩ := HXW.out wr HI.out.2.1
        have HBw : Hid (Below w.heap.size w wr) := hBw
        have HRw : Hid (Blk wr w.heap.size 25 #[.slice none 0 0, .slice none 0 0]) := hRw
        clear hBw hRw
        have r0 : wr.cell? ⟨w.heap.size, 0, none⟩ = some (.slice none 0 0) := HRw.out.cell 0
        have r1 : wr.cell? ⟨w.heap.size, 1, none⟩ = some (.slice none 0 0) := HRw.out.cell 1
        have g0 : wr.frozen? ⟨w.heap.size, 0, none⟩ = false := HRw.out.frozen 0
        have g1 : wr.frozen? ⟨w.heap.size, 1, none⟩ = false := HRw.out.frozen 1
        go_wp2
        have hB2 := (HRw.out.set 0 (.slice none 0 0)).set 1 (.slice none 0 0)
        have hld := load_formT hB2
        refine bodyPost_ret (v := .tuple #[.agg #[.slice none 0 0, .slice none 0 0], .int .i64 2]) ?_ rfl ⟨_, _, 2, rfl, (HBw.out.setCell (by simp) _).setCell (by simp) _, .inl ⟨HNo.out, rfl, rfl, rfl⟩⟩
        rw [results_cell_tmp rfl]
        simp [asAddr, Result.andThen, hld]
    · obtain rfl : j = nW := by omega
      have HsA : Hid (signsN R = some cs) := by
        unfold Hid
        rw [HRd.out]
        have h := HsN.out
        rw [HnW.out, List.take_length] at h
        exact h
      clear p0 p1 f1
      have HvC : Hid (∃ oC nC cC, v = .slice oC nC cC) := own_slice HO.out
      obtain ⟨oC, nC, cC, rfl⟩ := HvC.out
      clear HvC HsN
      go_wp2_with fail
      go_loopw [9] (fun i wr => ∃ (k : Nat) (va : Value) (xs : List Value), k ≤ m ∧ i = .int .i64 k ∧ InT G w3 wr va (.slice oC nC cC) ∧ wr.ownsRow (G + 1) 3 1 (.slice oC nC cC) cs.length (cs.map (Value.int .i64)) ∧ wr.ownsRow (G + 1) 40 4 va k xs ∧ (∀ (i : Nat) (a : At), ((L.take k).map atOf)[i]? = some a → AtT (G + 1) wr xs i a va) ∧ linesFault (L.take k) = 0 ∧ ((Value.slice oC nC cC).ownBlock = none ∨ (Value.slice oC nC cC).ownBlock ≠ va.ownBlock)) (fun i _ => m - (intOf i).toNat)
      case atStart => exact ⟨0, .slice none 0 0, [], Nat.zero_le _, rfl, HI.out, HO.out, World.ownsRow_nil _ _ _ _, fun i a h => by simp at h, rfl, apart_nil _⟩
      case round =>
        obtain ⟨k, va, xs, hk, rfl, hI2, hO2, hA2, hAt, hLf, hAp⟩ := hrel
        have HI2 : Hid (InT G w3 wr va (.slice oC nC cC)) := hI2
        have HO2 : Hid (wr.ownsRow (G + 1) 3 1 (.slice oC nC cC) cs.length (cs.map (Value.int .i64))) := hO2
        have HA2 : Hid (wr.ownsRow (G + 1) 40 4 va k xs) := hA2
        have HAt : Hid (∀ (i : Nat) (a : At), ((L.take k).map atOf)[i]? = some a → AtT (G + 1) wr xs i a va) := hAt
        have HLf : Hid (linesFault (L.take k) = 0) := hLf
        have HAp : Hid ((Value.slice oC nC cC).ownBlock = none ∨ (Value.slice oC nC cC).ownBlock ≠ va.ownBlock) := hAp
        clear hI2 hO2 hA2 hAt hLf hAp
        obtain ⟨oA, nA, cA, rfl⟩ := own_slice HA2.out
        obtain ⟨hBw, hRw, hLw, _⟩ := HXW.out wr HI2.out.2.1
        have HBw : Hid (Below w.heap.size w wr) := hBw
        have HRw : Hid (Blk wr w.heap.size 25 #[.slice none 0 0, .slice none 0 0]) := hRw
        have HLw : Hid (∀ k, k < m + 2 → wr.cell? ⟨gL, k, none⟩ = some (.string (strOf (L.getD k [])))) := hLw
        clear hBw hRw hLw
        by_cases hlt : k < m
        · have hlt' : (k : Int) < (m : Int) := by omega
          have k0 : (0 : Int) ≤ (k : Int) := by omega
          obtain ⟨l, hl⟩ : ∃ l, l = L.getD k [] := ⟨_, rfl⟩
          obtain ⟨X, hX⟩ : ∃ X, X = strOf l := ⟨_, rfl⟩
          have d0 : wr.cell? ⟨gL, k, none⟩ = some (.string X) := by rw [hX, hl]; exact HLw.out k (by omega)
          have hRA : Calls Tryz.prog 22 #[.string X] wr (AnswersN (cutL l) wr) := by rw [hX, hl]; exact HRA.out k hlt wr
          have HRk : Hid (Calls Tryz.prog 22 #[.string X] wr (AnswersN (cutL l) wr)) := hRA
          have HTk : Hid (L.take (k + 1) = L.take k ++ [l]) := by
            have hkl : k < L.length := by rw [HLm.out]; omega
            unfold Hid
            rw [List.take_succ_eq_append_getElem hkl, hl, List.getD_eq_getElem?_getD, List.getElem?_eq_getElem hkl]
            rfl
          have HlG : Hid (l = (L.take m).getD k []) := by
            unfold Hid
            rw [hl, List.getD_eq_getElem?_getD, List.getD_eq_getElem?_getD, List.getElem?_take_of_lt hlt]
          clear hRA hX hl
          go_wp2_with fail
          go_at_call 22
          refine HRk.out.mono ?_
          rintro e w5 ⟨a, rfl, hgood, hbad, hb5⟩
          have HI5 : Hid (InT G w3 w5 (.slice oA nA cA) (.slice oC nC cC)) := HI2.out.below hb5
          have HO5 : Hid (w5.ownsRow (G + 1) 3 1 (.slice oC nC cC) cs.length (cs.map (Value.int .i64))) := ownsRow_belowT HO2.out hb5
          have HA5 : Hid (w5.ownsRow (G + 1) 40 4 (.slice oA nA cA) k xs) := ownsRow_belowT HA2.out hb5
          have HAt5 : Hid (∀ (i : Nat) (a : At), ((L.take k).map atOf)[i]? = some a → AtT (G + 1) w5 xs i a (.slice oA nA cA)) := fun i a h => (HAt.out i a h).below hb5
          have HB5 : Hid (Below w.heap.size w w5) := HBw.out.trans (hb5.mono HBw.out.size)
          have HR5 : Hid (Blk w5 w.heap.size 25 #[.slice none 0 0, .slice none 0 0]) := HRw.out.below hb5
          have Hs5 : Hid (wr.heap.size ≤ w5.heap.size) := hb5.size
          have HrA : Hid (∀ q, (Value.slice oA nA cA).ownBlock = some q → q < wr.heap.size) := fun q hq => (row_at HA2.out q hq).2
          clear hb5 d0
          by_cases hf : lineFault l = 0
          · obtain ⟨v0, v1, rfl, r0, r1, n0, n1⟩ := hgood hf
            have ef : wordsFault (cutL l) = 0 := hf
            rw [ef]
            obtain ⟨b0, m0', c0, rfl, n0'⟩ := n0
            obtain ⟨b1, m1', c1, rfl, n1'⟩ := n1
            obtain ⟨K0, hK0⟩ : ∃ K, K = wordsKind (cutL l) := ⟨_, rfl⟩
            obtain ⟨N0, hN0⟩ : ∃ N, N = wordsN (wordsKind (cutL l)) (cutL l) := ⟨_, rfl⟩
            have HNew : Hid ((Reads w5 (.slice b0 m0' c0) (atOf l).s ∧ NewV wr.heap.size (.slice b0 m0' c0)) ∧ (Reads w5 (.slice b1 m1' c1) (atOf l).t ∧ NewV wr.heap.size (.slice b1 m1' c1)) ∧ (atOf l).k = K0 ∧ (atOf l).n = N0) := ⟨⟨r0, ⟨b0, m0', c0, rfl, n0'⟩⟩, ⟨r1, ⟨b1, m1', c1, rfl, n1'⟩⟩, by rw [hK0]; rfl, by rw [hN0]; rfl⟩
            have HLf2 : Hid (linesFault (L.take (k + 1)) = 0) := by unfold Hid; rw [HTk.out, lines_more HLf.out]; exact hf
            rw [← hN0, ← hK0]
            clear hgood hbad ef hf r0 r1 n0' n1' hK0 hN0
            obtain ⟨w6, hw6⟩ : ∃ x, x = w5.alloc (.cells #[.int .i64 K0, .slice b0 m0' c0, .slice b1 m1' c1, .int .i64 N0] 40) := ⟨_, rfl⟩
            obtain ⟨GA, hGA⟩ : ∃ G, G = w5.heap.size := ⟨_, rfl⟩
            have HI6 : Hid (InT G w3 w6 (.slice oA nA cA) (.slice oC nC cC)) := by unfold Hid; rw [hw6]; exact HI5.out.alloc _
            have HO6 : Hid (w6.ownsRow (G + 1) 3 1 (.slice oC nC cC) cs.length (cs.map (Value.int .i64))) := by unfold Hid; rw [hw6]; exact HO5.out.alloc _
            have HA6 : Hid (w6.ownsRow (G + 1) 40 4 (.slice oA nA cA) k xs) := by unfold Hid; rw [hw6]; exact HA5.out.alloc _
            have HW6 : Hid (Below w5.heap.size w5 w6) := by unfold Hid; rw [hw6]; exact below_alloc1 _ _
            have HGA : Hid (Blk w6 GA 40 #[.int .i64 K0, .slice b0 m0' c0, .slice b1 m1' c1, .int .i64 N0]) := by unfold Hid; rw [hw6, hGA]; exact Blk.new _ _ _
            go_upto_region 28 with fail
            rw [← hw6, ← hGA]
            clear hw6 hGA
            have p0 : w6.cell? ⟨G, 0, none⟩ = some (.slice oA nA cA) := HI6.out.1.cell 0
            have y0 : w6.cell? ⟨GA, 0, none⟩ = some (.int .i64 K0) := HGA.out.cell 0
            have y1 : w6.cell? ⟨GA, 1, none⟩ = some (.slice b0 m0' c0) := HGA.out.cell 1
            have y2 : w6.cell? ⟨GA, 2, none⟩ = some (.slice b1 m1' c1) := HGA.out.cell 2
            have y3 : w6.cell? ⟨GA, 3, none⟩ = some (.int .i64 N0) := HGA.out.cell 3
            obtain ⟨wa, hwa⟩ : ∃ wa, wa = w6.alloc (.cells #[.int .i64 K0, .slice b0 m0' c0, .slice b1 m1' c1, .int .i64 N0] 40) := ⟨_, rfl⟩
            have HIa : Hid (InT G w3 wa (.slice oA nA cA) (.slice oC nC cC)) := by unfold Hid; rw [hwa]; exact HI6.out.alloc _
            have HOa : Hid (wa.ownsRow (G + 1) 3 1 (.slice oC nC cC) cs.length (cs.map (Value.int .i64))) := by unfold Hid; rw [hwa]; exact HO6.out.alloc _
            have HAa : Hid (wa.ownsRow (G + 1) 40 4 (.slice oA nA cA) k xs) := by unfold Hid; rw [hwa]; exact HA6.out.alloc _
            have HWa : Hid (Below w5.heap.size w5 wa) := by unfold Hid; rw [hwa]; exact HW6.out.alloc HW6.out.size _
            have HCa : Hid (∀ q u, ([.int .i64 K0, .slice b0 m0' c0, .slice b1 m1' c1, .int .i64 N0] : List Value)[q]? = some u → wa.cell? ((⟨w6.heap.size, 0, none⟩ : Addr).add q) = some u) := by unfold Hid; rw [hwa]; exact World.news_of_block (cs := #[.int .i64 K0, .slice b0 m0' c0, .slice b1 m1' c1, .int .i64 N0]) (t := 40) (fr := (0, 0)) (heap_alloc_new w6 _)
            go_wp2_with (first | (at_builtin; rw [← hwa]; refine wpList_append_own_at _ rfl (.tmp 130) (.tmp 132) 22 rfl (G + 1) 40 iA (.agg #[.int .i64 0, .slice none 0 0, .slice none 0 0, .int .i64 0]) 4 64 Tryz.underlying22 hiA hA0 hA1 hA2 rfl (by decide) (.slice oA nA cA) k xs rfl HAa.out ⟨w6.heap.size, 0, none⟩ 1 1 [.int .i64 K0, .slice b0 m0' c0, .slice b1 m1' c1, .int .i64 N0] rfl rfl HCa.out ?e2 ?e3 ?e4 ?e5 ?_))
            case e2 => intro u hu; simp at hu; rcases hu with rfl | rfl | rfl | rfl <;> rfl
            case e3 => unfold maxLen; omega
            case e4 => omega
            case e5 => have := HIa.out.2.2; omega
            intro v' w' hown hgrow _ hat
            rw [← hwa] at hgrow
            have hwas : wa.heap.size = w6.heap.size + 1 := by rw [hwa]; simp
            have hat' : v'.ownBlock = (Value.slice oA nA cA).ownBlock ∨ v'.ownBlock = some wa.heap.size := by
              rcases hat with h | h
              · exact Or.inl h
              · right; rw [h]; first | rfl | rw [hwas]
            clear hwa hat hwas
            obtain ⟨o', n', c', rfl⟩ := own_slice hown
            have HIb : Hid (InT G w3 w' (.slice oA nA cA) (.slice oC nC cC)) := HIa.out.grown hgrow (fun q hq => by have := (row_at HAa.out q hq).1; omega)
            have HIc : Hid (InT G w3 (w'.setCell ⟨G, 0, none⟩ (.slice o' n' c')) (.slice o' n' c') (.slice oC nC cC)) := HIb.out.set0 _
            have HOc : Hid ((w'.setCell ⟨G, 0, none⟩ (.slice o' n' c')).ownsRow (G + 1) 3 1 (.slice oC nC cC) cs.length (cs.map (Value.int .i64))) := ownsRow_setT (HOa.out.kept hgrow HAp.out) (by omega)
            have HAc : Hid ((w'.setCell ⟨G, 0, none⟩ (.slice o' n' c')).ownsRow (G + 1) 40 4 (.slice o' n' c') (k + 1) (xs ++ [.int .i64 K0, .slice b0 m0' c0, .slice b1 m1' c1, .int .i64 N0])) := ownsRow_setT hown (by omega)
            have HAp2 : Hid ((Value.slice oC nC cC).ownBlock = none ∨ (Value.slice oC nC cC).ownBlock ≠ (Value.slice o' n' c').ownBlock) := by
              unfold Hid
              rcases hat' with h | h
              · rw [h]; exact HAp.out
              · rw [h]
                cases hq : (Value.slice oC nC cC).ownBlock with
                | none => exact Or.inl rfl
                | some q =>
                  have := (row_at HOa.out q hq).2
                  exact Or.inr fun e => by have e2 : q = wa.heap.size := Option.some.inj e; omega
            have HAt2 : Hid (∀ (i : Nat) (a : At), ((L.take (k + 1)).map atOf)[i]? = some a → AtT (G + 1) (w'.setCell ⟨G, 0, none⟩ (.slice o' n' c')) (xs ++ [.int .i64 K0, .slice b0 m0' c0, .slice b1 m1' c1, .int .i64 N0]) i a (.slice o' n' c')) := by
              have hxl : xs.length = k * 4 := HAa.out.1
              have hll : ((L.take k).map atOf).length = k := by rw [List.length_map, List.length_take, HLm.out]; omega
              have keep : ∀ (v : Value) (t : List Int), Reads w5 v t → NewV (G + 1) v → Apart v t (.slice oA nA cA) → Reads (w'.setCell ⟨G, 0, none⟩ (.slice o' n' c')) v t ∧ NewV (G + 1) v ∧ Apart v t (.slice o' n' c') := fun v t h1 h2 h3 =>
                ⟨((h1.below HWa.out).keptT hgrow h3).storeNew h2 (by omega), h2, h3.more (h1.below HWa.out) (Nat.le_refl _) hat'⟩
              intro i a ha
              rw [HTk.out, List.map_append] at ha
              rcases Nat.lt_or_ge i k with hi' | hi'
              · rw [List.getElem?_append_left (by rw [hll]; exact hi')] at ha
                obtain ⟨vs, vt, ⟨e1, e2, e3, e4⟩, ⟨f1, f2, f3⟩, g1, g2, g3⟩ := HAt5.out i a ha
                exact ⟨vs, vt, ⟨by rw [List.getElem?_append_left (by omega)]; exact e1, by rw [List.getElem?_append_left (by omega)]; exact e2, by rw [List.getElem?_append_left (by omega)]; exact e3, by rw [List.getElem?_append_left (by omega)]; exact e4⟩, keep _ _ f1 f2 f3, keep _ _ g1 g2 g3⟩
              · rw [List.getElem?_append_right (by rw [hll]; exact hi'), hll] at ha
                obtain rfl : i = k := by
                  rcases Nat.lt_or_ge 0 (i - k) with h | h
                  · rw [List.getElem?_eq_none (by simp; omega)] at ha; cases ha
                  · omega
                rw [Nat.sub_self] at ha
                have ea : atOf l = a := by simpa using ha
                subst ea
                obtain ⟨⟨h1, h2⟩, ⟨h3, h4⟩, h5, h6⟩ := HNew.out
                have hG : G + 1 ≤ wr.heap.size := HI2.out.2.2
                refine ⟨_, _, ⟨?_, ?_, ?_, ?_⟩, keep _ _ h1 (newV_mono h2 hG) (Apart.new h2 HrA.out), keep _ _ h3 (newV_mono h4 hG) (Apart.new h4 HrA.out)⟩
                · rw [List.getElem?_append_right (by omega), hxl, Nat.sub_self, h5]; rfl
                · rw [List.getElem?_append_right (by omega), hxl, show i * 4 + 1 - i * 4 = 1 by omega]; rfl
                · rw [List.getElem?_append_right (by omega), hxl, show i * 4 + 2 - i * 4 = 2 by omega]; rfl
                · rw [List.getElem?_append_right (by omega), hxl, show i * 4 + 3 - i * 4 = 3 by omega, h6]; rfl
            clear hown hgrow hat' p0 y0 y1 y2 y3
            have p0 : w'.cell? ⟨G, 0, none⟩ = some (.slice oA nA cA) := HIb.out.1.cell 0
            have f0 : w'.frozen? ⟨G, 0, none⟩ = false := HIb.out.1.frozen 0
            go_wp2_with fail
            go_roundw
            case rel => exact ⟨k + 1, .slice o' n' c', _, by omega, by go_num, HIc.out, HOc.out, HAc.out, HAt2.out, HLf2.out, HAp2.out⟩
            case measure => simp [intOf]; omega
          · obtain rfl := hbad hf
            have HFl : Hid (¬ linesFault (L.take m) = 0 ∧ wordsFault (cutL l) = linesFault (L.take m)) := by
              have h1 : linesFault ((L.take m).take k) = 0 := by rw [List.take_take, Nat.min_eq_left (by omega)]; exact HLf.out
              have h2 := lines_stop (L := L.take m) (k := k) (by rw [List.length_take, HLm.out]; omega) h1 (by rw [← HlG.out]; exact hf)
              rw [← HlG.out] at h2
              exact ⟨by rw [h2]; exact hf, h2.symm⟩
            have hq : ¬ wordsFault (cutL l) = 0 := hf
            obtain ⟨F, hF⟩ : ∃ F, F = wordsFault (cutL l) := ⟨_, rfl⟩
            rw [← hF] at hq ⊢
            have HFF : Hid (F = linesFault (L.take m)) := by unfold Hid; rw [hF]; exact HFl.out.2
            have hq2 : (F != 0) = true := by simpa using hq
            clear hgood hbad hf hF
            obtain ⟨w6, hw6⟩ : ∃ x, x = w5.alloc (.cells #[.int .i64 0, .slice none 0 0, .slice none 0 0, .int .i64 0] 40) := ⟨_, rfl⟩
            have HB6 : Hid (Below w.heap.size w w6) := by unfold Hid; rw [hw6]; exact HB5.out.alloc HB5.out.size _
            have HR6 : Hid (Blk w6 w.heap.size 25 #[.slice none 0 0, .slice none 0 0]) := by unfold Hid; rw [hw6]; exact HR5.out.old _
            go_upto_region 28 with fail
            rw [← hw6]
            clear hw6
            have r0 : w6.cell? ⟨w.heap.size, 0, none⟩ = some (.slice none 0 0) := HR6.out.cell 0
            have r1 : w6.cell? ⟨w.heap.size, 1, none⟩ = some (.slice none 0 0) := HR6.out.cell 1
            have g0 : w6.frozen? ⟨w.heap.size, 0, none⟩ = false := HR6.out.frozen 0
            have g1 : w6.frozen? ⟨w.heap.size, 1, none⟩ = false := HR6.out.frozen 1
            go_wp2
            have hB2 := (HR6.out.set 0 (.slice none 0 0)).set 1 (.slice none 0 0)
            have hld := load_formT hB2
            refine bodyPost_ret (v := .tuple #[.agg #[.slice none 0 0, .slice none 0 0], .int .i64 F]) ?_ rfl ⟨_, _, F, rfl, (HB6.out.setCell (by simp) _).setCell (by simp) _, .inr ⟨cs, HsA.out, .inl ⟨HFl.out.1, HFF.out, rfl, rfl⟩⟩⟩
            rw [results_cell_tmp rfl]
            simp [asAddr, Result.andThen, hld]
        · obtain rfl : k = m := by omega
          have HRdA : Hid (ReadsA wr (.slice oA nA cA) ((L.take k).map atOf)) := own_readsA HA2.out (by rw [List.length_map, List.length_take, HLm.out]; omega) (fun i a h => (HAt.out i a h).to) (by omega)
          have HRdC : Hid (Reads wr (.slice oC nC cC) cs) := own_readsI HO2.out (by omega)
          obtain ⟨F, hF⟩ : ∃ F, F = formFault ((L.take k).map atOf) cs := ⟨_, rfl⟩
          have HFk : Hid (Calls Tryz.prog 6 #[.agg #[.slice oA nA cA, .slice oC nC cC]] wr fun e w' => e = .returned (.int .i64 F) ∧ Below wr.heap.size wr w') := by unfold Hid; rw [hF]; exact HFm.out _ _ _ _ wr HRdA.out HRdC.out
          have HFe : Hid (F = formFault ((L.take k).map atOf) cs) := hF
          clear hF
          have p0 : wr.cell? ⟨G, 0, none⟩ = some (.slice oA nA cA) := HI2.out.1.cell 0
          have p1 : wr.cell? ⟨G, 1, none⟩ = some (.slice oC nC cC) := HI2.out.1.cell 1
          go_wp2_with fail
          go_at_call 6
          refine HFk.out.mono ?_
          rintro e w5 ⟨rfl, hb5⟩
          have HI5 : Hid (InT G w3 w5 (.slice oA nA cA) (.slice oC nC cC)) := HI2.out.below hb5
          have HB5 : Hid (Below w.heap.size w w5) := HBw.out.trans (hb5.mono HBw.out.size)
          have HR5 : Hid (Blk w5 w.heap.size 25 #[.slice none 0 0, .slice none 0 0]) := HRw.out.below hb5
          have HO5 : Hid (w5.ownsRow (G + 1) 3 1 (.slice oC nC cC) cs.length (cs.map (Value.int .i64))) := ownsRow_belowT HO2.out hb5
          have HA5 : Hid (w5.ownsRow (G + 1) 40 4 (.slice oA nA cA) k xs) := ownsRow_belowT HA2.out hb5
          have HAt5 : Hid (∀ (i : Nat) (a : At), ((L.take k).map atOf)[i]? = some a → AtT (G + 1) w5 xs i a (.slice oA nA cA)) := fun i a h => (HAt.out i a h).below hb5
          clear hb5 p0 p1
          have p0 : w5.cell? ⟨G, 0, none⟩ = some (.slice oA nA cA) := HI5.out.1.cell 0
          have p1 : w5.cell? ⟨G, 1, none⟩ = some (.slice oC nC cC) := HI5.out.1.cell 1
          have r0 : w5.cell? ⟨w.heap.size, 0, none⟩ = some (.slice none 0 0) := HR5.out.cell 0
          have r1 : w5.cell? ⟨w.heap.size, 1, none⟩ = some (.slice none 0 0) := HR5.out.cell 1
          have g0 : w5.frozen? ⟨w.heap.size, 0, none⟩ = false := HR5.out.frozen 0
          have g1 : w5.frozen? ⟨w.heap.size, 1, none⟩ = false := HR5.out.frozen 1
          by_cases hF0 : F = 0
          · subst hF0
            go_wp2
            have hB2 := (HR5.out.set 0 (.slice oA nA cA)).set 1 (.slice oC nC cC)
            have hld := load_formT hB2
            have hGw := HGw.out
            refine bodyPost_ret (v := .tuple #[.agg #[.slice oA nA cA, .slice oC nC cC], .int .i64 0]) ?_ rfl ⟨_, _, 0, rfl, (HB5.out.setCell (by simp) _).setCell (by simp) _, .inr ⟨cs, HsA.out, .inr ⟨HLf.out, HFe.out, .inl ⟨rfl, ?_, ?_⟩⟩⟩⟩
            · rw [results_cell_tmp rfl]
              simp [asAddr, Result.andThen, hld]
            · refine own_readsA (ownsRow_setT (ownsRow_setT HA5.out (by omega)) (by omega)) (by rw [List.length_map, List.length_take, HLm.out]; omega) (fun i a h => ?_) (by omega)
              obtain ⟨vs, vt, ⟨e1, e2, e3, e4⟩, ⟨f1, f2, _⟩, q1, q2, _⟩ := HAt5.out i a h
              exact ⟨vs, vt, e1, e2, e3, e4, (f1.storeNew f2 (by omega)).storeNew f2 (by omega), (q1.storeNew q2 (by omega)).storeNew q2 (by omega)⟩
            · exact own_readsI (ownsRow_setT (ownsRow_setT HO5.out (by omega)) (by omega)) (by omega)
          · have hq2 : (F != 0) = true := by simpa using hF0
            go_wp2
            have hB2 := (HR5.out.set 0 (.slice none 0 0)).set 1 (.slice none 0 0)
            have hld := load_formT hB2
            refine bodyPost_ret (v := .tuple #[.agg #[.slice none 0 0, .slice none 0 0], .int .i64 F]) ?_ rfl ⟨_, _, F, rfl, (HB5.out.setCell (by simp) _).setCell (by simp) _, .inr ⟨cs, HsA.out, .inr ⟨HLf.out, HFe.out, .inr ⟨hF0, rfl, rfl⟩⟩⟩⟩
            rw [results_cell_tmp rfl]
            simp [asAddr, Result.andThen, hld]
end Go.Proofs.YtfnkbbpjfjendaiGreatDoor
