/-
  Facts and contracts that the statement leans on.
-/
import Derived.Test.YtjaedfjfcghgcabGreatDoorLibX22
import Derived.Test.YtjaedfjfcghgcabGreatDoorLibX24
import Derived.Deep.CutRange
import Derived.Deep.CutBlock
import Derived.Test.YtjaedfjfcghgcabGreatDoorLibX6
import Derived.Test.YtjaedfjfcghgcabGreatDoorLibX4
import Derived.Test.YtjaedfjfcghgcabGreatDoorLibX3
import Derived.Maps.AppendAt
import Derived.Deep.AppendLies
import Derived.Test.YtjaedfjfcghgcabGreatDoorLibX21
namespace Go.Proofs.YtjaedfjfcghgcabGreatDoor
open Go.ChangeShapes Go.WideShapes Go.ChangeAt Go.RowKit
set_option maxRecDepth 100000
def WordsLaid (w : World) : Prop := ∀ j : Nat, j < 14 → w.cell? ⟨1, j, none⟩ = some (.string (strOf (signW (j : Int))))
theorem WordsLaid.lt {w : World} (h : WordsLaid w) : 1 < w.heap.size := World.block_lt_of_cell? w ⟨1, 0, none⟩ (h 0 (by decide))
theorem WordsLaid.below {w w' : World} (h : WordsLaid w) (hb : Below w.heap.size w w') : WordsLaid w' := fun j hj => by
 rw [hb.cell (p := ⟨1, j, none⟩) h.lt]; exact h j hj
theorem bld_below {B b : Nat} {l : List UInt8} {W W' : World} (h : Lib.IsBuilder 102 5 B b (Lib.byteCells l) W) (hb : Below W.heap.size W W') : Lib.IsBuilder 102 5 B b (Lib.byteCells l) W' := by
 have key : ∀ {p}, Lib.BuilderAt 102 5 B b p (Lib.byteCells l) W → Lib.BuilderAt 102 5 B b p (Lib.byteCells l) W' := by
  rintro p ⟨hB, v, hbk, hown, hne⟩
  refine ⟨hB, v, ?_, ?_, hne⟩
  ·rw [hb.block b (Array.getElem?_eq_some_iff.1 hbk).1]; exact hbk
  ·obtain ⟨h1, h2⟩ := hown
   refine ⟨h1, ?_⟩
   rcases h2 with h2 | ⟨g, cap, cur, hv, hg, hh, r⟩
   ·exact .inl h2
   ·refine .inr ⟨g, cap, cur, hv, hg, ?_, r⟩
    rw [hb.block g (Array.getElem?_eq_some_iff.1 hh).1]; exact hh
 rcases h with h | h
 ·exact Or.inl (key h)
 ·exact Or.inr (key h)
theorem bwrite_more (B b : Nat) (l m : List UInt8) (s : ByteArray) (hs : s.data.toList = m) (w : World) (h : Lib.IsBuilder 102 5 B b (Lib.byteCells l) w) (hl : l.length + m.length ≤ 1048576) (hB : B ≤ w.heap.size) :
    Calls Tryz.prog 48 #[.pointer (some ⟨b, 0, none⟩), .string s] w fun e w' => (∃ v, e = .returned (.tuple #[.int .i64 v, .nilIface])) ∧ Lib.IsBuilder 102 5 B b (Lib.byteCells (l ++ m)) w' ∧ Below B w w' := by
 have hz : s.size = m.length := by rw [← hs]; exact Array.length_toList.symm
 refine (bwrite_any B b (Lib.byteCells l) s w h (by rw [Lib.byteCells_length]; omega) hB).mono ?_
 rintro e w' ⟨rfl, h1, h2⟩
 refine ⟨⟨_, rfl⟩, Or.inr ?_, h2⟩
 rw [Lib.strCells_eq, hs, ← Lib.byteCells_append] at h1
 exact h1
theorem sign_size : ∀ k : Nat, k < 14 → (signW (k : Int)).length ≤ 4 := by decide
set_option maxHeartbeats 8000000 in
theorem tprint_good (bA oA acap bC oC ccap M nc : Nat) (ats : List At) (c : List Int) (w : World)
    (hM : M = ats.length) (hnc : nc = c.length) (hf : formFault ats c = 0)
    (HCk : Hid (∀ W, Below w.heap.size w W → Calls Tryz.prog 14 #[.agg #[.slice (some ⟨bA, oA, none⟩) M acap, .slice (some ⟨bC, oC, none⟩) nc ccap]] W (Bk W .nilIface)))
    (HAt : Hid (∀ W, Below w.heap.size w W → ∀ (i : Nat) (a : At), ats[i]? = some a → AtomAt W bA (oA + i * 4) a))
    (HCd : Hid (∀ W, Below w.heap.size w W → ∀ k, k < c.length → W.cell? ⟨bC, oC + k, none⟩ = some (.int .i64 (c.getD k 0))))
    (HAp : Hid (∀ W, Below w.heap.size w W → ∀ (i : Nat) (a : At), ats[i]? = some a → ∀ vs vt, Reads W vs a.s → Reads W vt a.t → Calls Tryz.prog 47 #[.agg #[.int .i64 a.k, vs, vt, .int .i64 a.n]] W fun e w' => (∃ T : ByteArray, e = .returned (.tuple #[.string T, .nilIface]) ∧ T.data.toList = a.text ∧ T.size ≤ 100) ∧ Below W.heap.size W w'))
    (HWd : Hid (∀ W, Below w.heap.size w W → WordsLaid W)) :
    Calls Tryz.prog 15 #[.agg #[.slice (some ⟨bA, oA, none⟩) M acap, .slice (some ⟨bC, oC, none⟩) nc ccap]] w (Bk w (.tuple #[.string (strOf (formText ats c)), .nilIface])) := by
 obtain ⟨ha, hc, hfa, hsg, _⟩ := formFault_zero.1 hf
 have hM6 : M ≤ 6 := by omega
 have hn20 : nc ≤ 20 := by omega
 have HSg : Hid (∀ k, k < nc → ∃ n : Nat, c.getD k 0 = (n : Int) ∧ n < 14) := fun k hk => by
  rw [hnc] at hk
  have h := sign_right (by omega : ats.length ≤ 6) (List.all_eq_true.1 hsg (c.getD k 0) (by
   rw [List.getD_eq_getElem?_getD, List.getElem?_eq_getElem hk]
   exact List.getElem_mem hk))
  exact ⟨(c.getD k 0).toNat, by omega, by omega⟩
 have HLt : Hid (∀ k, (linesOf (ats.take k)).length ≤ 606) := fun k => by
  have h := lines_len (ats := ats.take k) fun a h => hfa a (List.mem_of_mem_take h)
  have h2 : (ats.take k).length ≤ 6 := by rw [List.length_take]; omega
  omega
 have HLs : Hid (∀ k, (signsOf (c.take k)).length ≤ 100) := fun k => by
  have h := signs_len (by omega : ats.length ≤ 6) (c := c.take k) (List.all_eq_true.2 fun x hx => List.all_eq_true.1 hsg x (List.mem_of_mem_take hx))
  have h2 : (c.take k).length ≤ 20 := by rw [List.length_take]; omega
  omega
 have HMe := hide hM
 have Hnc := hide hnc
 clear hM hnc hf ha hc hfa hsg
 obtain ⟨w1, hw1⟩ := nm (w.alloc (.cells #[.slice (some ⟨bA, oA, none⟩) M acap, .slice (some ⟨bC, oC, none⟩) nc ccap] 25))
 have HB1 : Hid (Below w.heap.size w w1) := by unfold Hid; rw [hw1]; exact below_alloc1 _ _
 have HP1 : Hid (Blk w1 w.heap.size 25 #[.slice (some ⟨bA, oA, none⟩) M acap, .slice (some ⟨bC, oC, none⟩) nc ccap]) := by unfold Hid; rw [hw1]; exact Blk.new _ _ _
 go_enter Tryz.func15, Tryz.ntmps15
 go_upto_region 1 with fail
 rw [← hw1]
 clear hw1
 have x0 : w1.cell? ⟨w.heap.size, 0, none⟩ = some (.slice (some ⟨bA, oA, none⟩) M acap) := HP1.out.cell 0
 have x1 : w1.cell? ⟨w.heap.size, 1, none⟩ = some (.slice (some ⟨bC, oC, none⟩) nc ccap) := HP1.out.cell 1
 go_wp2_with fail
 go_at_call 14
 refine (HCk.out _ HB1.out).mono ?_
 rintro e w2 ⟨rfl, hb⟩
 have HB2 := hide (HB1.out.trans (hb.mono HB1.out.size))
 have HP2 := hide (HP1.out.below hb)
 clear hb x0 x1
 obtain ⟨w3, hw3⟩ := nm (w2.alloc (.cells #[.pointer none, .slice none 0 0] 102))
 obtain ⟨G, hG⟩ := nm w2.heap.size
 have HB3 : Hid (Below w.heap.size w w3) := by unfold Hid; rw [hw3]; exact HB2.out.alloc HB2.out.size _
 have HP3 : Hid (Blk w3 w.heap.size 25 #[.slice (some ⟨bA, oA, none⟩) M acap, .slice (some ⟨bC, oC, none⟩) nc ccap]) := by unfold Hid; rw [hw3]; exact HP2.out.old _
 have HG : Hid (w.heap.size < G) := by unfold Hid; rw [hG]; exact HP2.out.lt
 have HGs : Hid (G < w3.heap.size) := by unfold Hid; rw [hw3, hG]; simp
 have HI3 : Hid (Lib.IsBuilder 102 5 G G (Lib.byteCells []) w3) := by unfold Hid; rw [hw3, hG]; exact Lib.fresh_isBuilder _ _ _
 go_upto_region 5 with fail
 rw [← hw3, ← hG]
 clear hw3 hG
 have x0 : w3.cell? ⟨w.heap.size, 0, none⟩ = some (.slice (some ⟨bA, oA, none⟩) M acap) := HP3.out.cell 0
 have x1 : w3.cell? ⟨w.heap.size, 1, none⟩ = some (.slice (some ⟨bC, oC, none⟩) nc ccap) := HP3.out.cell 1
 go_wp2_with fail
 clear x0 x1
 go_loopw [20] (fun i wr => ∃ k : Nat, k ≤ M ∧ i = .int .i64 k ∧ Below G w3 wr ∧ G < wr.heap.size ∧ Lib.IsBuilder 102 5 G G (Lib.byteCells (linesOf (ats.take k))) wr) (fun i _ => M - (intOf i).toNat)
 case atStart => exact ⟨0, Nat.zero_le _, rfl, Below.refl _ _, HGs.out, HI3.out⟩
 case round =>
  obtain ⟨k, hk, rfl, hbel, hGr, hbl⟩ := hrel
  have HB := hide hbel
  have HBw : Hid (Below w.heap.size w wr) := HB3.out.trans (hbel.mono (Nat.le_of_lt HG.out))
  have HPr : Hid (Blk wr w.heap.size 25 #[.slice (some ⟨bA, oA, none⟩) M acap, .slice (some ⟨bC, oC, none⟩) nc ccap]) := by unfold Hid Blk; rw [hbel.block _ HG.out]; exact HP3.out
  have HIr := hide hbl
  have HGr := hide hGr
  clear hbel hbl hGr
  by_cases hlt : k < M
  ·obtain ⟨a, hka⟩ : ∃ a, ats[k]? = some a := by
    have : k < ats.length := by rw [← HMe.out]; exact hlt
    exact ⟨_, List.getElem?_eq_getElem this⟩
   obtain ⟨vs, vt, y0, y1, y2, y3, hs, ht⟩ := HAt.out wr HBw.out k a hka
   obtain ⟨sao, scap, rfl, _⟩ := hs.slice
   obtain ⟨tao, tcap, rfl, _⟩ := ht.slice
   obtain ⟨w4, hw4⟩ := nm (wr.alloc (.cells #[.int .i64 a.k, .slice sao a.s.length scap, .slice tao a.t.length tcap, .int .i64 a.n] 50))
   have HB4 : Hid (Below wr.heap.size wr w4) := by unfold Hid; rw [hw4]; exact below_alloc1 _ _
   have HTa : Hid (Calls Tryz.prog 47 #[.agg #[.int .i64 a.k, .slice sao a.s.length scap, .slice tao a.t.length tcap, .int .i64 a.n]] w4 fun e w' => (∃ T : ByteArray, e = .returned (.tuple #[.string T, .nilIface]) ∧ T.data.toList = a.text ∧ T.size ≤ 100) ∧ Below w4.heap.size w4 w') := HAp.out w4 (HBw.out.trans (HB4.out.mono HBw.out.size)) k a hka _ _ (hs.below HB4.out) (ht.below HB4.out)
   have HLn : Hid (linesOf (ats.take (k + 1)) = linesOf (ats.take k) ++ (a.text ++ [10])) := lines_step hka
   have hlt' : (k : Int) < (M : Int) := by omega
   clear hka hs ht
   go_wp2_with fail
   rw [← hw4]
   clear hw4
   go_at_call 47
   refine HTa.out.mono ?_
   rintro e w5 ⟨⟨T, rfl, hT, hTs⟩, hb5⟩
   have hb45 : Below wr.heap.size wr w5 := HB4.out.trans (hb5.mono HB4.out.size)
   have HB5 : Hid (Below G w3 w5) := HB.out.trans (hb45.mono (Nat.le_of_lt HGr.out))
   have HG5 : Hid (G < w5.heap.size) := Nat.lt_of_lt_of_le HGr.out hb45.size
   have HWr : Hid (Calls Tryz.prog 48 #[.pointer (some ⟨G, 0, none⟩), .string (T ++ ⟨#[10]⟩)] w5 fun e w' => (∃ v, e = .returned (.tuple #[.int .i64 v, .nilIface])) ∧ Lib.IsBuilder 102 5 G G (Lib.byteCells (linesOf (ats.take (k + 1)))) w' ∧ Below G w5 w') := by
    unfold Hid
    have h1 := HLt.out (k + 1)
    rw [HLn.out, List.length_append] at h1
    rw [HLn.out]
    exact bwrite_more G G _ (a.text ++ [10]) _ (str_app hT rfl) w5 (bld_below HIr.out hb45) (by omega) (Nat.le_of_lt HG5.out)
   clear hT hb5 hb45 y0 y1 y2 y3
   go_wp2_with fail
   go_at_call 48
   refine HWr.out.mono ?_
   rintro e w6 ⟨⟨v6, rfl⟩, hI6, hb6⟩
   have HI6 := hide hI6
   have HB6 := hide (HB5.out.trans hb6)
   have HG6 : Hid (G < w6.heap.size) := Nat.lt_of_lt_of_le HG5.out hb6.size
   clear hI6 hb6
   go_wp2_with fail
   go_roundw
   case rel => exact ⟨k + 1, by omega, by go_num, HB6.out, HG6.out, HI6.out⟩
   case measure => simp [intOf]; omega
  ·obtain rfl : k = M := by omega
   have HIa : Hid (Lib.IsBuilder 102 5 G G (Lib.byteCells (linesOf ats)) wr) := by
    have h := HIr.out
    rw [HMe.out, List.take_length] at h
    exact h
   have HWc : Hid (Calls Tryz.prog 48 #[.pointer (some ⟨G, 0, none⟩), .string ⟨#[99, 111, 100, 101]⟩] wr fun e w' => (∃ v, e = .returned (.tuple #[.int .i64 v, .nilIface])) ∧ Lib.IsBuilder 102 5 G G (Lib.byteCells (linesOf ats ++ codeW)) w' ∧ Below G wr w') := by
    have h1 := HLt.out ats.length
    rw [List.take_length] at h1
    exact bwrite_more G G _ codeW _ rfl wr HIa.out (by unfold codeW; simp; omega) (Nat.le_of_lt HGr.out)
   go_wp2_with fail
   go_at_call 48
   refine HWc.out.mono ?_
   rintro e w7 ⟨⟨v7, rfl⟩, hI7, hb7⟩
   have HI7 : Hid (Lib.IsBuilder 102 5 G G (Lib.byteCells (linesOf ats ++ codeW ++ signsOf (c.take 0))) w7) := by
    unfold Hid signsOf; simpa using hI7
   have HB7 := hide (HB.out.trans hb7)
   have HG7 : Hid (G < w7.heap.size) := Nat.lt_of_lt_of_le HGr.out hb7.size
   have HP7 : Hid (Blk w7 w.heap.size 25 #[.slice (some ⟨bA, oA, none⟩) k acap, .slice (some ⟨bC, oC, none⟩) nc ccap]) := by unfold Hid Blk; rw [hb7.block _ HG.out]; exact HPr.out
   clear hI7 hb7
   have x0 : w7.cell? ⟨w.heap.size, 0, none⟩ = some (.slice (some ⟨bA, oA, none⟩) k acap) := HP7.out.cell 0
   have x1 : w7.cell? ⟨w.heap.size, 1, none⟩ = some (.slice (some ⟨bC, oC, none⟩) nc ccap) := HP7.out.cell 1
   go_wp2_with fail
   clear x0 x1
   go_loopw [40] (fun i wx => ∃ j : Nat, j ≤ nc ∧ i = .int .i64 j ∧ Below G w3 wx ∧ G < wx.heap.size ∧ Lib.IsBuilder 102 5 G G (Lib.byteCells (linesOf ats ++ codeW ++ signsOf (c.take j))) wx) (fun i _ => nc - (intOf i).toNat)
   case atStart => exact ⟨0, Nat.zero_le _, rfl, HB7.out, HG7.out, HI7.out⟩
   case round =>
    obtain ⟨j, hj, rfl, hbel, hGx, hbl⟩ := hrel
    have HBx := hide hbel
    have HBwx : Hid (Below w.heap.size w wr) := HB3.out.trans (hbel.mono (Nat.le_of_lt HG.out))
    have HIx := hide hbl
    have HGx := hide hGx
    have HLx : Hid (∀ i, (linesOf ats ++ codeW ++ signsOf (c.take i)).length ≤ 710) := fun i => by
     have h1 := HLt.out ats.length
     have h2 := HLs.out i
     rw [List.take_length] at h1
     rw [List.length_append, List.length_append]
     show _ + 4 + _ ≤ _
     omega
    clear hbel hbl hGx
    by_cases hlt2 : j < nc
    ·have hjc : j < c.length := by rw [← Hnc.out]; exact hlt2
     have y0 := HCd.out wr HBwx.out j hjc
     have HSt : Hid (signsOf (c.take (j + 1)) = signsOf (c.take j) ++ (32 :: signW (c.getD j 0))) := signs_step hjc
     obtain ⟨n, hn, hn14⟩ := HSg.out j hlt2
     rw [hn] at y0 HSt
     have y1 := HWd.out wr HBwx.out n hn14
     obtain ⟨Q, hQ⟩ := nm (strOf (signW (n : Int)))
     rw [← hQ] at y1
     have HWs : Hid (Calls Tryz.prog 48 #[.pointer (some ⟨G, 0, none⟩), .string (⟨#[32]⟩ ++ Q)] wr fun e w' => (∃ v, e = .returned (.tuple #[.int .i64 v, .nilIface])) ∧ Lib.IsBuilder 102 5 G G (Lib.byteCells (linesOf ats ++ codeW ++ signsOf (c.take (j + 1)))) w' ∧ Below G wr w') := by
      unfold Hid
      have h1 := HLx.out (j + 1)
      have e : linesOf ats ++ codeW ++ signsOf (c.take (j + 1)) = (linesOf ats ++ codeW ++ signsOf (c.take j)) ++ (32 :: signW (n : Int)) := by rw [HSt.out]; simp only [List.append_assoc]
      rw [e, List.length_append] at h1
      rw [e]
      exact bwrite_more G G _ _ _ (by rw [hQ]; exact str_app rfl (strOf_list _)) wr HIx.out (by omega) (Nat.le_of_lt HGx.out)
     have hlt' : (j : Int) < (nc : Int) := by omega
     have hn14' : (n : Int) < 14 := by omega
     have hQs : Q.size ≤ 4 := by rw [hQ, strOf_size]; exact sign_size n hn14
     clear hn hQ hjc
     go_wp2_with fail
     go_at_call 48
     refine HWs.out.mono ?_
     rintro e w8 ⟨⟨v8, rfl⟩, hI8, hb8⟩
     have HI8 := hide hI8
     have HB8 := hide (HBx.out.trans hb8)
     have HG8 : Hid (G < w8.heap.size) := Nat.lt_of_lt_of_le HGx.out hb8.size
     clear hI8 hb8 y0 y1
     go_wp2_with fail
     go_roundw
     case rel => exact ⟨j + 1, by omega, by go_num, HB8.out, HG8.out, HI8.out⟩
     case measure => simp [intOf]; omega
    ·obtain rfl : j = nc := by omega
     have HWe : Hid (Calls Tryz.prog 48 #[.pointer (some ⟨G, 0, none⟩), .string ⟨#[10]⟩] wr fun e w' => (∃ v, e = .returned (.tuple #[.int .i64 v, .nilIface])) ∧ Lib.IsBuilder 102 5 G G (Lib.byteCells (formText ats c)) w' ∧ Below G wr w') := by
      unfold Hid
      have h1 := HLx.out c.length
      have h2 := HIx.out
      rw [Hnc.out, List.take_length] at h2
      rw [List.take_length] at h1
      have e : formText ats c = (linesOf ats ++ codeW ++ signsOf c) ++ [10] := by unfold formText; simp
      rw [e]
      exact bwrite_more G G _ [10] _ rfl wr h2 (by simp at h1 ⊢; omega) (Nat.le_of_lt HGx.out)
     go_wp2_with fail
     go_at_call 48
     refine HWe.out.mono ?_
     rintro e w9 ⟨⟨v9, rfl⟩, hI9, hb9⟩
     have HB9 := hide (HBx.out.trans hb9)
     have HS9 : Hid (Calls Tryz.prog 49 #[.pointer (some ⟨G, 0, none⟩)] w9 fun e w' => e = .returned (.string (strOf (formText ats c))) ∧ Below G w9 w') := bstring_any G G _ w9 hI9 (fun h => by have := congrArg List.length h; unfold formText codeW at this; simp at this)
     clear hI9 hb9
     go_wp2_with fail
     go_at_call 49
     refine HS9.out.mono ?_
     rintro e w10 ⟨rfl, hb10⟩
     have HB10 : Hid (Below w.heap.size w w10) := HB3.out.trans ((HB9.out.trans hb10).mono (Nat.le_of_lt HG.out))
     clear hb10
     go_wp2_with fail
     go_ret2
     exact ⟨rfl, HB10.out⟩
set_option maxHeartbeats 4000000 in
theorem tprint_bad (ao : Option Addr) (al acap : Nat) (co : Option Addr) (cl ccap : Nat) (m : Int) (w : World)
    (HCk : Hid (∀ W, Below w.heap.size w W → Calls Tryz.prog 14 #[.agg #[.slice ao al acap, .slice co cl ccap]] W (Bk W (.iface 75 (.int .i64 m))))) :
    Calls Tryz.prog 15 #[.agg #[.slice ao al acap, .slice co cl ccap]] w (Bk w (.tuple #[.string ⟨#[]⟩, .iface 75 (.int .i64 m)])) := by
 obtain ⟨w1, hw1⟩ := nm (w.alloc (.cells #[.slice ao al acap, .slice co cl ccap] 25))
 have HB1 : Hid (Below w.heap.size w w1) := by unfold Hid; rw [hw1]; exact below_alloc1 _ _
 have HP1 : Hid (Blk w1 w.heap.size 25 #[.slice ao al acap, .slice co cl ccap]) := by unfold Hid; rw [hw1]; exact Blk.new _ _ _
 go_enter Tryz.func15, Tryz.ntmps15
 go_upto_region 1 with fail
 rw [← hw1]
 clear hw1
 have x0 : w1.cell? ⟨w.heap.size, 0, none⟩ = some (.slice ao al acap) := HP1.out.cell 0
 have x1 : w1.cell? ⟨w.heap.size, 1, none⟩ = some (.slice co cl ccap) := HP1.out.cell 1
 go_wp2_with fail
 go_at_call 14
 refine (HCk.out _ HB1.out).mono ?_
 rintro e w2 ⟨rfl, hb⟩
 have HB2 := hide (HB1.out.trans (hb.mono HB1.out.size))
 clear hb x0 x1
 go_wp2_with fail
 go_ret2
 exact ⟨rfl, HB2.out⟩
theorem tprint_any (va vc : Value) (ats : List At) (c : List Int) (w : World) (hA : ReadsA w va ats) (hC : Reads w vc c) (hK : KindsLaid w) (hL : LibLaid w) (hW : WordsLaid w) :
    Calls Tryz.prog 15 #[.agg #[va, vc]] w (Bk w (.tuple #[.string (printF ats c), errV (formFault ats c)])) := by
 have hCk := fun W (hW : Below w.heap.size w W) => fcheck_any va vc ats c W (hA.below hW) (hC.below hW) (hK.below hW)
 by_cases hf : formFault ats c = 0
 ·obtain ⟨ha, hc, hfa, _⟩ := formFault_zero.1 hf
  have e : printF ats c = strOf (formText ats c) := by unfold printF; rw [if_pos hf]
  rw [e, hf]
  rw [hf] at hCk
  rcases hA with ⟨ao, cap, rfl, h0⟩ | ⟨b, off, cap, rfl, h2, h3, h4, h5⟩
  ·rw [h0] at ha; simp at ha
  rcases hC with ⟨co, ccap, rfl, g0⟩ | ⟨b2, off2, ccap, rfl, g2, g3, g4, g5⟩
  ·rw [g0] at hc; simp at hc
  refine tprint_good b off cap b2 off2 ccap _ _ ats c w rfl rfl hf hCk (fun W hW i a hi => (h5 i a hi).below h2 hW) (fun W hW k hk => by rw [hW.cell g2]; exact g5 k hk) (fun W hW i a hi vs vt hs ht => ?_) fun W hb => hW.below hb
  have hz : atomFault a.k a.s a.t a.n = 0 := hfa a (List.mem_of_getElem? hi)
  have h := aprint_any a.k a.n vs vt a.s a.t W hs ht (hK.below hW) (hL.below hW)
  have e0 : aprintS a.k a.s a.t a.n = strOf (atomText a.k a.s a.t a.n) := by unfold aprintS; rw [if_pos hz]
  rw [e0, hz] at h
  refine h.mono ?_
  rintro e w' ⟨rfl, hb⟩
  exact ⟨⟨_, rfl, strOf_list _, by rw [strOf_size]; exact atomText_size hz⟩, hb⟩
 ·have e : printF ats c = ⟨#[]⟩ := by unfold printF; rw [if_neg hf]
  rw [e, errV_no hf]
  rw [errV_no hf] at hCk
  obtain ⟨ao, acap, rfl, _⟩ := hA.slice
  obtain ⟨co, ccap, rfl, _⟩ := hC.slice
  exact tprint_bad ao _ acap co _ ccap _ w hCk
end Go.Proofs.YtjaedfjfcghgcabGreatDoor
namespace Go.Proofs.YtjaedfjfcghgcabGreatDoor
open Go.ChangeShapes Go.WideShapes Go.ChangeAt Go.RowKit
set_option maxRecDepth 100000
theorem fourteen {k : Nat} (h : k < 14) : k = 0 ∨ k = 1 ∨ k = 2 ∨ k = 3 ∨ k = 4 ∨ k = 5 ∨ k = 6 ∨ k = 7 ∨ k = 8 ∨ k = 9 ∨ k = 10 ∨ k = 11 ∨ k = 12 ∨ k = 13 := by omega
theorem put_same {K : Act → World → Prop} {a : Act} {d : Option Tmp} {x y : Value} {w : World} (h : x = y) (hk : K (a.put d y) w) : K (a.put d x) w := h ▸ hk
set_option maxHeartbeats 8000000 in
theorem signOf_in (s : ByteArray) (w : World) (Q : Nat → ByteArray) (hW : ∀ j : Nat, j < 14 → w.cell? ⟨1, j, none⟩ = some (.string (Q j))) (R : Int) (E : Value)
    (hY : ∀ k, k < 14 → Q k = s → R = (k : Int) ∧ E = .nilIface) (hN : (∀ k, k < 14 → Q k ≠ s) → R = 0 ∧ E = .iface 75 (.int .i64 2)) :
    Calls Tryz.prog 95 #[.string s] w (Sk w (.tuple #[.int .i64 R, E])) := by
 have c0 := hW 0 (by decide)
 have c1 := hW 1 (by decide)
 have c2 := hW 2 (by decide)
 have c3 := hW 3 (by decide)
 have c4 := hW 4 (by decide)
 have c5 := hW 5 (by decide)
 have c6 := hW 6 (by decide)
 have c7 := hW 7 (by decide)
 have c8 := hW 8 (by decide)
 have c9 := hW 9 (by decide)
 have c10 := hW 10 (by decide)
 have c11 := hW 11 (by decide)
 have c12 := hW 12 (by decide)
 have c13 := hW 13 (by decide)
 have HY := hide hY
 have HN := hide hN
 clear hW hY hN
 go_enter Tryz.func95, Tryz.ntmps95
 go_wp2
 clear c0 c1 c2 c3 c4 c5 c6 c7 c8 c9 c10 c11 c12 c13
 go_loop [7] (fun i => ∃ k : Nat, k ≤ 14 ∧ i = .int .i64 k ∧ ∀ j, j < k → Q j ≠ s) (fun i => 14 - (intOf i).toNat)
 case atStart => exact ⟨0, by omega, rfl, fun j h => absurd h (by omega)⟩
 case round =>
  obtain ⟨k, hk, rfl, hj⟩ := hrel
  have HJ := hide hj
  clear hj
  by_cases hlt : k < 14
  ·cases hb : ((Q k).toList == s.toList)
   ·have HK : Hid (∃ k' : Nat, k' ≤ 14 ∧ Value.int .i64 ((k : Int) + 1) = .int .i64 k' ∧ ∀ j, j < k' → Q j ≠ s) := by
     refine ⟨k + 1, by omega, rfl, fun j h e => ?_⟩
     rcases Nat.lt_or_ge j k with h1 | h1
     ·exact HJ.out j h1 e
     ·obtain rfl : j = k := by omega
      rw [e] at hb
      simp at hb
    clear HJ
    rcases fourteen hlt with rfl | rfl | rfl | rfl | rfl | rfl | rfl | rfl | rfl | rfl | rfl | rfl | rfl | rfl
    ·clear hlt hk
     go_wp2
     refine put_same (y := .string (Q 0)) (by kernel_rfl) ?_
     go_wp2
     go_round
     case rel =>
      obtain ⟨k', h1, h2, h3⟩ := HK.out
      exact ⟨k', h1, h2, h3⟩
     case measure => simp [intOf]
    ·clear hlt hk
     go_wp2
     refine put_same (y := .string (Q 1)) (by kernel_rfl) ?_
     go_wp2
     go_round
     case rel =>
      obtain ⟨k', h1, h2, h3⟩ := HK.out
      exact ⟨k', h1, h2, h3⟩
     case measure => simp [intOf]
    ·clear hlt hk
     go_wp2
     refine put_same (y := .string (Q 2)) (by kernel_rfl) ?_
     go_wp2
     go_round
     case rel =>
      obtain ⟨k', h1, h2, h3⟩ := HK.out
      exact ⟨k', h1, h2, h3⟩
     case measure => simp [intOf]
    ·clear hlt hk
     go_wp2
     refine put_same (y := .string (Q 3)) (by kernel_rfl) ?_
     go_wp2
     go_round
     case rel =>
      obtain ⟨k', h1, h2, h3⟩ := HK.out
      exact ⟨k', h1, h2, h3⟩
     case measure => simp [intOf]
    ·clear hlt hk
     go_wp2
     refine put_same (y := .string (Q 4)) (by kernel_rfl) ?_
     go_wp2
     go_round
     case rel =>
      obtain ⟨k', h1, h2, h3⟩ := HK.out
      exact ⟨k', h1, h2, h3⟩
     case measure => simp [intOf]
    ·clear hlt hk
     go_wp2
     refine put_same (y := .string (Q 5)) (by kernel_rfl) ?_
     go_wp2
     go_round
     case rel =>
      obtain ⟨k', h1, h2, h3⟩ := HK.out
      exact ⟨k', h1, h2, h3⟩
     case measure => simp [intOf]
    ·clear hlt hk
     go_wp2
     refine put_same (y := .string (Q 6)) (by kernel_rfl) ?_
     go_wp2
     go_round
     case rel =>
      obtain ⟨k', h1, h2, h3⟩ := HK.out
      exact ⟨k', h1, h2, h3⟩
     case measure => simp [intOf]
    ·clear hlt hk
     go_wp2
     refine put_same (y := .string (Q 7)) (by kernel_rfl) ?_
     go_wp2
     go_round
     case rel =>
      obtain ⟨k', h1, h2, h3⟩ := HK.out
      exact ⟨k', h1, h2, h3⟩
     case measure => simp [intOf]
    ·clear hlt hk
     go_wp2
     refine put_same (y := .string (Q 8)) (by kernel_rfl) ?_
     go_wp2
     go_round
     case rel =>
      obtain ⟨k', h1, h2, h3⟩ := HK.out
      exact ⟨k', h1, h2, h3⟩
     case measure => simp [intOf]
    ·clear hlt hk
     go_wp2
     refine put_same (y := .string (Q 9)) (by kernel_rfl) ?_
     go_wp2
     go_round
     case rel =>
      obtain ⟨k', h1, h2, h3⟩ := HK.out
      exact ⟨k', h1, h2, h3⟩
     case measure => simp [intOf]
    ·clear hlt hk
     go_wp2
     refine put_same (y := .string (Q 10)) (by kernel_rfl) ?_
     go_wp2
     go_round
     case rel =>
      obtain ⟨k', h1, h2, h3⟩ := HK.out
      exact ⟨k', h1, h2, h3⟩
     case measure => simp [intOf]
    ·clear hlt hk
     go_wp2
     refine put_same (y := .string (Q 11)) (by kernel_rfl) ?_
     go_wp2
     go_round
     case rel =>
      obtain ⟨k', h1, h2, h3⟩ := HK.out
      exact ⟨k', h1, h2, h3⟩
     case measure => simp [intOf]
    ·clear hlt hk
     go_wp2
     refine put_same (y := .string (Q 12)) (by kernel_rfl) ?_
     go_wp2
     go_round
     case rel =>
      obtain ⟨k', h1, h2, h3⟩ := HK.out
      exact ⟨k', h1, h2, h3⟩
     case measure => simp [intOf]
    ·clear hlt hk
     go_wp2
     refine put_same (y := .string (Q 13)) (by kernel_rfl) ?_
     go_wp2
     go_round
     case rel =>
      obtain ⟨k', h1, h2, h3⟩ := HK.out
      exact ⟨k', h1, h2, h3⟩
     case measure => simp [intOf]
   ·have HE : Hid (R = (k : Int) ∧ E = .nilIface) := by
     refine HY.out k hlt ?_
     have e := eq_of_beq hb
     rw [Lib.toList_data, Lib.toList_data] at e
     rw [← strOf_data (Q k), ← strOf_data s, e]
    clear HJ
    rcases fourteen hlt with rfl | rfl | rfl | rfl | rfl | rfl | rfl | rfl | rfl | rfl | rfl | rfl | rfl | rfl
    ·clear hlt hk
     go_wp2
     refine put_same (y := .string (Q 0)) (by kernel_rfl) ?_
     go_wp2
     go_ret2
     rw [HE.out.1, HE.out.2]
     exact ⟨rfl, rfl⟩
    ·clear hlt hk
     go_wp2
     refine put_same (y := .string (Q 1)) (by kernel_rfl) ?_
     go_wp2
     go_ret2
     rw [HE.out.1, HE.out.2]
     exact ⟨rfl, rfl⟩
    ·clear hlt hk
     go_wp2
     refine put_same (y := .string (Q 2)) (by kernel_rfl) ?_
     go_wp2
     go_ret2
     rw [HE.out.1, HE.out.2]
     exact ⟨rfl, rfl⟩
    ·clear hlt hk
     go_wp2
     refine put_same (y := .string (Q 3)) (by kernel_rfl) ?_
     go_wp2
     go_ret2
     rw [HE.out.1, HE.out.2]
     exact ⟨rfl, rfl⟩
    ·clear hlt hk
     go_wp2
     refine put_same (y := .string (Q 4)) (by kernel_rfl) ?_
     go_wp2
     go_ret2
     rw [HE.out.1, HE.out.2]
     exact ⟨rfl, rfl⟩
    ·clear hlt hk
     go_wp2
     refine put_same (y := .string (Q 5)) (by kernel_rfl) ?_
     go_wp2
     go_ret2
     rw [HE.out.1, HE.out.2]
     exact ⟨rfl, rfl⟩
    ·clear hlt hk
     go_wp2
     refine put_same (y := .string (Q 6)) (by kernel_rfl) ?_
     go_wp2
     go_ret2
     rw [HE.out.1, HE.out.2]
     exact ⟨rfl, rfl⟩
    ·clear hlt hk
     go_wp2
     refine put_same (y := .string (Q 7)) (by kernel_rfl) ?_
     go_wp2
     go_ret2
     rw [HE.out.1, HE.out.2]
     exact ⟨rfl, rfl⟩
    ·clear hlt hk
     go_wp2
     refine put_same (y := .string (Q 8)) (by kernel_rfl) ?_
     go_wp2
     go_ret2
     rw [HE.out.1, HE.out.2]
     exact ⟨rfl, rfl⟩
    ·clear hlt hk
     go_wp2
     refine put_same (y := .string (Q 9)) (by kernel_rfl) ?_
     go_wp2
     go_ret2
     rw [HE.out.1, HE.out.2]
     exact ⟨rfl, rfl⟩
    ·clear hlt hk
     go_wp2
     refine put_same (y := .string (Q 10)) (by kernel_rfl) ?_
     go_wp2
     go_ret2
     rw [HE.out.1, HE.out.2]
     exact ⟨rfl, rfl⟩
    ·clear hlt hk
     go_wp2
     refine put_same (y := .string (Q 11)) (by kernel_rfl) ?_
     go_wp2
     go_ret2
     rw [HE.out.1, HE.out.2]
     exact ⟨rfl, rfl⟩
    ·clear hlt hk
     go_wp2
     refine put_same (y := .string (Q 12)) (by kernel_rfl) ?_
     go_wp2
     go_ret2
     rw [HE.out.1, HE.out.2]
     exact ⟨rfl, rfl⟩
    ·clear hlt hk
     go_wp2
     refine put_same (y := .string (Q 13)) (by kernel_rfl) ?_
     go_wp2
     go_ret2
     rw [HE.out.1, HE.out.2]
     exact ⟨rfl, rfl⟩
  ·obtain rfl : k = 14 := by omega
   have HE := hide (HN.out HJ.out)
   go_wp2
   go_ret2
   rw [HE.out.1, HE.out.2]
   exact ⟨rfl, rfl⟩
theorem signs_all : ∀ k : Nat, k < 14 → signN (signW (k : Int)) = some (k : Int) := by decide
theorem signN_range {l : List UInt8} {v : Int} (h : signN l = some v) : ∃ k : Nat, k < 14 ∧ v = (k : Int) := by
 unfold signN at h
 repeat' split at h
 ·cases h; exact ⟨10, by decide, rfl⟩
 ·cases h; exact ⟨11, by decide, rfl⟩
 ·cases h; exact ⟨12, by decide, rfl⟩
 ·cases h; exact ⟨13, by decide, rfl⟩
 ·rename_i h5
  cases h
  exact ⟨(l.getD 0 0).toNat - 48, by omega, by omega⟩
 ·cases h
theorem signOf_any (l : List UInt8) (w : World) (hW : WordsLaid w) :
    Calls Tryz.prog 95 #[.string (strOf l)] w (Sk w (.tuple #[.int .i64 ((signN l).getD 0), errV (if (signN l).isNone = true then 2 else 0)])) := by
 have key : ∀ k : Nat, strOf (signW (k : Int)) = strOf l → l = signW (k : Int) := fun k h => by
  have := congrArg (fun s : ByteArray => s.data.toList) h
  simp only [strOf_list] at this
  exact this.symm
 refine signOf_in (strOf l) w (fun j => strOf (signW (j : Int))) hW _ _ (fun k hk h => ?_) fun h => ?_
 ·rw [key k h, signs_all k hk]
  exact ⟨rfl, rfl⟩
 ·cases hs : signN l with
  | none => exact ⟨rfl, rfl⟩
  | some v =>
   obtain ⟨k, hk, rfl⟩ := signN_range hs
   exact absurd (by rw [sign_word hs]) (h k hk)
end Go.Proofs.YtjaedfjfcghgcabGreatDoor
namespace Go.Proofs.YtjaedfjfcghgcabGreatDoor
open Go.ChangeShapes Go.WideShapes Go.ChangeAt Go.RowKit
set_option maxRecDepth 100000
theorem infoSn : (Tryz.prog.info? 3).isSome = true := by kernel_rfl
theorem zeroSn : (Tryz.prog.info? 3).bind (·.zero) = some (.int .i64 0) := by kernel_rfl
theorem sizeSn : (Tryz.prog.info? 3).map (·.size) = some 1 := by kernel_rfl
theorem bytesSn : (Tryz.prog.info? 3).map (·.bytes) = some 8 := by kernel_rfl
theorem append_sign {w : World} {ops : Array Oper} {rest : List Oper} {o : Oper} {a : Act} {Q : Exit → Act → World → Prop} (hgd : o.guard = none) (s x : Operand)
    (ho : o.op = .call { callee := .builtin .append, args := #[s, x], argTypes := #[23, 23] }) (K : Nat) (v : Value) (hs : a.eval s = v) (l : List Int) (r : Int) (B c : Nat) (hx : a.eval x = .slice (some ⟨B, 0, none⟩) 1 c)
    (hown : w.ownsRow K 3 1 v l.length (l.map (Value.int .i64))) (hB : w.heap[B]? = some (.cells #[.int .i64 r] 3 (0, 0))) (hK : K ≤ w.heap.size) (h12 : l.length ≤ 20)
    (h : ∀ v' w', w'.ownsRow K 3 1 v' (l.length + 1) ((l ++ [r]).map (Value.int .i64)) → w.grownBy w' v.ownBlock → wpList Tryz.prog ops Q rest (a.put o.dst v') w') :
    wpList Tryz.prog ops Q (o :: rest) a w := by
 obtain ⟨i1, hi⟩ : ∃ i, Tryz.prog.info? 3 = some i := Option.isSome_iff_exists.1 infoSn
 have hz0 : i1.zero = some (.int .i64 0) := by have := zeroSn; rw [hi] at this; simpa using this
 have hz1 : i1.size = 1 := by have := sizeSn; rw [hi] at this; simpa using this
 have hz2 : i1.bytes = 8 := by have := bytesSn; rw [hi] at this; simpa using this
 refine wpList_append_own_at w hgd s x 23 ho K 3 i1 _ 1 8 Tryz.underlying23 hi hz0 hz1 hz2 rfl (by decide) v l.length (l.map (Value.int .i64)) hs hown ⟨B, 0, none⟩ 1 c [.int .i64 r] hx rfl (World.news_of_block hB) (by simp [Value.oneCell']) (by unfold maxLen; omega) (by omega) hK ?_
 intro v' w' h1 h2 _ _
 refine h v' w' ?_ h2
 rw [List.map_append]
 exact h1
theorem own_readsS {w : World} {K : Nat} {v : Value} {t : List Int} (h : w.ownsRow K 3 1 v t.length (t.map (Value.int .i64))) (hm : t.length ≤ 9223372036854775807) : Reads w v t := by
 rcases h.2 with ⟨rfl, h0⟩ | ⟨g, cap, cur, rfl, hb, hg, hc, _⟩
 ·exact Or.inl ⟨none, 0, rfl, List.eq_nil_of_length_eq_zero h0⟩
 ·rcases Nat.eq_zero_or_pos t.length with h0 | h0
  ·have e : t = [] := List.eq_nil_of_length_eq_zero h0
   subst e
   exact Or.inl ⟨_, _, rfl, rfl⟩
  ·refine Or.inr ⟨g, 0, cap, rfl, (Array.getElem?_eq_some_iff.1 hg).1, h0, ⟨hm, hc⟩, fun k hk => ?_⟩
   rw [Nat.zero_add, h.cellAt _ (by omega), List.getElem?_map, List.getElem?_eq_getElem hk, List.getD_eq_getElem?_getD, List.getElem?_eq_getElem hk]
   rfl
end Go.Proofs.YtjaedfjfcghgcabGreatDoor
namespace Go.Proofs.YtjaedfjfcghgcabGreatDoor
open Go.ChangeShapes Go.WideShapes Go.ChangeAt Go.RowKit
set_option maxRecDepth 100000
theorem join_tail {c : UInt8} (y : List UInt8) (L : List (List UInt8)) : (joinB c L).length ≤ (joinB c (y :: L)).length := by
 cases L with
 | nil => exact Nat.zero_le _
 | cons z L => rw [joinB_cons y (List.cons_ne_nil z L), List.length_append, List.length_cons]; omega
theorem join_drop {c : UInt8} (L : List (List UInt8)) (j : Nat) : (joinB c (L.drop j)).length ≤ (joinB c L).length := by
 induction j with
 | zero => exact Nat.le_refl _
 | succ j ih =>
  rcases Nat.lt_or_ge j L.length with h | h
  ·rw [List.drop_eq_getElem_cons h] at ih
   exact Nat.le_trans (join_tail _ _) ih
  ·rw [List.drop_eq_nil_of_le (by omega)]; exact Nat.zero_le _
theorem signs_length {L : List (List UInt8)} {c : List Int} (h : signsN L = some c) : c.length = L.length := by
 rw [← signs_words h, List.length_map]
set_option maxHeartbeats 8000000 in
theorem codeOf_good (L : List (List UInt8)) (hL : ∀ y ∈ L, plainC 32 y = true) (hz : (joinB 32 (codeW :: L)).length ≤ 9223372036854775806) (w : World) (hW : WordsLaid w) :
    Calls Tryz.prog 52 #[.string (strOf (joinB 32 (codeW :: L)))] w fun e w' => ((∃ c v, signsN L = some c ∧ e = .returned (.tuple #[v, .nilIface]) ∧ Reads w' v (c.take 21)) ∨ (signsN L = none ∧ e = .returned (.tuple #[.slice none 0 0, .iface 75 (.int .i64 2)]))) ∧ Below w.heap.size w w' := by
 have HC0 : Hid (∀ W, Calls Tryz.prog 94 #[.string (strOf (joinB 32 (codeW :: L))), .string ⟨#[32]⟩] W (Bk W (.tuple #[.string ⟨#[99, 111, 100, 101]⟩, .string (strOf (joinB 32 L)), .bool (!L.isEmpty)]))) := fun W => cutWord_any codeW L rfl hz W
 have HCj : Hid (∀ j y W, L[j]? = some y → Calls Tryz.prog 94 #[.string (strOf (joinB 32 (L.drop j))), .string ⟨#[32]⟩] W (Bk W (.tuple #[.string (strOf y), .string (strOf (joinB 32 (L.drop (j + 1)))), .bool (!(L.drop (j + 1)).isEmpty)]))) := fun j y W hy => by
  obtain ⟨hj, rfl⟩ := List.getElem?_eq_some_iff.1 hy
  have h1 := join_drop (c := 32) L j
  have h2 := join_tail (c := 32) codeW L
  rw [List.drop_eq_getElem_cons hj] at h1 ⊢
  exact cutWord_any _ _ (hL _ (List.getElem_mem hj)) (by omega) W
 have HSg : Hid (∀ y W, Below w.heap.size w W → Calls Tryz.prog 95 #[.string (strOf y)] W (Sk W (.tuple #[.int .i64 ((signN y).getD 0), errV (if (signN y).isNone = true then 2 else 0)]))) := fun y W h => signOf_any y W (hW.below h)
 obtain ⟨S0, hS0⟩ := nm (strOf (joinB 32 (codeW :: L)))
 rw [← hS0] at HC0 ⊢
 clear hS0 hz hL hW
 obtain ⟨K, hK⟩ := nm w.heap.size
 have HK := hide (hK.symm)
 rw [← hK] at HSg ⊢
 clear hK
 go_enter Tryz.func52, Tryz.ntmps52
 go_wp2_with fail
 go_at_call 94
 refine (HC0.out _).mono ?_
 rintro e w1 ⟨rfl, hb⟩
 have HB1 : Hid (Below K w w1) := by unfold Hid; rw [← HK.out]; exact hb
 clear hb
 go_wp2_with fail
 go_loopg [5, 6, 7] (L.length + 1) (fun gk r m v wr => ∃ (j : Nat) (c : List Int), j ≤ L.length ∧ gk + j = L.length + 1 ∧ r = .string (strOf (joinB 32 (L.drop j))) ∧ m = .bool (!(L.drop j).isEmpty) ∧ signsN (L.take j) = some c ∧ wr.ownsRow K 3 1 v (c.take 21).length ((c.take 21).map (Value.int .i64)) ∧ Below K w wr)
 case atStart => exact ⟨0, [], Nat.zero_le _, rfl, rfl, rfl, rfl, World.ownsRow_nil _ _ _ _, HB1.out⟩
 case round =>
  obtain ⟨j, c, hj, hg, rfl, rfl, hs, hown, hbel⟩ := hrel
  have HS := hide hs
  have HOw := hide hown
  have HB := hide hbel
  have HG := hide hg
  have HLc : Hid (c.length = j) := by unfold Hid; rw [signs_length hs, List.length_take]; omega
  clear hs hown hbel hg
  by_cases hlt : j < L.length
  ·obtain ⟨y, hy⟩ : ∃ y, L[j]? = some y := ⟨_, List.getElem?_eq_getElem hlt⟩
   have e1 : (L.drop j).isEmpty = false := by rw [List.drop_eq_getElem_cons hlt]; rfl
   have HCy : Hid (∀ W, Calls Tryz.prog 94 #[.string (strOf (joinB 32 (L.drop j))), .string ⟨#[32]⟩] W (Bk W (.tuple #[.string (strOf y), .string (strOf (joinB 32 (L.drop (j + 1)))), .bool (!(L.drop (j + 1)).isEmpty)]))) := fun W => HCj.out j y W hy
   have HTk : Hid (L.take (j + 1) = L.take j ++ [y]) := by
    unfold Hid; rw [List.take_succ_eq_append_getElem hlt]
    obtain ⟨_, rfl⟩ := List.getElem?_eq_some_iff.1 hy
    rfl
   have HMy : Hid (y ∈ L) := List.mem_of_getElem? hy
   rw [e1]
   clear hy e1
   obtain ⟨R0, hR0⟩ := nm (strOf (joinB 32 (L.drop j)))
   obtain ⟨R1, hR1⟩ := nm (strOf (joinB 32 (L.drop (j + 1))))
   obtain ⟨b1, hb1⟩ : ∃ b, b = !(L.drop (j + 1)).isEmpty := ⟨_, rfl⟩
   rw [← hR0, ← hR1, ← hb1] at HCy
   rw [← hR0]
   have HR1 : Hid (R1 = strOf (joinB 32 (L.drop (j + 1))) ∧ b1 = !(L.drop (j + 1)).isEmpty) := ⟨hR1, hb1⟩
   clear hR0 hR1 hb1
   go_wp2_with fail
   go_at_call 94
   refine (HCy.out _).mono ?_
   rintro e w2 ⟨rfl, hb2⟩
   have HKr : Hid (K ≤ wr.heap.size) := by have := HB.out.size; have := HK.out; unfold Hid; omega
   have HB2 := hide (HB.out.trans (hb2.mono HKr.out))
   have HK2 : Hid (K ≤ w2.heap.size) := Nat.le_trans HKr.out hb2.size
   have HO2 : Hid (w2.ownsRow K 3 1 u7 (c.take 21).length ((c.take 21).map (Value.int .i64))) := ownsRow_belowT HOw.out hb2
   clear hb2
   cases hsn : signN y with
   | none =>
    have HSy : Hid (∀ W, Below K w W → Calls Tryz.prog 95 #[.string (strOf y)] W (Sk W (.tuple #[.int .i64 0, .iface 75 (.int .i64 2)]))) := fun W h => by
     have h := HSg.out y W h
     rw [hsn] at h
     exact h
    have HE : Hid (signsN L = none) := signs_stop HMy.out hsn
    clear hsn
    go_wp2_with fail
    go_at_call 95
    refine (HSy.out _ HB2.out).mono ?_
    rintro e w3 ⟨rfl, rfl⟩
    go_wp2_with fail
    go_ret2
    exact ⟨Or.inr ⟨HE.out, rfl⟩, HB2.out⟩
   | some s =>
    have HSy : Hid (∀ W, Below K w W → Calls Tryz.prog 95 #[.string (strOf y)] W (Sk W (.tuple #[.int .i64 s, .nilIface]))) := fun W h => by
     have h := HSg.out y W h
     rw [hsn] at h
     exact h
    have HSm : Hid (signsN (L.take (j + 1)) = some (c ++ [s])) := by unfold Hid; rw [HTk.out]; exact signs_more HS.out hsn
    clear hsn
    go_wp2_with fail
    go_at_call 95
    refine (HSy.out _ HB2.out).mono ?_
    rintro e w3 ⟨rfl, rfl⟩
    obtain ⟨ao, am, ac, rfl⟩ := own_slice HO2.out
    have ham : am = (c.take 21).length := by
     rcases HO2.out.2 with ⟨h1, h2⟩ | ⟨g, cap, cur, h1, _⟩
     ·obtain ⟨_, h3, _⟩ := Value.slice.inj h1; omega
     ·exact (Value.slice.inj h1).2.1
    have hl21 : (c.take 21).length = min 21 j := by rw [List.length_take, HLc.out]
    by_cases hj20 : j ≤ 20
    ·have hm20 : (am : Int) ≤ 20 := by omega
     have HT : Hid (c.take 21 = c ∧ (c ++ [s]).take 21 = c ++ [s]) := by
      have h := HLc.out
      exact ⟨List.take_of_length_le (by omega), List.take_of_length_le (by simp; omega)⟩
     have HO3 : Hid (w2.ownsRow K 3 1 (.slice ao am ac) c.length (c.map (Value.int .i64))) := by
      have h := HO2.out
      rw [HT.out.1] at h
      exact h
     have hc20 : c.length ≤ 20 := by have := HLc.out; omega
     clear ham hl21
     go_wp2_with (at_builtin; refine append_sign rfl _ _ rfl K (.slice ao am ac) rfl c s w2.heap.size 1 rfl (HO3.out.alloc _) (heap_alloc_new w2 _) (by have := HK2.out; simp; omega) hc20 ?_)
     intro v4 w4 hown4 hgrow4
     have HO4 : Hid (w4.ownsRow K 3 1 v4 ((c ++ [s]).take 21).length (((c ++ [s]).take 21).map (Value.int .i64))) := by
      unfold Hid; rw [HT.out.2, List.length_append, List.map_append]; exact hown4
     have HB4 : Hid (Below K w w4) := (HB2.out.alloc HK2.out _).grown hgrow4 (by have := HK2.out; simp; omega) (fun k hk => (HO3.out.lt k hk).1)
     clear hown4 hgrow4
     go_wp2_with fail
     go_roundg (L.length - j)
     case rel => exact ⟨j + 1, _, by omega, by omega, by rw [HR1.out.1], by rw [HR1.out.2], HSm.out, HO4.out, HB4.out⟩
     case measure => have := HG.out; omega
    ·have hm20 : ¬ (am : Int) ≤ 20 := by omega
     have HO4 : Hid (w2.ownsRow K 3 1 (.slice ao am ac) ((c ++ [s]).take 21).length (((c ++ [s]).take 21).map (Value.int .i64))) := by
      unfold Hid
      rw [List.take_append_of_le_length (by have := HLc.out; omega)]
      exact HO2.out
     clear ham hl21
     go_wp2_with fail
     go_roundg (L.length - j)
     case rel => exact ⟨j + 1, _, by omega, by omega, by rw [HR1.out.1], by rw [HR1.out.2], HSm.out, HO4.out, HB2.out⟩
     case measure => have := HG.out; omega
  ·obtain rfl : j = L.length := by omega
   have e1 : (L.drop L.length).isEmpty = true := by rw [List.drop_eq_nil_of_le (Nat.le_refl _)]; rfl
   rw [e1]
   clear e1
   have HE : Hid (signsN L = some c) := by have h := HS.out; rw [List.take_length] at h; exact h
   have HR : Hid (Reads wr u7 (c.take 21)) := own_readsS HOw.out (by rw [List.length_take]; omega)
   go_wp2_with fail
   go_ret2
   exact ⟨Or.inl ⟨c, u7, HE.out, rfl, HR.out⟩, HB.out⟩
set_option maxHeartbeats 4000000 in
theorem codeOf_bad (h : List UInt8) (L : List (List UInt8)) (hp : plainC 32 h = true) (hh : ¬ h = codeW) (hz : (joinB 32 (h :: L)).length ≤ 9223372036854775806) (w : World) :
    Calls Tryz.prog 52 #[.string (strOf (joinB 32 (h :: L)))] w (Bk w (.tuple #[.slice none 0 0, .iface 75 (.int .i64 2)])) := by
 have HC0 : Hid (∀ W, Calls Tryz.prog 94 #[.string (strOf (joinB 32 (h :: L))), .string ⟨#[32]⟩] W (Bk W (.tuple #[.string (strOf h), .string (strOf (joinB 32 L)), .bool (!L.isEmpty)]))) := fun W => cutWord_any h L hp hz W
 have hn : ((strOf h).toList == [99, 111, 100, 101]) = false := by
  rw [Lib.toList_data, strOf_list]; simpa [codeW] using hh
 obtain ⟨S0, hS0⟩ := nm (strOf (joinB 32 (h :: L)))
 obtain ⟨S1, hS1⟩ := nm (strOf h)
 rw [← hS0, ← hS1] at HC0
 rw [← hS0]
 rw [← hS1] at hn
 clear hS0 hS1 hz hp hh
 go_enter Tryz.func52, Tryz.ntmps52
 go_wp2_with fail
 go_at_call 94
 refine (HC0.out _).mono ?_
 rintro e w1 ⟨rfl, hb⟩
 have HB1 := hide hb
 clear hb
 go_wp2_with fail
 go_ret2
 exact ⟨rfl, HB1.out⟩
end Go.Proofs.YtjaedfjfcghgcabGreatDoor