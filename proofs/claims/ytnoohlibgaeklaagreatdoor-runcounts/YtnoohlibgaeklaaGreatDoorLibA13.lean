/-
  Facts and contracts that the statement leans on.
-/
import Derived.Test.YtnoohlibgaeklaaGreatDoorLibA12
import Derived.Test.YtnoohlibgaeklaaGreatDoorLibA2
import Derived.Test.YtnoohlibgaeklaaGreatDoorLibA1
import Derived.Lib.Strings
import Derived.Lib.Slices
import Derived.Lib.Walk
import Derived.Lib.Builder
import Derived.Lib.AppendStr
import Derived.Lib.UnsafeStr
import Derived.WalkKit
import Derived.Laws.Externs
import Derived.Laws.IdiomCopy
import Derived.Below
import Derived.Test.YtnoohlibgaeklaaGreatDoorLibA11
import Derived.Lib.ItoaMem
namespace Go.Proofs.YtnoohlibgaeklaaGreatDoor
open Go.ChangeShapes Go.WideShapes Go.ChangeAt Go.RowKit
set_option maxRecDepth 100000
def linesT (L : List (List UInt8)) : List UInt8 := (L.map fun x => x ++ [10]).flatten
def encL (x : List UInt8) : Array Value := #[.string (strOf (x ++ [10]))]
theorem lines_drop {L : List (List UInt8)} {k : Nat} {x : List UInt8} (h : L[k]? = some x) : linesT (L.drop k) = (x ++ [10]) ++ linesT (L.drop (k + 1)) := by
 obtain ⟨hk, rfl⟩ := List.getElem?_eq_some_iff.1 h
 rw [List.drop_eq_getElem_cons hk]
 rfl
theorem ten_at {x : List UInt8} (h : plainC 10 x = true) (r : List UInt8) : Lib.indexByte (x ++ 10 :: r) 10 = x.length := by
 induction x with
 | nil => rfl
 | cons b x ih =>
  simp [plainC] at h
  have hi : Lib.indexByte (x ++ 10 :: r) 10 = (x.length : Int) := ih (by simp [plainC]; exact h.2)
  show Lib.indexByte (b :: (x ++ 10 :: r)) 10 = _
  rw [Lib.indexByte, if_neg (by simpa using h.1), hi, if_neg (by simp)]
  simp
theorem lines_made (s : ByteArray) (w : World) : Calls Tryz.prog 11 #[.string s] w fun e w' => e = .returned (.func (.func 33) #[] #[.pointer (some ⟨w.heap.size, 0, none⟩)]) ∧ w' = w.alloc (.cells #[.string s] 9) := by
 go_enter Tryz.func11, Tryz.ntmps11
 go_wp2
 go_ret
 exact ⟨rfl, rfl⟩
def pieces (L : List (List UInt8)) (c : List UInt8) : List (List UInt8) := L.map (fun x => x ++ [10]) ++ (if c = [] then [] else [c])
def encP (x : List UInt8) : Array Value := #[.string (strOf x)]
def restP (L : List (List UInt8)) (c : List UInt8) (k : Nat) : List UInt8 := if k ≤ L.length then linesT (L.drop k) ++ c else []
theorem pieces_length (L : List (List UInt8)) (c : List UInt8) : (pieces L c).length = L.length + (if c = [] then 0 else 1) := by
 unfold pieces; split <;> simp
theorem pieces_hit {L : List (List UInt8)} {c : List UInt8} {k : Nat} {x : List UInt8} (h : (pieces L c)[k]? = some x) (hk : k < L.length) : ∃ y, L[k]? = some y ∧ x = y ++ [10] := by
 unfold pieces at h
 rw [List.getElem?_append_left (by simpa using hk), List.getElem?_map, List.getElem?_eq_getElem hk] at h
 exact ⟨L[k], List.getElem?_eq_getElem hk, by simpa using h.symm⟩
theorem pieces_last {L : List (List UInt8)} {c : List UInt8} {k : Nat} {x : List UInt8} (h : (pieces L c)[k]? = some x) (hk : ¬ k < L.length) : k = L.length ∧ x = c ∧ c ≠ [] := by
 unfold pieces at h
 rw [List.getElem?_append_right (by simp; omega)] at h
 by_cases hc : c = []
 ·rw [if_pos hc] at h; simp at h
 ·rw [if_neg hc] at h
  have h0 : k - (L.map fun x => x ++ [10]).length = 0 := by
   rcases Nat.eq_zero_or_pos (k - (L.map fun x => x ++ [10]).length) with h1 | h1
   ·exact h1
   ·rw [List.getElem?_eq_none (by simp at h1 ⊢; omega)] at h; cases h
  rw [h0] at h
  simp at h0
  exact ⟨by omega, by simpa using h.symm, hc⟩
theorem ten_none {x : List UInt8} (h : plainC 10 x = true) : Lib.indexByte x 10 < 0 := by
 induction x with
 | nil => decide
 | cons b x ih =>
  simp [plainC] at h
  have hi : Lib.indexByte x 10 < 0 := ih (by simp [plainC]; exact h.2)
  have hg := Lib.indexByte_ge x 10
  rw [Lib.indexByte, if_neg (by simpa using h.1), if_pos (by simp; omega)]
  decide
set_option maxHeartbeats 4000000 in
theorem lines_any (L : List (List UInt8)) (c : List UInt8) (hL : ∀ x ∈ L, plainC 10 x = true) (hc : plainC 10 c = true) (hz : (linesT L ++ c).length ≤ 9223372036854775806) (n : Nat) (hn : 1 ≤ n) (Bu : Nat) (W : World) (hB : Blk W Bu 9 #[.string (strOf (linesT L ++ c))]) :
    SeqS n Tryz.prog 33 #[.pointer (some ⟨Bu, 0, none⟩)] encP (pieces L c) (fun b => b = Bu) W := by
 intro l J Jx hJ hY h0
 have HY : Hid (∀ (k : Nat) (x : List UInt8) (R : Nat → Prop) (W1 : World), (pieces L c)[k]? = some x → J k R W1 → YieldAt Fence.wide (n - 1) Tryz.prog l #[.string (strOf x)] W1 fun e W' =>
     (e = .returned (.bool true) ∧ ∃ R', J (k + 1) R' W' ∧ OverS R (fun b => b = Bu) W.heap.size W1 W' ∧ ∀ b, R' b → R b ∨ W1.heap.size ≤ b) ∨ (e = .returned (.bool false) ∧ Jx (k + 1) W')) := hY
 have HJ := hide hJ
 -- a line that is ended
 have HLk : Hid (∀ (k : Nat) (x : List UInt8), L[k]? = some x → ∃ s : ByteArray, s = strOf (restP L c k) ∧ (0 : Int) < (s.size : Int) ∧ (x.length : Int) + 1 ≤ (s.size : Int) ∧ (s.size : Int) ≤ 9223372036854775806 ∧ s.extract 0 (x.length + 1) = strOf (x ++ [10]) ∧ s.extract (x.length + 1) s.size = strOf (restP L c (k + 1)) ∧ ∀ W, Calls Tryz.prog 34 #[.string s, .int .u8 10] W (Sk W (.int .i64 (x.length : Int)))) := fun k x hx => by
  have hkl : k < L.length := (List.getElem?_eq_some_iff.1 hx).1
  have e : restP L c k = (x ++ [10]) ++ restP L c (k + 1) := by
   unfold restP
   rw [if_pos (by omega), if_pos (by omega), lines_drop hx, List.append_assoc]
  have hpl : plainC 10 x = true := hL x (List.mem_of_getElem? hx)
  have hlen : (restP L c k).length ≤ (linesT L ++ c).length := by
   unfold restP
   rw [if_pos (by omega)]
   unfold linesT
   rw [List.map_drop, List.length_append, List.length_append]
   have h2 : ((L.map fun x => x ++ [10]).flatten).length = (((L.map fun x => x ++ [10]).take k).flatten).length + (((L.map fun x => x ++ [10]).drop k).flatten).length := by
    rw [← List.length_append, ← List.flatten_append, List.take_append_drop]
   omega
  have hs : (strOf (restP L c k)).size = x.length + 1 + (restP L c (k + 1)).length := by rw [strOf_size, e, List.length_append, List.length_append]; rfl
  have hs2 : (strOf (restP L c k)).size = (restP L c k).length := strOf_size _
  have hx1 : (x ++ [10]).length = x.length + 1 := by simp
  refine ⟨_, rfl, by omega, by omega, by omega, ?_, ?_, fun W => ?_⟩
  ·rw [strOf_take, e, ← hx1, List.take_left]
  ·rw [strOf_drop _ _ _ (strOf_size _), e, ← hx1, List.drop_left]
  ·have h := indexByte_any (strOf (restP L c k)) 10 W
   have e2 : Lib.indexByte (strOf (restP L c k)).data.toList (Int.toNat 10).toUInt8 = (x.length : Int) := by
    rw [strOf_list, e, List.append_assoc]
    exact ten_at hpl _
   rw [e2] at h
   exact h
 -- the last one, that is not
 have HLe : Hid (c ≠ [] → ∃ s : ByteArray, s = strOf c ∧ strOf (restP L c L.length) = s ∧ (0 : Int) < (s.size : Int) ∧ (s.size : Int) ≤ 9223372036854775806 ∧ ∃ m : Int, m < 0 ∧ ∀ W, Calls Tryz.prog 34 #[.string s, .int .u8 10] W (Sk W (.int .i64 m))) := fun h => by
  have hs : (strOf c).size = c.length := strOf_size _
  have hp : 0 < c.length := List.length_pos_iff.2 h
  have e : restP L c L.length = c := by unfold restP; rw [if_pos (Nat.le_refl _), List.drop_eq_nil_of_le (Nat.le_refl _)]; rfl
  rw [List.length_append] at hz
  refine ⟨_, rfl, by rw [e], by omega, by omega, Lib.indexByte c 10, ten_none hc, fun W => ?_⟩
  have h := indexByte_any (strOf c) 10 W
  rw [strOf_list] at h
  exact h
 have HEnd : Hid (∀ k : Nat, ¬ k < L.length → ¬ (k = L.length ∧ c ≠ []) → k ≤ (pieces L c).length → strOf (restP L c k) = ⟨#[]⟩ ∧ k = (pieces L c).length) := fun k h1 h2 h3 => by
  rw [pieces_length] at h3 ⊢
  by_cases hc0 : c = []
  ·rw [if_pos hc0] at h3 ⊢
   obtain rfl : k = L.length := by omega
   refine ⟨?_, by omega⟩
   unfold restP
   rw [if_pos (Nat.le_refl _), List.drop_eq_nil_of_le (Nat.le_refl _), hc0]; rfl
  ·rw [if_neg hc0] at h3 ⊢
   have : k ≠ L.length := fun e => h2 ⟨e, hc0⟩
   refine ⟨?_, by omega⟩
   unfold restP
   rw [if_neg (by omega)]; rfl
 have HP1 : Hid (∀ (k : Nat) (x : List UInt8), L[k]? = some x → (pieces L c)[k]? = some (x ++ [10])) := fun k x hx => by
  have hkl : k < L.length := (List.getElem?_eq_some_iff.1 hx).1
  unfold pieces
  rw [List.getElem?_append_left (by simpa using hkl), List.getElem?_map, hx]; rfl
 have HP2 : Hid (c ≠ [] → (pieces L c)[L.length]? = some c ∧ (pieces L c).length = L.length + 1 ∧ strOf (restP L c (L.length + 1)) = ⟨#[]⟩) := fun h => by
  refine ⟨?_, by rw [pieces_length, if_neg h], ?_⟩
  ·unfold pieces
   rw [List.getElem?_append_right (by simp), if_neg h]; simp
  ·unfold restP; rw [if_neg (by omega)]; rfl
 have HPl : Hid (L.length ≤ (pieces L c).length) := by unfold Hid; rw [pieces_length]; omega
 have H0 := hide h0
 have HB : Hid (Blk W Bu 9 #[.string (strOf (restP L c 0))]) := by
  unfold Hid restP; rw [if_pos (Nat.zero_le _), List.drop_zero]; exact hB
 have HBl := hide (hB.lt)
 clear hY hJ h0 hB hL hz hc
 obtain ⟨P, hP⟩ := nm (pieces L c)
 rw [← hP] at HY HEnd HP1 HP2 HPl ⊢
 clear hP
 refine callsIn_of_wp Tryz.func33 rfl trivial ?_ rfl
 simp only [Tryz.ntmps33, List.size_toArray, List.length_cons, List.length_nil, Nat.reduceAdd, Nat.reduceSub, Array.replicate_succ, Array.replicate_zero, List.push_toArray, List.append_toArray, List.nil_append, List.cons_append]
 gi_wp2_with fail
 gi_loopg [] (P.length + 1) (fun gk wr => ∃ (k : Nat) (R : Nat → Prop), k ≤ P.length ∧ gk + k = P.length + 1 ∧ (J k R wr ∧ ¬ R Bu) ∧ Blk wr Bu 9 #[.string (strOf (restP L c k))])
 case atStart => exact ⟨0, _, Nat.zero_le _, rfl, ⟨H0.out, fun h => h⟩, HB.out⟩
 case round =>
  obtain ⟨k, R, hk, hg, ⟨hj, hr⟩, hb⟩ := hrel
  have HG := hide hg
  have HJk := hide hj
  have HR := hide hr
  have HBk : Hid (Blk wr Bu 9 #[.string (strOf (restP L c k))]) := hb
  clear hg hj hr hb
  by_cases hlt : k < L.length
  ·obtain ⟨x, hx⟩ : ∃ x, L[k]? = some x := ⟨_, List.getElem?_eq_getElem hlt⟩
   have HX := hide (HP1.out k x hx)
   obtain ⟨s, hs, s0, s1, s2, e1, e2, hI⟩ := HLk.out k x hx
   have HI := hide hI
   have HE : Hid (s.extract 0 (x.length + 1) = strOf (x ++ [10]) ∧ s.extract (x.length + 1) s.size = strOf (restP L c (k + 1))) := ⟨e1, e2⟩
   have HkP : Hid (k < P.length) := Nat.lt_of_lt_of_le hlt HPl.out
   rw [← hs] at HBk
   obtain ⟨j, hj⟩ := nm x.length
   rw [← hj] at s1 HI HE
   clear hs e1 e2 hI hx hj hlt
   have c0 : wr.cell? ⟨Bu, 0, none⟩ = some (.string s) := HBk.out.cell 0
   have c1 : wr.drew.cell? ⟨Bu, 0, none⟩ = some (.string s) := c0
   have f1 : wr.drew.frozen? ⟨Bu, 0, none⟩ = false := HBk.out.frozen 0
   obtain ⟨W5, hW5⟩ := nm ((wr.drew.setCell ⟨Bu, 0, none⟩ (.string (s.extract (j + 1) s.size))))
   gi_wp2_with fail
   refine ⟨trivial, ?_⟩
   gi_at_call 34
   refine (callsIn_wide.2 (HI.out _)).mono ?_
   rintro e w8 ⟨rfl, rfl⟩
   have d0 : (0 : Int) ≤ (j : Int) + 1 := by omega
   have d1 : (0 : Int) ≤ (j : Int) := by omega
   gi_upto_region 4 with fail
   gi_cut [3] from 5 (fun line wc => line = .string (strOf (x ++ [10])) ∧ wc = W5)
   case first =>
    gi_region
    all_goals (try gi_wp2)
    all_goals gi_meet
    all_goals exact ⟨by rw [← HE.out.1], hW5.symm⟩
   case rest =>
   obtain ⟨rfl, rfl⟩ := hcut
   have hb5 : Blk wc Bu 9 #[.string (strOf (restP L c (k + 1)))] := by
    rw [hW5, ← HE.out.2]
    exact (HBk.out.drew).set 0 _
   have hk5 : KeepS R (fun b => b = Bu) W.heap.size wr wc := by
    rw [hW5]
    refine ⟨(Below.drew (Below.refl _ _)).setCell (Nat.zero_le _) _, fun b _ hb => Below.heap_setCell _ _ _ _ hb, fun b hb _ => Below.heap_setCell _ _ _ _ fun e => HR.out (by have e2 : b = Bu := e; rw [e2] at hb; exact hb)⟩
   obtain ⟨fn, tmps, assign, body, hy, hRn⟩ := HY.out k _ R wc HX.out (HJ.out _ _ _ _ HJk.out hk5)
   have HB5 : Hid (Blk wc Bu 9 #[.string (strOf (restP L c (k + 1)))]) := hb5
   clear hW5 hb5 hk5 c0 c1 f1 d0 d1
   gi_wp2
   refine hRn.mono ?_
   rintro e W6 (⟨rfl, R', hJ6, hO6, hR6⟩ | ⟨rfl, hJx6⟩)
   ·have HJ6 := hide hJ6
    have HB6 : Hid (Blk W6 Bu 9 #[.string (strOf (restP L c (k + 1)))]) := by
     unfold Hid Blk; rw [hO6.same _ (Or.inr rfl) HB5.out.lt HR.out]; exact HB5.out
    have HR6 : Hid (¬ R' Bu) := fun h => by
     rcases hR6 _ h with h | h
     ·exact HR.out h
     ·have := HB5.out.lt; omega
    clear hJ6 hO6 hR6 hy hRn
    gi_wp2
    gi_roundg (P.length - k)
    case rel => exact ⟨k + 1, R', by have := HkP.out; omega, by have := HkP.out; omega, ⟨HJ6.out, HR6.out⟩, HB6.out⟩
    case measure => have := HG.out; omega
   ·gi_wp2
    exact bodyPost_ret (results_none rfl _ _ _) rfl ⟨⟨_, rfl⟩, .inr ⟨k, HkP.out, hJx6⟩⟩
  ·by_cases hlast : k = L.length ∧ c ≠ []
   ·obtain ⟨hk1, hc0⟩ := hlast
    obtain ⟨s, hs, hs1, s0, s2, m, hm, hI⟩ := HLe.out hc0
    obtain ⟨p1, p2, p3⟩ := HP2.out hc0
    have HI := hide hI
    rw [← hk1] at p1 p2 p3 hs1
    have HX := hide p1
    have Hp2 := hide p2
    have Hp3 := hide p3
    have Hsc := hide hs
    rw [hs1] at HBk
    clear hs hs1 p1 p2 p3 hI hlt hk1 hc0
    have c0 : wr.cell? ⟨Bu, 0, none⟩ = some (.string s) := HBk.out.cell 0
    have f0 : wr.frozen? ⟨Bu, 0, none⟩ = false := HBk.out.frozen 0
    have hm0 : ¬ (0 : Int) ≤ m := by omega
    gi_wp2_with fail
    refine ⟨trivial, ?_⟩
    gi_at_call 34
    refine (callsIn_wide.2 (HI.out _)).mono ?_
    rintro e w8 ⟨rfl, rfl⟩
    obtain ⟨W5, hW5⟩ := nm (wr.setCell ⟨Bu, 0, none⟩ (.string ⟨#[]⟩))
    have HB5 : Hid (Blk W5 Bu 9 #[.string (strOf (restP L c (k + 1)))]) := by
     unfold Hid; rw [hW5, Hp3.out]
     exact HBk.out.set 0 _
    have hk5 : KeepS R (fun b => b = Bu) W.heap.size wr W5 := by
     rw [hW5]
     refine ⟨(Below.refl _ _).setCell (Nat.zero_le _) _, fun b _ hb => Below.heap_setCell _ _ _ _ hb, fun b hb _ => Below.heap_setCell _ _ _ _ fun e => HR.out (by have e2 : b = Bu := e; rw [e2] at hb; exact hb)⟩
    obtain ⟨fn, tmps, assign, body, hy, hRn⟩ := HY.out k _ R W5 HX.out (HJ.out _ _ _ _ HJk.out hk5)
    rw [← Hsc.out] at hy
    clear hk5
    gi_upto_region 6 with fail
    rw [← hW5]
    clear hW5 c0 f0
    gi_wp2
    refine hRn.mono ?_
    rintro e W6 (⟨rfl, R', hJ6, hO6, hR6⟩ | ⟨rfl, hJx6⟩)
    ·have HJ6 := hide hJ6
     have HB6 : Hid (Blk W6 Bu 9 #[.string (strOf (restP L c (k + 1)))]) := by
      unfold Hid Blk; rw [hO6.same _ (Or.inr rfl) HB5.out.lt HR.out]; exact HB5.out
     have HR6 : Hid (¬ R' Bu) := fun h => by
      rcases hR6 _ h with h | h
      ·exact HR.out h
      ·have := HB5.out.lt; omega
     clear hJ6 hO6 hR6 hy hRn
     gi_wp2
     gi_roundg (P.length - k)
     case rel => exact ⟨k + 1, R', by have := Hp2.out; omega, by have := Hp2.out; omega, ⟨HJ6.out, HR6.out⟩, HB6.out⟩
     case measure => have := HG.out; omega
    ·gi_wp2
     exact bodyPost_ret (results_none rfl _ _ _) rfl ⟨⟨_, rfl⟩, .inr ⟨k, by have := Hp2.out; omega, hJx6⟩⟩
   ·obtain ⟨e1, e2⟩ := HEnd.out k hlt hlast hk
    rw [e1] at HBk
    have c0 : wr.cell? ⟨Bu, 0, none⟩ = some (.string ⟨#[]⟩) := HBk.out.cell 0
    have HJk : Hid (J P.length R wr) := by unfold Hid; rw [← e2]; exact HJk.out
    clear e1 e2 hlt hlast
    gi_wp2
    go_end0
    exact ⟨⟨_, rfl⟩, .inl ⟨R, HJk.out⟩⟩
theorem SeqS.map {α β : Type} {n : Nat} {P : Program} {g : Nat} {lb : Array Value} {encs : α → Array Value} {f : β → α} {A : List β} {S : Nat → Prop} {W : World} (h : SeqS n P g lb encs (A.map f) S W) : SeqS n P g lb (fun x => encs (f x)) A S W := by
 intro l J Jx hJ hY h0
 have h1 := h l J Jx hJ (fun k y R W1 hy hj => by
  rw [List.getElem?_map] at hy
  cases hx : A[k]? with
  | none => rw [hx] at hy; cases hy
  | some x => rw [hx] at hy; obtain rfl := Option.some.inj hy; exact hY k x R W1 hx hj) h0
 rw [List.length_map] at h1
 exact h1
theorem lines_iter (L : List (List UInt8)) (hL : ∀ x ∈ L, plainC 10 x = true) (hz : (linesT L).length ≤ 9223372036854775806) (n : Nat) (hn : 1 ≤ n) (Bu : Nat) (W : World) (hB : Blk W Bu 9 #[.string (strOf (linesT L))]) :
    SeqS n Tryz.prog 33 #[.pointer (some ⟨Bu, 0, none⟩)] encL L (fun b => b = Bu) W := by
 have h := lines_any L [] hL rfl (by rw [List.append_nil]; exact hz) n hn Bu W (by rw [List.append_nil]; exact hB)
 rw [show pieces L [] = L.map (fun x => x ++ [10]) by unfold pieces; rw [if_pos rfl, List.append_nil]] at h
 exact h.map
end Go.Proofs.YtnoohlibgaeklaaGreatDoor
namespace Go.Proofs.YtnoohlibgaeklaaGreatDoor
open Go.ChangeShapes Go.WideShapes Go.ChangeAt Go.RowKit
set_option maxRecDepth 100000
theorem infoBld : (Tryz.prog.info? 42).map (·.size) = some 2 := by kernel_rfl
theorem liesBld : liesAt Tryz.prog Tryz.prog.depth 42 (2 / Tryz.prog.cellsOf 42) 0 42 1 = true := by kernel_rfl
theorem infoU8 : (Tryz.prog.info? 5).map (fun i => (i.zero, i.size, i.bytes)) = some (some (.int .u8 0), 1, 1) := by kernel_rfl
theorem cellsU8 : Tryz.prog.cellsOf 5 = 1 := by kernel_rfl
set_option maxHeartbeats 1000000 in
theorem bcheck_used (b : Nat) (w : World) (h0 : w.cell? ⟨b, 0, none⟩ = some (.pointer (some ⟨b, 0, none⟩))) :
    Calls Tryz.prog 43 #[.pointer (some ⟨b, 0, none⟩)] w fun e w' => e = .returned (.tuple #[]) ∧ w' = w := by
 obtain ⟨j, hj, _⟩ := Option.map_eq_some_iff.1 infoBld
 go_enter Tryz.func43, Tryz.ntmps43
 go_wp2
 rw [Lib.run_neq_ptr_same w _ Tryz.underlying39 hj]
 go_wp2
 go_end0
 exact ⟨rfl, rfl⟩
set_option maxHeartbeats 1000000 in
theorem bcheck_fresh (b : Nat) (w : World) (h0 : w.cell? ⟨b, 0, none⟩ = some (.pointer none)) (hsh : w.shape? b = some (42, 2)) (hfz : w.frozen? ⟨b, 0, none⟩ = false) :
    Calls Tryz.prog 43 #[.pointer (some ⟨b, 0, none⟩)] w fun e w' => e = .returned (.tuple #[]) ∧ w' = w.setCell ⟨b, 0, none⟩ (.pointer (some ⟨b, 0, none⟩)) := by
 obtain ⟨j, hj, hjs⟩ := Option.map_eq_some_iff.1 infoBld
 go_enter Tryz.func43, Tryz.ntmps43
 go_wp2
 rw [Lib.run_to_unsafe w ⟨b, 0, none⟩ Tryz.underlying39 Tryz.underlying121 hj (by rw [hjs]; decide) hsh (Nat.zero_lt_succ 1)]
 simp only [Result.andThen]
 rw [Oper.upon_value]
 go_wp2
 rw [run_callFunc_extern Tryz.func69 (by kernel_rfl) (by kernel_rfl) (by kernel_rfl) (e := Extern.AbiNoEscape.same) (by kernel_rfl)]
 rw [Lib.run_noEscape]
 simp only [Result.andThen]
 rw [Oper.upon_value]
 go_wp2
 rw [Lib.run_from_unsafe w ⟨b, 0, none⟩ Tryz.underlying121 Tryz.underlying39 hj hsh liesBld]
 simp only [Result.andThen]
 rw [Oper.upon_value]
 go_wp2
 go_end0
 exact ⟨rfl, rfl⟩
theorem bcheck_any (B b : Nat) (bs : List Value) (w : World) (h : Lib.IsBuilder 42 5 B b bs w) :
    Calls Tryz.prog 43 #[.pointer (some ⟨b, 0, none⟩)] w fun e w' => e = .returned (.tuple #[]) ∧ (Lib.BuilderAt 42 5 B b (.pointer (some ⟨b, 0, none⟩)) bs w' ∧ Below B w w') := by
 rcases h with h | h
 ·refine (bcheck_fresh b w h.cell0 h.shape h.frozen0).mono ?_
  rintro e w' ⟨rfl, rfl⟩
  exact ⟨rfl, h.used _, (Below.refl B w).setCell (p := ⟨b, 0, none⟩) h.1 _⟩
 ·refine (bcheck_used b w h.cell0).mono ?_
  rintro e w' ⟨rfl, rfl⟩
  exact ⟨rfl, h, Below.refl B _⟩
set_option maxHeartbeats 2000000 in
theorem bwrite_any (B b : Nat) (bs : List Value) (s : ByteArray) (w : World) (h : Lib.IsBuilder 42 5 B b bs w) (hlen : bs.length + s.size ≤ 140737488355328) (hBw : B ≤ w.heap.size) :
    Calls Tryz.prog 14 #[.pointer (some ⟨b, 0, none⟩), .string s] w fun e w' => e = .returned (.tuple #[.int .i64 s.size, .nilIface]) ∧ (Lib.BuilderAt 42 5 B b (.pointer (some ⟨b, 0, none⟩)) (bs ++ Lib.strCells s) w' ∧ Below B w w') := by
 obtain ⟨i0, hi, hz0, hz1, hz2⟩ := info_parts infoU8
 have HC : Hid (Calls Tryz.prog 43 #[.pointer (some ⟨b, 0, none⟩)] w fun e w' => e = .returned (.tuple #[]) ∧ (Lib.BuilderAt 42 5 B b (.pointer (some ⟨b, 0, none⟩)) bs w' ∧ Below B w w')) := bcheck_any B b bs w h
 go_enter Tryz.func14, Tryz.ntmps14
 go_wp2_with (go_at_call 43; refine HC.out.mono ?_)
 rintro e w1 ⟨rfl, h1, hb1⟩
 obtain ⟨hB, v, hbk, hown, hne⟩ := h1
 have c0 : w1.cell? ⟨b, 0, none⟩ = some (.pointer (some ⟨b, 0, none⟩)) := by rw [Lib.cell_of_heap hbk]; rfl
 have c1 : w1.cell? ⟨b, 1, none⟩ = some v := by rw [Lib.cell_of_heap hbk]; rfl
 go_wp2_with (at_builtin; refine Lib.wpList_append_own_string _ rfl _ _ 40 9 rfl B 5 i0 Tryz.underlying40 Tryz.underlying9 hi hz0 hz1 hz2 _ _ _ rfl hown s rfl ?c3 ?c4 ?c5 ?_)
 case c3 => unfold maxLen; omega
 case c4 => omega
 case c5 => have := hb1.size; omega
 intro v' w2 hown' hgrow _
 have hlt : b < w1.heap.size := by
  rcases Nat.lt_or_ge b w1.heap.size with h' | h'
  ·exact h'
  ·simp [Array.getElem?_eq_none h'] at hbk
 have hb2 : w2.heap[b]? = some (.cells #[.pointer (some ⟨b, 0, none⟩), v] 42 (0, 0)) := by
  rw [hgrow.block b hlt (fun e => hne e.symm)]
  exact hbk
 have d0 : w2.cell? ⟨b, 0, none⟩ = some (.pointer (some ⟨b, 0, none⟩)) := by rw [Lib.cell_of_heap hb2]; rfl
 have d1 : w2.cell? ⟨b, 1, none⟩ = some v := by rw [Lib.cell_of_heap hb2]; rfl
 have f1 : w2.frozen? ⟨b, 1, none⟩ = false := Lib.frozen_of_heap hb2 1
 obtain ⟨ao, n', cap, rfl⟩ : ∃ ao n' cap, v' = .slice ao n' cap := by
  rcases hown'.2 with ⟨hv, _⟩ | ⟨g, cap, cur, hv, _⟩
  ·exact ⟨_, _, _, hv⟩
  ·exact ⟨_, _, _, hv⟩
 go_wp2
 go_ret2
 refine ⟨rfl, ?_, ?_⟩
 ·exact Lib.BuilderAt.put (T := 42) (e := 5) hB hb2 (bs' := bs ++ Lib.strCells s) (by simpa [Lib.strCells_length] using hown') (by decide)
 ·exact (hb1.grown hgrow (by have := hb1.size; omega) (fun k hk => (hown.lt k hk).1)).setCell (p := ⟨b, 1, none⟩) hB _
set_option maxHeartbeats 1000000 in
theorem bstring_any (B b : Nat) (l : List UInt8) (w : World) (h : Lib.IsBuilder 42 5 B b (Lib.byteCells l) w) (h0 : l ≠ []) :
    Calls Tryz.prog 16 #[.pointer (some ⟨b, 0, none⟩)] w fun e w' => e = .returned (.string ⟨l.toArray⟩) ∧ Below B w w' := by
 obtain ⟨p, hB, v, hbk, hown, hne⟩ : ∃ p, Lib.BuilderAt 42 5 B b p (Lib.byteCells l) w := by
  rcases h with h | h
  ·exact ⟨_, h⟩
  ·exact ⟨_, h⟩
 have hl0 : l.length ≠ 0 := by simpa using h0
 rw [Lib.byteCells_length] at hown
 obtain ⟨g, cap, cur, rfl, hbg, hg, hnc, hcm, hcs, htake⟩ : ∃ g cap cur, v = .slice (some ⟨g, 0, none⟩) l.length cap ∧ B ≤ g ∧ w.heap[g]? = some (.cells cur 5 (0, 0)) ∧ l.length ≤ cap ∧ cap ≤ maxLen ∧ cur.size = cap * 1 ∧ cur.toList.take (l.length * 1) = Lib.byteCells l := by
  rcases hown.2 with ⟨_, hz⟩ | ⟨g, cap, cur, hv, r⟩
  ·exact absurd hz hl0
  ·exact ⟨g, cap, cur, hv, r⟩
 have c1 : w.drew.cell? ⟨b, 1, none⟩ = some (.slice (some ⟨g, 0, none⟩) l.length cap) := by
  have : w.drew.heap[b]? = some (.cells #[p, .slice (some ⟨g, 0, none⟩) l.length cap] 42 (0, 0)) := hbk
  rw [Lib.cell_of_heap this]; rfl
 have hSD : (Builtin.unsafeSliceData_ #[40] 97 #[.slice (some ⟨g, 0, none⟩) l.length cap]).run Tryz.prog w.drew = .ok (.pointer (some ⟨g, 0, none⟩)) w.drew :=
  Lib.run_unsafeSliceData_row _ _ _ _ _ _ (by omega)
 have hUS : (Builtin.unsafeString_ #[97, 3] 9 #[.pointer (some ⟨g, 0, none⟩), .int .i64 l.length]).run Tryz.prog w.drew = .ok (.string ⟨l.toArray⟩) (w.drew.freeze ⟨g, 0, none⟩ l.length) := by
  refine Lib.run_unsafeString_row w.drew 97 3 9 5 Tryz.underlying97 cellsU8 g cur.size (by have hg' : w.drew.heap[g]? = some (.cells cur 5 (0, 0)) := hg; simp [World.shape?, hg']) l h0 (by omega) (by unfold maxLen at hcm; omega) ?_
  intro j x hx
  have := hown.cells (g := g) rfl j (.int .u8 x.toNat) (by simp [Lib.byteCells, hx])
  exact this
 go_enter Tryz.func16, Tryz.ntmps16
 go_wp2
 go_region
 all_goals (go_wp2; go_ret; exact ⟨rfl, Lib.below_freeze (Below.drew (Below.refl B w)) (p := ⟨g, 0, none⟩) hbg _⟩)
end Go.Proofs.YtnoohlibgaeklaaGreatDoor
namespace Go.Proofs.YtnoohlibgaeklaaGreatDoor
open Go.ChangeShapes Go.WideShapes Go.ChangeAt Go.RowKit
set_option maxRecDepth 100000
def BldIn (R : Nat → Prop) (b : Nat) (l : List UInt8) (W : World) : Prop :=
 ∃ p v, (p = .pointer none ∨ p = .pointer (some ⟨b, 0, none⟩)) ∧ Blk W b 42 #[p, v] ∧ W.ownsRow 0 5 1 v l.length (Lib.byteCells l) ∧ (∀ g, v.ownBlock = some g → R g ∧ g ≠ b) ∧ (l = [] → v = .slice none 0 0)
theorem bld_new (R : Nat → Prop) (w : World) : BldIn R w.heap.size [] (w.alloc (.cells #[.pointer none, .slice none 0 0] 42)) :=
 ⟨_, _, Or.inl rfl, Blk.new _ _ _, World.ownsRow_nil _ _ _ _, (fun g e => by cases e), fun _ => rfl⟩
theorem BldIn.keep {R : Nat → Prop} {b : Nat} {l : List UInt8} {W W' : World} (h : BldIn R b l W) (hb : W'.heap[b]? = W.heap[b]?) (hs : ∀ g, R g → g < W.heap.size → W'.heap[g]? = W.heap[g]?) : BldIn R b l W' := by
 obtain ⟨p, v, hp, hB, hown, hR, h0⟩ := h
 refine ⟨p, v, hp, by unfold Blk; rw [hb]; exact hB, ?_, hR, h0⟩
 refine ⟨hown.1, ?_⟩
 rcases hown.2 with h0 | ⟨g, cap, cur, hv, h1, hg, rest⟩
 ·exact Or.inl h0
 ·have hl := (Array.getElem?_eq_some_iff.1 hg).1
  exact Or.inr ⟨g, cap, cur, hv, h1, (hs g (hR g (by rw [hv]; rfl)).1 hl).trans hg, rest⟩
theorem BldIn.mono {R R' : Nat → Prop} {b : Nat} {l : List UInt8} {W : World} (h : BldIn R b l W) (hR : ∀ g, R g → R' g) : BldIn R' b l W := by
 obtain ⟨p, v, hp, hB, hown, hr, h0⟩ := h
 exact ⟨p, v, hp, hB, hown, fun g e => ⟨hR g (hr g e).1, (hr g e).2⟩, h0⟩
structure BldStep (R : Nat → Prop) (b : Nat) (W W' : World) : Prop where
 rest : Below 0 W W'
 same : ∀ k, k < W.heap.size → k ≠ b → ¬ R k → W'.heap[k]? = W.heap[k]?
theorem own_elsewhere {X : World} {K n size : Nat} {e : TypeId} {v : Value} {xs : List Value} (h : X.ownsRow K e size v n xs) {b : Nat} (hp : ∀ g, v.ownBlock = some g → g ≠ b) (j : Nat) (u : Value) : (X.setCell ⟨b, j, none⟩ u).ownsRow K e size v n xs := by
 refine ⟨h.1, ?_⟩
 rcases h.2 with h0 | ⟨g, cap, cur, hv, hb, hg, rest⟩
 ·exact Or.inl h0
 ·exact Or.inr ⟨g, cap, cur, hv, hb, (Below.heap_setCell _ _ _ _ (hp g (by rw [hv]; rfl))).trans hg, rest⟩
theorem append_at {w : World} (i : TypeInfo) (hi : Tryz.prog.info? 5 = some i) (hz : i.zero = some (.int .u8 0)) (hsize : i.size = 1) (hby : i.bytes = 1) (ty : TypeId)
    {v : Value} {n : Nat} {xs : List Value} (hown : w.ownsRow 0 5 1 v n xs) (s : ByteArray) (hs : n + s.size ≤ 1000000000) :
    ∃ v' w', (Builtin.append_ #[40, 9] ty #[v, .string s]).run Tryz.prog w = .ok v' w' ∧ w'.ownsRow 0 5 1 v' (n + s.size) (xs ++ Lib.strCells s) ∧ w.grownBy w' v.ownBlock ∧ (v'.ownBlock = v.ownBlock ∨ v'.ownBlock = some w.heap.size) := by
 obtain ⟨v', w', hr, h1, h2, h3⟩ := Lib.run_append_own_string (P := Tryz.prog) w 0 40 9 ty 5 i Tryz.underlying40 Tryz.underlying9 hi hz hsize hby v n xs hown s (by unfold maxLen; omega) (by omega) (Nat.zero_le _)
 refine ⟨v', w', hr, h1, h2, ?_⟩
 rcases hown.2 with ⟨rfl, rfl⟩ | ⟨g, cap, cur, rfl, hbg, hg, hnc, hcm, hcs, htake⟩
 ·by_cases hm : s.size = 0
  ·rw [h3.2 ⟨rfl, hm⟩]; exact Or.inl rfl
  ·-- the row begins in a new block: it owns its bytes from there on
   obtain ⟨v2, w2, hr2, k1, _, k3⟩ := Lib.run_append_own_string (P := Tryz.prog) w w.heap.size 40 9 ty 5 i Tryz.underlying40 Tryz.underlying9 hi hz hsize hby (.slice none 0 0) 0 xs ⟨hown.1, Or.inl ⟨rfl, rfl⟩⟩ s (by unfold maxLen; omega) (by omega) (Nat.le_refl _)
   rw [hr] at hr2
   obtain ⟨rfl, rfl⟩ : v' = v2 ∧ w' = w2 := by injection hr2 with a b; exact ⟨a, b⟩
   rcases k1.2 with ⟨h, h0⟩ | ⟨g, cap, cur, rfl, hbg, hg, _⟩
   ·omega
   ·right
    have hlt := (Array.getElem?_eq_some_iff.1 hg).1
    have hnil := run_append_nil_string (P := Tryz.prog) w 40 9 ty 5 i (.int .u8 0) Tryz.underlying40 Tryz.underlying9 hi hz s (by omega) (by omega) (by rw [hby]; omega)
    rw [hr] at hnil
    injection hnil with a b
    rw [a]; rfl
 ·by_cases hroom : n + s.size ≤ cap
  ·have hcs' : cur.size = cap := by simpa using hcs
   have h := Lib.run_append_room_string (P := Tryz.prog) w 40 9 ty 5 i Tryz.underlying40 Tryz.underlying9 hi hsize g n cap cur hg s hroom (by omega)
   rw [hr] at h
   injection h with a b
   rw [a]; exact Or.inl rfl
  ·have h := Lib.run_append_grow_string (P := Tryz.prog) w 40 9 ty 5 i (.int .u8 0) Tryz.underlying40 Tryz.underlying9 hi hz ⟨g, 0, none⟩ n cap xs (by rw [hsize]; simpa using hown.1) (hown.cells (g := g) rfl) s (by omega) (by omega) (by rw [hby]; exact growslice_fits (by omega) (by omega))
   rw [hr] at h
   injection h with a b
   rw [a]; exact Or.inr rfl
theorem wpList_bytes {w : World} {ops : Array Oper} {rest : List Oper} {o : Oper} {a : Act} {Q : Exit → Act → World → Prop} (hgd : o.guard = none) (sl x : Operand)
    (ho : o.op = .call { callee := .builtin .append, args := #[sl, x], argTypes := #[40, 9] }) (i : TypeInfo) (hi : Tryz.prog.info? 5 = some i) (hz : i.zero = some (.int .u8 0)) (hsize : i.size = 1) (hby : i.bytes = 1)
    (v : Value) (n : Nat) (xs : List Value) (hs : a.eval sl = v) (hown : w.ownsRow 0 5 1 v n xs) (s : ByteArray) (hx : a.eval x = .string s) (hn : n + s.size ≤ 1000000000)
    (h : ∀ v' w', w'.ownsRow 0 5 1 v' (n + s.size) (xs ++ Lib.strCells s) → w.grownBy w' v.ownBlock → (v'.ownBlock = v.ownBlock ∨ v'.ownBlock = some w.heap.size) → wpList Tryz.prog ops Q rest (a.put o.dst v') w') : wpList Tryz.prog ops Q (o :: rest) a w := by
 refine wpList_plain hgd fun K hK => ?_
 obtain ⟨v', w', hr, h2, h3, h4⟩ := append_at i hi hz hsize hby o.type hown s hn
 unfold Oper.wp execOp
 simp only [ho, resolve, invoke, builtin, Sem.run_bind, Sem.run_pure, Result.andThen_ok, List.map_toArray, List.map_cons, List.map_nil, hs, hx, hr]
 exact hK _ _ (h v' w' h2 h3 h4)
set_option maxHeartbeats 2000000 in
theorem bwrite_in (R : Nat → Prop) (b : Nat) (l : List UInt8) (s : ByteArray) (w : World) (h : BldIn R b l w) (hlen : l.length + s.size ≤ 1000000000) (hs0 : 0 < s.size) :
    Calls Tryz.prog 14 #[.pointer (some ⟨b, 0, none⟩), .string s] w fun e w' => e = .returned (.tuple #[.int .i64 s.size, .nilIface]) ∧ BldIn (fun g => R g ∨ w.heap.size ≤ g) b (l ++ s.data.toList) w' ∧ BldStep R b w w' := by
 obtain ⟨p, v, hp, hB, hown, hR, _⟩ := h
 obtain ⟨i0, hi, hz0, hz1, hz2⟩ := info_parts infoU8
 have hat : Lib.IsBuilder 42 5 0 b (Lib.byteCells l) w := by
  have hown' : w.ownsRow 0 5 1 v (Lib.byteCells l).length (Lib.byteCells l) := by rw [Lib.byteCells_length]; exact hown
  rcases hp with rfl | rfl
  ·exact Or.inl ⟨Nat.zero_le _, v, hB, hown', fun e => (hR b e).2 rfl⟩
  ·exact Or.inr ⟨Nat.zero_le _, v, hB, hown', fun e => (hR b e).2 rfl⟩
 have HC : Hid (Calls Tryz.prog 43 #[.pointer (some ⟨b, 0, none⟩)] w fun e w' => e = .returned (.tuple #[]) ∧ ∃ W, w' = W ∧ Blk W b 42 #[.pointer (some ⟨b, 0, none⟩), v] ∧ W.heap.size = w.heap.size ∧ (∀ k, k ≠ b → W.heap[k]? = w.heap[k]?) ∧ Below 0 w W) := by
  rcases hp with rfl | rfl
  ·have hat : Lib.BuilderAt 42 5 0 b (.pointer none) (Lib.byteCells l) w := ⟨Nat.zero_le _, v, hB, by rw [Lib.byteCells_length]; exact hown, fun e => (hR b e).2 rfl⟩
   refine (bcheck_fresh b w hat.cell0 hat.shape hat.frozen0).mono ?_
   rintro e w' ⟨rfl, rfl⟩
   exact ⟨rfl, _, rfl, hB.set 0 _, by simp [World.setCell], fun k hk => Below.heap_setCell _ _ _ _ hk, (Below.refl 0 w).setCell (Nat.zero_le _) _⟩
  ·refine (bcheck_used b w (hB.cell 0)).mono ?_
   rintro e w' ⟨rfl, rfl⟩
   exact ⟨rfl, _, rfl, hB, rfl, fun _ _ => rfl, Below.refl _ _⟩
 have HR := hide hR
 have HO := hide hown
 clear hp hB hown hR
 go_enter Tryz.func14, Tryz.ntmps14
 go_wp2_with (go_at_call 43; refine HC.out.mono ?_)
 rintro e w9 ⟨rfl, w1, rfl, hB1, hs1, hk1, hb01⟩
 have c0 : w9.cell? ⟨b, 0, none⟩ = some (.pointer (some ⟨b, 0, none⟩)) := hB1.cell 0
 have c1 : w9.cell? ⟨b, 1, none⟩ = some v := hB1.cell 1
 have HB1 : Hid (Blk w9 b 42 #[.pointer (some ⟨b, 0, none⟩), v]) := hB1
 have H1 : Hid (w9.heap.size = w.heap.size ∧ (∀ k, k ≠ b → w9.heap[k]? = w.heap[k]?) ∧ Below 0 w w9) := ⟨hs1, hk1, hb01⟩
 have HO1 : Hid (w9.ownsRow 0 5 1 v l.length (Lib.byteCells l)) := by
  refine ⟨HO.out.1, ?_⟩
  rcases HO.out.2 with h0 | ⟨g, cap, cur, hv, h1, hg, rest⟩
  ·exact Or.inl h0
  ·exact Or.inr ⟨g, cap, cur, hv, h1, (hk1 g (HR.out g (by rw [hv]; rfl)).2).trans hg, rest⟩
 clear hB1 hs1 hk1 hb01
 go_wp2_with (at_builtin; refine wpList_bytes rfl _ _ rfl i0 hi hz0 hz1 hz2 v l.length (Lib.byteCells l) rfl HO1.out s rfl hlen ?_)
 intro v' w2 hown' hgrow hat
 have hlt : b < w9.heap.size := HB1.out.lt
 have hne : v.ownBlock ≠ some b := fun e => (HR.out b e).2 rfl
 have hb2 : Blk w2 b 42 #[.pointer (some ⟨b, 0, none⟩), v] := by
  unfold Blk; rw [hgrow.block b hlt (fun e => hne e.symm)]; exact HB1.out
 have HB2 : Hid (Blk w2 b 42 #[.pointer (some ⟨b, 0, none⟩), v]) := hb2
 have HG : Hid (w9.grownBy w2 v.ownBlock ∧ (v'.ownBlock = v.ownBlock ∨ v'.ownBlock = some w9.heap.size) ∧ w2.ownsRow 0 5 1 v' (l.length + s.size) (Lib.byteCells l ++ Lib.strCells s)) := ⟨hgrow, hat, hown'⟩
 have d0 : w2.cell? ⟨b, 0, none⟩ = some (.pointer (some ⟨b, 0, none⟩)) := hb2.cell 0
 have d1 : w2.cell? ⟨b, 1, none⟩ = some v := hb2.cell 1
 have f1 : w2.frozen? ⟨b, 1, none⟩ = false := hb2.frozen 1
 obtain ⟨ao, n', cap, rfl⟩ : ∃ ao n' cap, v' = .slice ao n' cap := by
  rcases hown'.2 with ⟨hv, _⟩ | ⟨g, cap, cur, hv, _⟩
  ·exact ⟨_, _, _, hv⟩
  ·exact ⟨_, _, _, hv⟩
 clear hlt hne hb2 hgrow hat hown' c0 c1 hi hz0 hz1 hz2
 go_wp2
 go_ret2
 obtain ⟨g1, g2, g3⟩ := HG.out
 obtain ⟨k1, k2, k3⟩ := H1.out
 have hR' : ∀ g, (Value.slice ao n' cap).ownBlock = some g → (R g ∨ w.heap.size ≤ g) ∧ g ≠ b := fun g e => by
  rcases g2 with h | h
  ·rw [h] at e; exact ⟨Or.inl (HR.out g e).1, (HR.out g e).2⟩
  ·rw [h] at e
   have e2 := Option.some.inj e
   have := HB1.out.lt
   exact ⟨Or.inr (by omega), by omega⟩
 refine ⟨rfl, ⟨_, _, Or.inr rfl, HB2.out.set 1 _, ?_, hR', fun e => ?_⟩, ?_, fun k hk hkb hkR => ?_⟩
 ·rw [List.length_append, Lib.byteCells_append]
  have hl : s.data.toList.length = s.size := Array.length_toList
  rw [hl, ← Lib.strCells_eq]
  exact own_elsewhere g3 (fun g e => (hR' g e).2) _ _
 ·have hl : s.data.toList.length = s.size := Array.length_toList
  have h0 : l.length + s.data.toList.length = 0 := by rw [← List.length_append, e]; rfl
  omega
 ·exact ((k3.grown g1 (Nat.zero_le _) fun _ _ => Nat.zero_le _).setCell (Nat.zero_le _) _)
 ·rw [Below.heap_setCell _ _ _ _ (show k ≠ b from hkb), g1.block k (by omega) fun e => hkR (HR.out k e.symm).1, k2 k hkb]
theorem BldIn.to {R : Nat → Prop} {b B : Nat} {l : List UInt8} {W : World} (h : BldIn R b l W) (hR : ∀ g, R g → B ≤ g) (hb : B ≤ b) : Lib.IsBuilder 42 5 B b (Lib.byteCells l) W := by
 obtain ⟨p, v, hp, hB, hown, hr, _⟩ := h
 have hown' : W.ownsRow B 5 1 v (Lib.byteCells l).length (Lib.byteCells l) := by
  rw [Lib.byteCells_length]
  refine ⟨hown.1, ?_⟩
  rcases hown.2 with h0 | ⟨g, cap, cur, hv, _, hg, rest⟩
  ·exact Or.inl h0
  ·exact Or.inr ⟨g, cap, cur, hv, hR g (hr g (by rw [hv]; rfl)).1, hg, rest⟩
 rcases hp with rfl | rfl
 ·exact Or.inl ⟨hb, v, hB, hown', fun e => (hr b e).2 rfl⟩
 ·exact Or.inr ⟨hb, v, hB, hown', fun e => (hr b e).2 rfl⟩
set_option maxHeartbeats 1000000 in
theorem bstring_none (R : Nat → Prop) (b : Nat) (w : World) (h : BldIn R b [] w) :
    Calls Tryz.prog 16 #[.pointer (some ⟨b, 0, none⟩)] w (Bk w (.string ⟨#[]⟩)) := by
 obtain ⟨p, v, hp, hB, hown, hr, h0⟩ := h
 obtain rfl := h0 rfl
 have c1 : w.drew.cell? ⟨b, 1, none⟩ = some (.slice none 0 0) := hB.cell 1
 have hSD : (Builtin.unsafeSliceData_ #[40] 97 #[.slice none 0 0]).run Tryz.prog w.drew = .ok (.pointer none) w.drew := Lib.run_unsafeSliceData_nil _ _ _ _ _
 have hUS : (Builtin.unsafeString_ #[97, 3] 9 #[.pointer none, .int .i64 0]).run Tryz.prog w.drew = .ok (.string .empty) w.drew := Lib.run_unsafeString_none _ _ _ _ _
 clear hp hB hown hr h0
 go_enter Tryz.func16, Tryz.ntmps16
 go_wp2
 go_region
 all_goals (go_wp2; go_ret; exact ⟨rfl, (Below.refl _ _).drew⟩)
theorem freeze_other (w : World) (g n k : Nat) (hk : k ≠ g) : (w.freeze ⟨g, 0, none⟩ n).heap[k]? = w.heap[k]? := by
 unfold World.freeze
 split
 ·rfl
 ·simp only [Array.getElem?_modify]
  rw [if_neg (fun e => hk e.symm)]
set_option maxHeartbeats 1000000 in
theorem bstring_some (R : Nat → Prop) (b : Nat) (l : List UInt8) (w : World) (h : BldIn R b l w) (hl : l ≠ []) :
    Calls Tryz.prog 16 #[.pointer (some ⟨b, 0, none⟩)] w fun e w' => e = .returned (.string ⟨l.toArray⟩) ∧ BldStep R b w w' := by
 obtain ⟨p, v, hp, hB, hown, hr, _⟩ := h
 have hl0 : l.length ≠ 0 := by simpa using hl
 obtain ⟨g, cap, cur, rfl, _, hg, hnc, hcm, hcs, htake⟩ : ∃ g cap cur, v = .slice (some ⟨g, 0, none⟩) l.length cap ∧ 0 ≤ g ∧ w.heap[g]? = some (.cells cur 5 (0, 0)) ∧ l.length ≤ cap ∧ cap ≤ maxLen ∧ cur.size = cap * 1 ∧ cur.toList.take (l.length * 1) = Lib.byteCells l := by
  rcases hown.2 with ⟨_, hz⟩ | ⟨g, cap, cur, hv, r⟩
  ·exact absurd hz hl0
  ·exact ⟨g, cap, cur, hv, r⟩
 have c1 : w.drew.cell? ⟨b, 1, none⟩ = some (.slice (some ⟨g, 0, none⟩) l.length cap) := hB.cell 1
 have hSD : (Builtin.unsafeSliceData_ #[40] 97 #[.slice (some ⟨g, 0, none⟩) l.length cap]).run Tryz.prog w.drew = .ok (.pointer (some ⟨g, 0, none⟩)) w.drew :=
  Lib.run_unsafeSliceData_row _ _ _ _ _ _ (by omega)
 have hUS : (Builtin.unsafeString_ #[97, 3] 9 #[.pointer (some ⟨g, 0, none⟩), .int .i64 l.length]).run Tryz.prog w.drew = .ok (.string ⟨l.toArray⟩) (w.drew.freeze ⟨g, 0, none⟩ l.length) := by
  refine Lib.run_unsafeString_row w.drew 97 3 9 5 Tryz.underlying97 cellsU8 g cur.size (by have hg' : w.drew.heap[g]? = some (.cells cur 5 (0, 0)) := hg; simp [World.shape?, hg']) l hl (by omega) (by unfold maxLen at hcm; omega) ?_
  intro j x hx
  have := hown.cells (g := g) rfl j (.int .u8 x.toNat) (by simp [Lib.byteCells, hx])
  exact this
 have HR : Hid (R g) := (hr g rfl).1
 have HB0 : Hid (Below 0 w (w.drew.freeze ⟨g, 0, none⟩ l.length)) := Lib.below_freeze (Below.drew (Below.refl 0 w)) (p := ⟨g, 0, none⟩) (Nat.zero_le _) _
 clear hp hB hown hr hg hnc hcm hcs htake
 go_enter Tryz.func16, Tryz.ntmps16
 go_wp2
 go_region
 all_goals
  go_wp2
  go_ret
  refine ⟨rfl, HB0.out, fun k _ _ hkR => ?_⟩
  exact freeze_other w.drew g _ k fun e => hkR (e ▸ HR.out)
theorem bstring_in (R : Nat → Prop) (b : Nat) (l : List UInt8) (w : World) (h : BldIn R b l w) :
    Calls Tryz.prog 16 #[.pointer (some ⟨b, 0, none⟩)] w fun e w' => e = .returned (.string ⟨l.toArray⟩) ∧ BldStep R b w w' := by
 by_cases h0 : l = []
 ·subst h0
  exact (bstring_none R b w h).mono fun e w' ⟨h1, h2⟩ => ⟨h1, ⟨h2.os, h2.tape, h2.output, h2.size, fun k hk => by omega⟩, fun k hk _ _ => h2.block k hk⟩
 ·exact bstring_some R b l w h h0
end Go.Proofs.YtnoohlibgaeklaaGreatDoor
namespace Go.Proofs.YtnoohlibgaeklaaGreatDoor
open Go.RowKit
structure LgOk (u : Int) (l : Lg) : Prop where
 hu : l.u = u
 good : ∀ f ∈ l.fs, ∃ a h, f = aloneF a h ∧ a.fault = 0
 n6 : l.fs.length ≤ 6
 op : openN l.fs u.toNat = true
 stop : l.stop = false
 left : l.left < 0
theorem lgok0 (u : Int) : LgOk u (lg0 u) := ⟨rfl, fun f h => (by cases h), Nat.zero_le _, open_nil _, rfl, by show (-1 : Int) < 0; decide⟩
theorem lgok_say {u : Int} {l : Lg} (h : LgOk u l) (a : At) (b : Bool) (n : Int) : LgOk u (l.say a b n) ∧ ((l.sayE a b = 0 ∧ (l.say a b n).fs.length = l.fs.length + 1) ∨ (¬ l.sayE a b = 0 ∧ (l.say a b n).fs.length = l.fs.length)) := by
 by_cases hw : l.wrong a b = 0
 ·have e := wrong_of h.stop a b
  rw [hw] at e
  have ha : a.fault = 0 := by
   by_cases ha : a.fault = 0
   ·exact ha
   ·rw [if_neg ha] at e; exact absurd e.symm ha
  rw [if_pos ha] at e
  have h6 : l.fs.length < 6 := by
   by_cases h6 : 6 ≤ l.fs.length
   ·rw [if_pos h6] at e; exact absurd e (by decide)
   ·omega
  rw [if_neg (by omega)] at e
  have ho : openN (l.fs ++ [aloneF a b]) l.u.toNat = true := by
   by_cases ho : openN (l.fs ++ [aloneF a b]) l.u.toNat = true
   ·exact ho
   ·rw [if_neg ho] at e; exact absurd e (by decide)
  obtain ⟨e1, e2⟩ := say_ok h.stop ha h6 ho (by have := h.left; omega)
  rw [e2 n]
  refine ⟨⟨h.hu, fun f hf => ?_, ?_, ?_, h.stop, ?_⟩, Or.inl ⟨e1, ?_⟩⟩
  ·rcases List.mem_append.1 hf with hf | hf
   ·exact h.good f hf
   ·exact ⟨a, b, by simpa using hf, ha⟩
  ·show (l.fs ++ [aloneF a b]).length ≤ 6
   rw [List.length_append]; show _ + 1 ≤ 6; omega
  ·rw [h.hu] at ho; exact ho
  ·show lessN1 l.left < 0
   unfold lessN1; rw [if_pos h.left]; exact h.left
  ·show (l.fs ++ [aloneF a b]).length = _
   rw [List.length_append]; rfl
 ·obtain ⟨e1, e2⟩ := say_no hw
  rw [e2 n]
  exact ⟨h, Or.inr ⟨by rw [e1]; exact hw, rfl⟩⟩
theorem lgok_sync {u : Int} {l : Lg} (h : LgOk u l) : l.syncE = 0 ∧ LgOk u l.sync ∧ l.sync.fs = l.fs := by
 have hl : ¬ l.left = 0 := by have := h.left; omega
 unfold Lg.syncE Lg.sync
 rw [h.stop, if_neg (by decide), if_neg hl, if_neg (by decide), if_neg hl]
 refine ⟨rfl, ⟨h.hu, h.good, h.n6, h.op, rfl, ?_⟩, rfl⟩
 show lessN1 l.left < 0
 unfold lessN1; rw [if_pos h.left]; exact h.left
theorem lgok_crash {u : Int} {l : Lg} (h : LgOk u l) (keep : Int) : LgOk u (l.crash keep) ∧ (l.crash keep).fs.length ≤ l.fs.length := by
 have hl : (l.crash keep).fs.length ≤ l.fs.length := by show (l.fs.take _).length ≤ _; rw [List.length_take]; omega
 refine ⟨⟨h.hu, fun f hf => h.good f (List.mem_of_mem_take hf), by have := h.n6; omega, open_less (fun f hf => List.mem_of_mem_take hf) h.op, rfl, by show (-1 : Int) < 0; decide⟩, hl⟩
theorem lgok_open {u : Int} {l : Lg} (h : LgOk u l) : l.openB = true := by unfold Lg.openB; rw [h.hu]; exact h.op
theorem alone_fm {f : Fm} (h : ∃ a b, f = aloneF a b ∧ a.fault = 0) : f.fault = 0 ∧ f.ats.length = 1 ∧ f.c.length ≤ 2 := by
 obtain ⟨a, b, rfl, ha⟩ := h
 refine ⟨alone_right ha b, rfl, ?_⟩
 cases b
 ·exact Nat.le_refl 2
 ·exact (by decide : 1 ≤ 2)
def bothFm (f g : Fm) : Fm := ⟨f.ats ++ g.ats, f.c ++ (g.c.map (movedF f.ats.length) ++ [10])⟩
def accF (fs : List Fm) : Nat → Fm
 | 0 => fs.getD 0 fmZ
 | i + 1 => bothFm (accF fs i) (fs.getD (i + 1) fmZ)
theorem both_is {f g : Fm} (hf : f.fault = 0) (hg : g.fault = 0) (hl : f.ats.length + g.ats.length ≤ 6) (hc : f.c.length + g.c.length ≤ 19) : (bothFm f g).fault = 0 ∧ ∀ D : Wd, D.ok = true → D.formIs (bothFm f g).ats (bothFm f g).c = (D.formIs f.ats f.c && D.formIs g.ats g.c) := by
 have h0 : formFault (bothFm f g).ats (bothFm f g).c = 0 := good_both hf hg hl hc
 refine ⟨h0, fun D hD => ?_⟩
 unfold Wd.formIs
 rw [if_pos (wdForm_zero.2 ⟨h0, hD⟩), if_pos (wdForm_zero.2 ⟨hf, hD⟩), if_pos (wdForm_zero.2 ⟨hg, hD⟩)]
 have e : D.heldL (bothFm f g).ats = D.heldL f.ats ++ D.heldL g.ats := by unfold Wd.heldL bothFm; rw [List.map_append]
 rw [e]
 exact val_both _ _ (by unfold Wd.heldL; rw [List.length_map]) hf hg hl
theorem acc_facts {fs : List Fm} (hgood : ∀ f ∈ fs, ∃ a h, f = aloneF a h ∧ a.fault = 0) (h6 : fs.length ≤ 6) : ∀ i, i < fs.length → (accF fs i).fault = 0 ∧ (accF fs i).ats.length = i + 1 ∧ (accF fs i).c.length ≤ 3 * i + 2 ∧ ∀ D : Wd, D.ok = true → D.formIs (accF fs i).ats (accF fs i).c = true → ∀ j, j ≤ i → ∀ f, fs[j]? = some f → D.formIs f.ats f.c = true := by
 intro i
 induction i with
 | zero =>
  intro hi
  have e : fs.getD 0 fmZ = fs[0] := by rw [List.getD_eq_getElem?_getD, List.getElem?_eq_getElem hi]; rfl
  have ha := alone_fm (hgood fs[0] (List.getElem_mem hi))
  unfold accF
  rw [e]
  refine ⟨ha.1, ha.2.1, by have := ha.2.2; omega, fun D _ hD j hj f hf => ?_⟩
  obtain rfl : j = 0 := by omega
  rw [List.getElem?_eq_getElem hi] at hf
  obtain rfl := Option.some.inj hf
  exact hD
 | succ i ih =>
  intro hi
  obtain ⟨a1, a2, a3, a4⟩ := ih (by omega)
  have e : fs.getD (i + 1) fmZ = fs[i + 1] := by rw [List.getD_eq_getElem?_getD, List.getElem?_eq_getElem hi]; rfl
  have ha := alone_fm (hgood fs[i + 1] (List.getElem_mem hi))
  have hu : accF fs (i + 1) = bothFm (accF fs i) fs[i + 1] := by
   show bothFm (accF fs i) (fs.getD (i + 1) fmZ) = _
   rw [e]
  rw [hu]
  obtain ⟨b1, b2⟩ := both_is a1 ha.1 (by rw [a2, ha.2.1]; omega) (by have := ha.2.2; omega)
  refine ⟨b1, ?_, ?_, fun D hD h j hj f hf => ?_⟩
  ·show (_ ++ _ : List At).length = _
   rw [List.length_append, a2, ha.2.1]
  ·show (_ ++ (_ ++ _) : List Int).length ≤ _
   rw [List.length_append, List.length_append, List.length_map]
   have := ha.2.2
   show _ + (_ + 1) ≤ _
   omega
  ·rw [b2 D hD, Bool.and_eq_true] at h
   rcases Nat.lt_or_ge i j with hji | hji
   ·obtain rfl : j = i + 1 := by omega
    rw [List.getElem?_eq_getElem hi] at hf
    obtain rfl := Option.some.inj hf
    exact h.2
   ·exact a4 D hD h.1 j hji f hf
theorem acc_so {fs : List Fm} (hgood : ∀ f ∈ fs, ∃ a h, f = aloneF a h ∧ a.fault = 0) (h6 : fs.length ≤ 6) {D : Wd} (hD : D.ok = true) (hs : D.so fs = true) : ∀ i, i < fs.length → D.formIs (accF fs i).ats (accF fs i).c = true := by
 have hall : ∀ f ∈ fs, D.formIs f.ats f.c = true := by unfold Wd.so at hs; rw [List.all_eq_true] at hs; exact hs
 intro i
 induction i with
 | zero =>
  intro hi
  have e : fs.getD 0 fmZ = fs[0] := by rw [List.getD_eq_getElem?_getD, List.getElem?_eq_getElem hi]; rfl
  unfold accF
  rw [e]
  exact hall _ (List.getElem_mem hi)
 | succ i ih =>
  intro hi
  obtain ⟨a1, a2, a3, _⟩ := acc_facts hgood h6 i (by omega)
  have e : fs.getD (i + 1) fmZ = fs[i + 1] := by rw [List.getD_eq_getElem?_getD, List.getElem?_eq_getElem hi]; rfl
  have ha := alone_fm (hgood fs[i + 1] (List.getElem_mem hi))
  have hu : accF fs (i + 1) = bothFm (accF fs i) fs[i + 1] := by
   show bothFm (accF fs i) (fs.getD (i + 1) fmZ) = _
   rw [e]
  rw [hu, (both_is a1 ha.1 (by rw [a2, ha.2.1]; omega) (by have := ha.2.2; omega)).2 D hD, ih (by omega), hall _ (List.getElem_mem hi)]
  rfl
theorem said_follows {fs : List Fm} {u : Int} (hu : 0 ≤ u ∧ u ≤ 6) (hgood : ∀ f ∈ fs, ∃ a h, f = aloneF a h ∧ a.fault = 0) (h6 : fs.length ≤ 6) (ho : openN fs u.toNat = true) {f : Fm} (hf : f ∈ fs) : askFault fs f.ats f.c u = 0 ∧ askN fs f.ats f.c u = 1 := by
 have hz : formsFault fs u = 0 := forms_zero.2 ⟨⟨List.length_pos_iff.2 (List.ne_nil_of_mem hf), h6⟩, fun g hg => (alone_fm (hgood g hg)).1, hu⟩
 have hff : formFault f.ats f.c = 0 := (alone_fm (hgood f hf)).1
 have hall : ∀ D : Wd, D.so fs = true → D.formIs f.ats f.c = true := fun D hs => by
  unfold Wd.so at hs
  rw [List.all_eq_true] at hs
  exact hs f hf
 have p2 : (askP fs f.ats f.c u.toNat).2 = 0 := (ask_no fs f.ats f.c _).2 fun D _ hs => hall D hs
 have p1 : ¬ (askP fs f.ats f.c u.toNat).1 = 0 := fun h => by
  have hno := (ask_yes fs f.ats f.c _).1 h
  unfold openN at ho
  rw [List.any_eq_true] at ho
  obtain ⟨N, hN, hs⟩ := ho
  have := hno (madeN N 8) (List.mem_map.2 ⟨N, hN, rfl⟩) hs
  rw [hall _ hs] at this
  exact absurd this (by decide)
 have e0 : askFault fs f.ats f.c u = 0 := by unfold askFault; rw [if_pos hz, if_pos hff, if_neg (by rw [p2]; omega)]
 refine ⟨e0, ?_⟩
 unfold askN answerN
 rw [if_pos e0, if_pos p2]
theorem said_model {fs : List Fm} {u : Int} (hu : 0 ≤ u ∧ u ≤ 6) (hgood : ∀ f ∈ fs, ∃ a h, f = aloneF a h ∧ a.fault = 0) (h6 : fs.length ≤ 6) (ho : openN fs u.toNat = true) {i : Nat} (hi : i + 1 = fs.length) :
    (modelFault (accF fs i).ats (accF fs i).c u = 4 ∨ modelFault (accF fs i).ats (accF fs i).c u = 0) ∧ (modelFault (accF fs i).ats (accF fs i).c u = 0 → (modelW (accF fs i).ats (accF fs i).c u).ok = true ∧ ∀ f ∈ fs, (modelW (accF fs i).ats (accF fs i).c u).formIs f.ats f.c = true) := by
 obtain ⟨a1, _, _, a4⟩ := acc_facts hgood h6 i (by omega)
 have hff : formFault (accF fs i).ats (accF fs i).c = 0 := a1
 refine ⟨?_, fun h0 => ?_⟩
 ·cases hL : cubesC (accF fs i).c with
  | none => left; unfold modelFault; rw [if_pos hff, hL]
  | some L =>
   right
   have e : modelFault (accF fs i).ats (accF fs i).c u = if (modelL (accF fs i).ats u.toNat L).isSome = true then 0 else 5 := by
    unfold modelFault; rw [if_pos hff, hL]; show (if 0 ≤ u ∧ u ≤ 6 then _ else (1 : Int)) = _; rw [if_pos hu]
   by_cases hm : (modelL (accF fs i).ats u.toNat L).isSome = true
   ·rw [e, if_pos hm]
   ·rw [if_neg hm] at e
    obtain ⟨D, hD, hDu, hs⟩ := open_has (u := u.toNat) (by omega) ho
    have h1 := acc_so hgood h6 hD hs i (by omega)
    rw [model_five e hff hD (by rw [hDu]; omega)] at h1
    exact absurd h1 (by decide)
 ·obtain ⟨_, g2, _, g4⟩ := model_zero h0
  refine ⟨g2, fun f hf => ?_⟩
  obtain ⟨j, hj⟩ := List.mem_iff_getElem?.1 hf
  have hjl := (List.getElem?_eq_some_iff.1 hj).1
  exact a4 _ g2 g4 j (by omega) f hj
end Go.Proofs.YtnoohlibgaeklaaGreatDoor
namespace Go.Proofs.YtnoohlibgaeklaaGreatDoor
open Go.RowKit
set_option maxRecDepth 100000
structure SaysAll (fs : List Fm) (g : Fm) : Prop where
 right : formFault g.ats g.c = 0
 is : ∀ D : Wd, D.ok = true → D.formIs g.ats g.c = D.so fs
theorem says_worlds {fs : List Fm} {g : Fm} (h : SaysAll fs g) : worldsFault g.ats g.c 4 = 0 ∧ worldsN g.ats g.c 4 = worldsSo fs := by
 have h0 : worldsFault g.ats g.c 4 = 0 := by unfold worldsFault; rw [if_pos h.right]; decide
 refine ⟨h0, ?_⟩
 unfold worldsN worldsSo
 rw [if_pos h0]
 have key : ∀ A : List (Nat → Int), (∀ N ∈ A, N ∈ everyC 4) → sumL (fun N => (madeN N 8).formIs g.ats g.c) A = sumL (fun N => (madeN N 8).so fs) A := by
  intro A
  induction A with
  | nil => intro _; rfl
  | cons N A ih =>
   intro hA
   have e := h.is (madeN N 8) (made_ok (everyC_right (by decide) (hA N List.mem_cons_self)))
   unfold sumL
   rw [ih fun M hM => hA M (List.mem_cons_of_mem _ hM)]
   show (if (madeN N 8).formIs g.ats g.c = true then _ else _) + _ = (if (madeN N 8).so fs = true then _ else _) + _
   rw [e]
 exact key (everyC 4) fun N hN => hN
theorem says_step {fs : List Fm} {g : Fm} (h : SaysAll fs g) (t : List Int) : ∀ L : List Wd, (∀ D ∈ L, D.ok = true) → (spanOver g.ats g.c t L = (100, -1) ∧ spanSoOver fs t L = (100, 0) ∧ ∀ D ∈ L, D.so fs = false) ∨ (spanOver g.ats g.c t L = spanSoOver fs t L ∧ 0 ≤ (spanOver g.ats g.c t L).2) := by
 refine revInd (fun _ => Or.inl ⟨rfl, rfl, fun D hD => (by cases hD)⟩) fun L D ih hL => ?_
 have e := h.is D (hL D (List.mem_append_right _ (by simp)))
 have hn : 0 ≤ pcN (D.val t) := by unfold pcN; omega
 have e2 : spanSoOver fs t (L ++ [D]) = spanSoStep fs t (spanSoOver fs t L) D := by unfold spanSoOver; rw [List.foldl_append]; rfl
 rw [spanOver_add, e2]
 cases hs : D.so fs with
 | false =>
  have e3 : spanStep g.ats g.c t (spanOver g.ats g.c t L) D = spanOver g.ats g.c t L := by unfold spanStep; rw [e, hs, if_neg (by decide)]
  have e4 : spanSoStep fs t (spanSoOver fs t L) D = spanSoOver fs t L := by unfold spanSoStep; rw [hs]; simp
  rw [e3, e4]
  rcases ih fun X hX => hL X (List.mem_append_left _ hX) with ⟨h1, h2, h3⟩ | h1
  ·refine Or.inl ⟨h1, h2, fun X hX => ?_⟩
   rcases List.mem_append.1 hX with hX | hX
   ·exact h3 X hX
   ·obtain rfl : X = D := by simpa using hX
    exact hs
  ·exact Or.inr h1
 | true =>
  right
  have e3 : spanStep g.ats g.c t (spanOver g.ats g.c t L) D = (if pcN (D.val t) < (spanOver g.ats g.c t L).1 then pcN (D.val t) else (spanOver g.ats g.c t L).1, if (spanOver g.ats g.c t L).2 < pcN (D.val t) then pcN (D.val t) else (spanOver g.ats g.c t L).2) := by unfold spanStep; rw [e, hs, if_pos rfl]
  have e4 : spanSoStep fs t (spanSoOver fs t L) D = (if pcN (D.val t) < (spanSoOver fs t L).1 then pcN (D.val t) else (spanSoOver fs t L).1, if (spanSoOver fs t L).2 < pcN (D.val t) then pcN (D.val t) else (spanSoOver fs t L).2) := by unfold spanSoStep; rw [hs]; simp
  rw [e3, e4]
  rcases ih fun X hX => hL X (List.mem_append_left _ hX) with ⟨h1, h2, _⟩ | ⟨h1, h2⟩
  ·rw [h1, h2]
   have a1 : ((-1 : Int) < pcN (D.val t)) := by omega
   have a2 : (if (-1 : Int) < pcN (D.val t) then pcN (D.val t) else -1) = pcN (D.val t) := if_pos a1
   have a3 : (if (0 : Int) < pcN (D.val t) then pcN (D.val t) else 0) = pcN (D.val t) := by split <;> omega
   exact ⟨by show (_, (if (-1 : Int) < pcN (D.val t) then pcN (D.val t) else -1)) = (_, (if (0 : Int) < pcN (D.val t) then pcN (D.val t) else 0)); rw [a2, a3], by show 0 ≤ (if (-1 : Int) < pcN (D.val t) then pcN (D.val t) else -1); rw [a2]; exact hn⟩
  ·rw [← h1]
   refine ⟨rfl, ?_⟩
   show 0 ≤ (if (spanOver g.ats g.c t L).2 < pcN (D.val t) then pcN (D.val t) else (spanOver g.ats g.c t L).2)
   split <;> omega
theorem says_span {fs : List Fm} {g : Fm} (h : SaysAll fs g) (ho : openN fs 4 = true) {t : List Int} (ht : faultN t = 0) : spanFault g.ats g.c t 4 = 0 ∧ spanLo g.ats g.c t 4 = (spanSo fs t).1 ∧ spanHi g.ats g.c t 4 = (spanSo fs t).2 := by
 have hst := says_step h t (worldsL 4) fun D hD => worldsL_ok (by decide) hD
 have hop : ∃ D ∈ worldsL 4, D.so fs = true := by
  unfold openN at ho
  rw [List.any_eq_true] at ho
  obtain ⟨N, hN, hs⟩ := ho
  exact ⟨madeN N 8, List.mem_map.2 ⟨N, hN, rfl⟩, hs⟩
 obtain ⟨D, hD, hs⟩ := hop
 rcases hst with ⟨_, _, h3⟩ | ⟨h1, h2⟩
 ·rw [h3 D hD] at hs; cases hs
 ·have hz : spanFault g.ats g.c t 4 = 0 := by
   unfold spanFault
   rw [if_pos h.right, if_pos ht, if_pos (by decide)]
   exact if_neg (by show ¬ (spanOver g.ats g.c t (worldsL 4)).2 < 0; omega)
  refine ⟨hz, ?_, ?_⟩
  ·unfold spanLo; rw [if_pos hz]; show (spanOver g.ats g.c t (worldsL 4)).1 = _; rw [h1]; rfl
  ·unfold spanHi; rw [if_pos hz]; show (spanOver g.ats g.c t (worldsL 4)).2 = _; rw [h1]; rfl
theorem says_acc {fs : List Fm} (h : SaidOk fs) {i : Nat} (hi : i + 1 = fs.length) : SaysAll fs (accF fs i) := by
 obtain ⟨h1, h2, h3, h4⟩ := acc_facts h.good h.n6 i (by omega)
 refine ⟨h1, fun D hD => ?_⟩
 cases hs : D.so fs with
 | true => exact acc_so h.good h.n6 hD hs i (by omega)
 | false =>
  cases hf : D.formIs (accF fs i).ats (accF fs i).c with
  | false => rfl
  | true =>
   have : D.so fs = true := by
    unfold Wd.so
    rw [List.all_eq_true]
    intro f hm
    obtain ⟨j, hj⟩ := List.mem_iff_getElem?.1 hm
    exact h4 D hD hf j (by have := (List.getElem?_eq_some_iff.1 hj).1; omega) f hj
   rw [hs] at this; cases this
theorem says_none {g : Fm} (hg : formFault g.ats g.c = 0) (h : ∀ D : Wd, D.ok = true → D.formIs g.ats g.c = true) : SaysAll [] g := ⟨hg, fun D hD => h D hD⟩
theorem ask_none {g : Fm} (h : ∀ D : Wd, D.ok = true → D.formIs g.ats g.c = true) (ats : List At) (c : List Int) : askP [g] ats c 4 = askP [] ats c 4 := by
 unfold askP askOver
 have key : ∀ (L : List Wd), (∀ D ∈ L, D.ok = true) → ∀ p, L.foldl (askStep [g] ats c) p = L.foldl (askStep [] ats c) p := by
  intro L
  induction L with
  | nil => intro _ p; rfl
  | cons D L ih =>
   intro hL p
   have e : D.so [g] = D.so [] := by
    have := h D (hL D List.mem_cons_self)
    unfold Wd.so
    simp [this]
   rw [List.foldl_cons, List.foldl_cons]
   have e2 : askStep [g] ats c p D = askStep [] ats c p D := by unfold askStep; rw [e]
   rw [e2]
   exact ih (fun X hX => hL X (List.mem_cons_of_mem _ hX)) _
 exact key _ (fun D hD => worldsL_ok (by decide) hD) _
theorem ask_right {fs : List Fm} (h : SaidOk fs) (h0 : fs ≠ []) {ats : List At} {c : List Int} (hf : formFault ats c = 0) : askFault fs ats c 4 = 0 ∧ askN fs ats c 4 = answerN (askP fs ats c 4) := by
 have hz : askFault fs ats c 4 = 0 := ask_zero.2 ⟨forms_zero.2 ⟨⟨List.length_pos_iff.2 h0, h.n6⟩, h.fault, by decide⟩, hf, fun e => by
  have := ask_open.1 e
  have h4 : ((4 : Int)).toNat = 4 := rfl
  rw [h4, h.op] at this; cases this⟩
 exact ⟨hz, by unfold askN; rw [if_pos hz]; rfl⟩
theorem dec_is : ∀ (f u : Nat), u < 10 ^ (f + 1) → Lib.decDigits u = decF f u
 | 0, u, h => by
  have h : u < 10 := h
  rw [Lib.decDigits, dif_pos h]
  unfold decF
  rw [Nat.mod_eq_of_lt h]
 | f + 1, u, h => by
  unfold decF
  by_cases h1 : u < 10
  ·rw [if_pos h1, Lib.decDigits, dif_pos h1]
  ·rw [if_neg h1, Lib.decDigits, dif_neg h1, dec_is f (u / 10) (by rw [Nat.div_lt_iff_lt_mul (by decide)]; rw [Nat.pow_succ] at h; exact h)]
theorem itoa_dec {u : Nat} (h : u < 1000000000) : Lib.itoa (u : Int) = decT u := by rw [Lib.itoa_nonneg]; exact dec_is 8 u h
theorem cut_pieces : ∀ (n : Nat) (l : List UInt8), l.length ≤ n → ∃ H c, cutB 10 l = H ++ [c] ∧ (∀ x ∈ H, plainC 10 x = true) ∧ plainC 10 c = true ∧ l = (H.map fun x => x ++ [10]).flatten ++ c := by
 intro n
 induction n with
 | zero =>
  intro l hl
  have : l = [] := List.length_eq_zero_iff.1 (by omega)
  subst this
  exact ⟨[], [], rfl, (fun x h => by cases h), rfl, rfl⟩
 | succ n ih =>
  intro l hl
  rcases cut_parts 10 l with h | ⟨x, r, rfl, h⟩
  ·exact ⟨[], l, cutB_miss h, (fun x h => by cases h), h, rfl⟩
  ·obtain ⟨H, c, h1, h2, h3, h4⟩ := ih r (by simp at hl; omega)
   refine ⟨x :: H, c, by rw [cutB_hit h, h1]; rfl, fun y hy => ?_, h3, ?_⟩
   ·rcases List.mem_cons.1 hy with rfl | hy
    ·exact h
    ·exact h2 y hy
   ·rw [h4]; simp
theorem runL_is (t : List UInt8) : ∃ H c, (∀ x ∈ H, plainC 10 x = true) ∧ plainC 10 c = true ∧ t = (H.map fun x => x ++ [10]).flatten ++ c ∧ runL t = H ++ (if c = [] then [] else [c]) := by
 obtain ⟨H, c, h1, h2, h3, h4⟩ := cut_pieces _ t (Nat.le_refl _)
 refine ⟨H, c, h2, h3, h4, ?_⟩
 unfold runL
 rw [h1]
 by_cases hc : c = []
 ·subst hc; simp
 ·simp [hc]
end Go.Proofs.YtnoohlibgaeklaaGreatDoor