/-
  Facts and contracts that the statement leans on.
-/
import Derived.Test.YtjmeakkmfeoigaaGreatDoorLibT27
import Derived.Test.YtjmeakkmfeoigaaGreatDoorLibT7
import Derived.Maps.AppendAt
import Derived.Deep.AppendLies
namespace Go.Proofs.YtjmeakkmfeoigaaGreatDoor
open Go.ChangeShapes Go.WideShapes Go.ChangeAt Go.RowKit
set_option maxRecDepth 100000
def headB (s : ByteArray) (c : UInt8) : Bool := decide (1 ≤ s.size) && ((s.extract 0 1).toList == [c])
theorem headB_cons (x c : UInt8) (l : List UInt8) : headB (strOf (x :: l)) c = (x == c) := by
 unfold headB
 have h : (strOf (x :: l)).size = l.length + 1 := by rw [strOf_size]; rfl
 rw [h, strOf_take]
 have e : (strOf [x]).toList = [x] := by rw [Lib.toList_data, strOf_list]
 have e2 : List.take 1 (x :: l) = [x] := rfl
 rw [e2, e]
 simp
set_option maxHeartbeats 1000000 in
theorem hasHead_any (s : ByteArray) (c : UInt8) (w : World) :
    Calls Tryz.prog 132 #[.string s, .string ⟨#[c]⟩] w (Sk w (.bool (headB s c))) := by
 unfold headB
 by_cases h : 1 ≤ s.size
 ·go_enter Tryz.func132, Tryz.ntmps132
  go_wp2
  go_ret
  refine ⟨?_, rfl⟩
  simp [h]
 ·go_enter Tryz.func132, Tryz.ntmps132
  go_wp2
  go_ret
  refine ⟨?_, rfl⟩
  simp
theorem drop_head (x : UInt8) (l : List UInt8) (n : Nat) (h : n = l.length + 1) : (strOf (x :: l)).extract 1 n = strOf l := by
 rw [strOf_drop _ _ _ h]; rfl
set_option maxHeartbeats 1000000 in
theorem cutHead_any (x c : UInt8) (l : List UInt8) (hz : l.length + 1 ≤ 9223372036854775807) (w : World) :
    Calls Tryz.prog 60 #[.string (strOf (x :: l)), .string ⟨#[c]⟩] w (Sk w (.tuple #[.string (if x = c then strOf l else strOf (x :: l)), .bool (x == c)])) := by
 have hn : (strOf (x :: l)).size = l.length + 1 := by rw [strOf_size]; rfl
 have HH : Hid (∀ W, Calls Tryz.prog 132 #[.string (strOf (x :: l)), .string ⟨#[c]⟩] W (Sk W (.bool (x == c)))) := fun W => by
  have h := hasHead_any (strOf (x :: l)) c W
  rw [headB_cons] at h
  exact h
 have HD : Hid (∀ n, n = l.length + 1 → (strOf (x :: l)).extract 1 n = strOf l) := fun n h => drop_head x l n h
 obtain ⟨s, hs⟩ := nm (strOf (x :: l))
 rw [← hs] at hn HH HD ⊢
 clear hs
 have HC : Hid (∀ W, Calls Tryz.prog 94 #[.string s, .string ⟨#[c]⟩] W (Sk W (.tuple #[.string (if x = c then strOf l else s), .bool (x == c)]))) := fun W => by
  have h1 : (1 : Int) ≤ (s.size : Int) := by omega
  have h2 : (s.size : Int) ≤ 9223372036854775807 := by omega
  by_cases hx : x = c
  ·have e1 : (x == c) = true := by simpa using hx
   rw [if_pos hx, e1]
   rw [e1] at HH
   clear hx e1
   go_enter Tryz.func94, Tryz.ntmps94
   go_wp2_with (go_at_call 132; refine (HH.out _).mono ?_; rintro e w' ⟨rfl, rfl⟩)
   go_ret2
   refine ⟨?_, rfl⟩
   rw [HD.out _ (by omega)]
   rfl
  ·have e1 : (x == c) = false := by simpa using hx
   rw [if_neg hx, e1]
   rw [e1] at HH
   clear hx e1
   go_enter Tryz.func94, Tryz.ntmps94
   go_wp2_with (go_at_call 132; refine (HH.out _).mono ?_; rintro e w' ⟨rfl, rfl⟩)
   go_ret2
   exact ⟨rfl, rfl⟩
 obtain ⟨R, hR⟩ := nm ((if x = c then strOf l else s))
 obtain ⟨B, hB⟩ := nm ((x == c))
 rw [← hR, ← hB] at HC ⊢
 clear hR hB HH HD hn
 go_enter Tryz.func60, Tryz.ntmps60
 go_wp2_with (go_at_call 94; refine (HC.out _).mono ?_; rintro e w' ⟨rfl, rfl⟩)
 go_ret2
 exact ⟨rfl, rfl⟩
set_option maxHeartbeats 1000000 in
theorem trimHead_any (x c : UInt8) (l : List UInt8) (hz : l.length + 1 ≤ 9223372036854775807) (w : World) :
    Calls Tryz.prog 63 #[.string (strOf (x :: l)), .string ⟨#[c]⟩] w (Sk w (.string (if x = c then strOf l else strOf (x :: l)))) := by
 have hn : (strOf (x :: l)).size = l.length + 1 := by rw [strOf_size]; rfl
 have HH : Hid (∀ W, Calls Tryz.prog 132 #[.string (strOf (x :: l)), .string ⟨#[c]⟩] W (Sk W (.bool (x == c)))) := fun W => by
  have h := hasHead_any (strOf (x :: l)) c W
  rw [headB_cons] at h
  exact h
 have HD : Hid (∀ n, n = l.length + 1 → (strOf (x :: l)).extract 1 n = strOf l) := fun n h => drop_head x l n h
 obtain ⟨s, hs⟩ := nm (strOf (x :: l))
 rw [← hs] at hn HH HD ⊢
 clear hs
 have HC : Hid (∀ W, Calls Tryz.prog 101 #[.string s, .string ⟨#[c]⟩] W (Sk W (.string (if x = c then strOf l else s)))) := fun W => by
  have h1 : (1 : Int) ≤ (s.size : Int) := by omega
  have h2 : (s.size : Int) ≤ 9223372036854775807 := by omega
  by_cases hx : x = c
  ·have e1 : (x == c) = true := by simpa using hx
   rw [if_pos hx]
   rw [e1] at HH
   clear hx e1
   go_enter Tryz.func101, Tryz.ntmps101
   go_wp2_with (go_at_call 132; refine (HH.out _).mono ?_; rintro e w' ⟨rfl, rfl⟩)
   go_ret
   refine ⟨?_, rfl⟩
   rw [HD.out _ (by omega)]
   rfl
  ·have e1 : (x == c) = false := by simpa using hx
   rw [if_neg hx]
   rw [e1] at HH
   clear hx e1
   go_enter Tryz.func101, Tryz.ntmps101
   go_wp2_with (go_at_call 132; refine (HH.out _).mono ?_; rintro e w' ⟨rfl, rfl⟩)
   go_ret
   exact ⟨rfl, rfl⟩
 obtain ⟨R, hR⟩ := nm ((if x = c then strOf l else s))
 rw [← hR] at HC ⊢
 clear hR HH HD hn
 go_enter Tryz.func63, Tryz.ntmps63
 go_wp2_with (go_at_call 101; refine (HC.out _).mono ?_; rintro e w' ⟨rfl, rfl⟩)
 go_ret
 exact ⟨rfl, rfl⟩
set_option maxHeartbeats 1000000 in
theorem logWhole_any (L : List (List UInt8)) (r : List UInt8) (hr : plainC 10 r = true) (hz : (linesT L ++ r).length ≤ 1000000) (w : World) :
    Calls Tryz.prog 33 #[.string (strOf (linesT L ++ r))] w (Sk w (.string (strOf (linesT L)))) := by
 have hn : (strOf (linesT L ++ r)).size = (linesT L ++ r).length := strOf_size _
 have hle : (linesT L).length ≤ (linesT L ++ r).length := by simp
 have HL : Hid (∀ W, Calls Tryz.prog 65 #[.string (strOf (linesT L ++ r)), .string ⟨#[10]⟩] W (Sk W (.int .i64 (((linesT L).length : Int) - 1)))) := fun W => by
  have h := lastIndex_any (strOf (linesT L ++ r)) (by omega) W
  have e : lastTen (strOf (linesT L ++ r)).data.toList (strOf (linesT L ++ r)).size = ((linesT L).length : Int) - 1 := by
   have := last_lines (L := L) hr
   rw [strOf_list, hn]; omega
  rw [e] at h
  exact h
 have HE : Hid (∀ m : Nat, m = (linesT L).length → (strOf (linesT L ++ r)).extract 0 m = strOf (linesT L)) := fun m h => by rw [strOf_take, h, List.take_left]
 obtain ⟨m, hm⟩ := nm ((linesT L).length)
 have HE' := hide (HE.out m hm)
 rw [← hm] at HL hle
 have h1 : (m : Int) ≤ ((strOf (linesT L ++ r)).size : Int) := by omega
 have h0 : (0 : Int) ≤ (m : Int) := by omega
 have h2 : (m : Int) ≤ 1000000 := by omega
 obtain ⟨s, hs⟩ := nm (strOf (linesT L ++ r))
 rw [← hs] at HL HE' h1 ⊢
 clear hs hm HE hn hle hz
 go_enter Tryz.func33, Tryz.ntmps33
 go_wp2_with (go_at_call 65; refine (HL.out _).mono ?_; rintro e w' ⟨rfl, rfl⟩)
 go_ret
 refine ⟨?_, rfl⟩
 rw [← HE'.out]
 first | rfl | (congr 1; congr 1; omega)
end Go.Proofs.YtjmeakkmfeoigaaGreatDoor
namespace Go.Proofs.YtjmeakkmfeoigaaGreatDoor
open Go.ChangeShapes Go.WideShapes Go.ChangeAt Go.RowKit
set_option maxRecDepth 100000
theorem infoH : (Tryz.prog.info? 3).isSome = true := by kernel_rfl
theorem zeroH : (Tryz.prog.info? 3).bind (·.zero) = some (.int .i64 0) := by kernel_rfl
theorem sizeH : (Tryz.prog.info? 3).map (·.size) = some 1 := by kernel_rfl
theorem bytesH : (Tryz.prog.info? 3).map (·.bytes) = some 8 := by kernel_rfl
theorem append_long {w : World} {ops : Array Oper} {rest : List Oper} {o : Oper} {a : Act} {Q : Exit → Act → World → Prop} (hgd : o.guard = none) (s x : Operand)
    (ho : o.op = .call { callee := .builtin .append, args := #[s, x], argTypes := #[27, 27] }) (K : Nat) (v : Value) (hs : a.eval s = v) (l : List Int) (r : Int) (B c : Nat) (hx : a.eval x = .slice (some ⟨B, 0, none⟩) 1 c)
    (hown : w.ownsRow K 3 1 v l.length (l.map (Value.int .i64))) (hB : w.heap[B]? = some (.cells #[.int .i64 r] 3 (0, 0))) (hK : K ≤ w.heap.size) (h12 : l.length ≤ 1000000)
    (h : ∀ v' w', w'.ownsRow K 3 1 v' (l.length + 1) ((l ++ [r]).map (Value.int .i64)) → w.grownBy w' v.ownBlock → (v'.ownBlock = v.ownBlock ∨ v'.ownBlock = some w.heap.size) → wpList Tryz.prog ops Q rest (a.put o.dst v') w') :
    wpList Tryz.prog ops Q (o :: rest) a w := by
 obtain ⟨i1, hi⟩ : ∃ i, Tryz.prog.info? 3 = some i := Option.isSome_iff_exists.1 infoH
 have hz0 : i1.zero = some (.int .i64 0) := by have := zeroH; rw [hi] at this; simpa using this
 have hz1 : i1.size = 1 := by have := sizeH; rw [hi] at this; simpa using this
 have hz2 : i1.bytes = 8 := by have := bytesH; rw [hi] at this; simpa using this
 refine wpList_append_own_at w hgd s x 27 ho K 3 i1 _ 1 8 Tryz.underlying27 hi hz0 hz1 hz2 rfl (by decide) v l.length (l.map (Value.int .i64)) hs hown ⟨B, 0, none⟩ 1 c [.int .i64 r] hx rfl (World.news_of_block hB) (by simp [Value.oneCell']) (by unfold maxLen; omega) (by omega) hK ?_
 intro v' w' h1 h2 _ h5
 refine h v' w' ?_ h2 h5
 rw [List.map_append]
 exact h1
theorem own_readsL {w : World} {K : Nat} {v : Value} {t : List Int} (h : w.ownsRow K 3 1 v t.length (t.map (Value.int .i64))) (hm : t.length ≤ 9223372036854775807) : Reads w v t := by
 rcases h.2 with ⟨rfl, h0⟩ | ⟨g, cap, cur, rfl, hb, hg, hc, _⟩
 ·exact Or.inl ⟨none, 0, rfl, List.eq_nil_of_length_eq_zero h0⟩
 ·rcases Nat.eq_zero_or_pos t.length with h0 | h0
  ·have e : t = [] := List.eq_nil_of_length_eq_zero h0
   subst e
   exact Or.inl ⟨_, _, rfl, rfl⟩
  ·refine Or.inr ⟨g, 0, cap, rfl, (Array.getElem?_eq_some_iff.1 hg).1, h0, ⟨hm, hc⟩, fun k hk => ?_⟩
   rw [Nat.zero_add, h.cellAt _ (by omega), List.getElem?_map, List.getElem?_eq_getElem hk, List.getD_eq_getElem?_getD, List.getElem?_eq_getElem hk]
   rfl
theorem own_keep {X Y : World} {K n size : Nat} {e : TypeId} {v : Value} {xs : List Value} (h : X.ownsRow K e size v n xs) (hs : ∀ b, v.ownBlock = some b → Y.heap[b]? = X.heap[b]?) : Y.ownsRow K e size v n xs := by
 refine ⟨h.1, ?_⟩
 rcases h.2 with h0 | ⟨g, cap, cur, hv, hb, hg, rest⟩
 ·exact Or.inl h0
 ·exact Or.inr ⟨g, cap, cur, hv, hb, (hs g (by rw [hv]; rfl)).trans hg, rest⟩
end Go.Proofs.YtjmeakkmfeoigaaGreatDoor
namespace Go.Proofs.YtjmeakkmfeoigaaGreatDoor
open Go.ChangeShapes Go.WideShapes Go.ChangeAt Go.RowKit
set_option maxRecDepth 100000
def Answers (ws : List (List UInt8)) (w : World) (e : Ending) (w' : World) : Prop :=
 ∃ a, e = .returned (.tuple #[a, errV (wordsFault ws)]) ∧ (wordsFault ws = 0 → ∃ v0 v1, a = .agg #[.int .i64 (wordsKind ws), v0, v1, .int .i64 (wordsN (wordsKind ws) ws)] ∧ Reads w' v0 (wordsS ws) ∧ Reads w' v1 (wordsT (wordsKind ws) ws)) ∧ (¬ wordsFault ws = 0 → a = .agg #[.int .i64 0, .slice none 0 0, .slice none 0 0, .int .i64 0]) ∧ Below w.heap.size w w'
def AnswersW (ws : List (List UInt8)) (w : World) (e : Ending) (w' : World) : Prop :=
 ∃ a, e = .returned (.tuple #[a, errV (wordsFault ws)]) ∧ (wordsFault ws = 0 → ∃ v0 v1, a = .agg #[.int .i64 (wordsKind ws), v0, v1, .int .i64 (wordsN (wordsKind ws) ws)] ∧ Reads w' v0 (wordsS ws) ∧ Reads w' v1 (wordsT (wordsKind ws) ws) ∧ NewV w.heap.size v0 ∧ NewV w.heap.size v1) ∧ (¬ wordsFault ws = 0 → a = .agg #[.int .i64 0, .slice none 0 0, .slice none 0 0, .int .i64 0]) ∧ Below w.heap.size w w'
theorem answers_bad {ws : List (List UInt8)} {w : World} {e : Ending} {w' : World} {F : Int} (hF : wordsFault ws = F) (h0 : ¬ F = 0) (h : e = .returned (.tuple #[.agg #[.int .i64 0, .slice none 0 0, .slice none 0 0, .int .i64 0], errV F]) ∧ Below w.heap.size w w') : AnswersW ws w e w' :=
 ⟨_, by rw [hF]; exact h.1, fun h' => absurd (hF.symm.trans h') h0, fun _ => rfl, h.2⟩
def Rd (K : Nat) (w : World) (v : Value) (l : List UInt8) : Prop := textFault l = 0 → ∃ g c, v = .slice (some ⟨g, 0, none⟩) c c ∧ K ≤ g ∧ Reads w v (readN l)
theorem Rd.below {K : Nat} {w w' : World} {v : Value} {l : List UInt8} (h : Rd K w v l) (hb : Below w.heap.size w w') : Rd K w' v l := fun h0 => by
 obtain ⟨g, c, e, hK, hR⟩ := h h0
 exact ⟨g, c, e, hK, hR.below hb⟩
theorem Rd.set {K b j : Nat} {w : World} {u v : Value} {l : List UInt8} (h : Rd K w v l) (hb : b < K) : Rd K (w.setCell ⟨b, j, none⟩ u) v l := fun h0 => by
 obtain ⟨g, c, rfl, hK, hR⟩ := h h0
 exact ⟨g, c, rfl, hK, Reads.store hR (by show b ≠ g; omega)⟩
theorem Rd.mono {K K' : Nat} {w : World} {v : Value} {l : List UInt8} (h : Rd K w v l) (hK : K' ≤ K) : Rd K' w v l := fun h0 => by
 obtain ⟨g, c, e, hg, hR⟩ := h h0
 exact ⟨g, c, e, Nat.le_trans hK hg, hR⟩
theorem parse_rd (l : List UInt8) (hl : l.length ≤ 9223372036854775807) {E : Value} (hE : E = errV (textFault l)) (W : World) :
    Calls Tryz.prog 98 #[.string (strOf l)] W fun e w' => ∃ ao n c, e = .returned (.tuple #[.slice ao n c, E]) ∧ Rd W.heap.size w' (.slice ao n c) l ∧ Below W.heap.size W w' := by
 have h := parse_fresh (strOf l) (by rw [strOf_size]; exact hl) W
 rw [strOf_list] at h
 refine h.mono ?_
 rintro e w' ⟨v, rfl, h1, h2, hb⟩
 by_cases h0 : textFault l = 0
 ·obtain ⟨hR, g, c, rfl, hg⟩ := h1 h0
  exact ⟨_, _, _, by rw [hE], fun _ => ⟨g, c, rfl, hg, hR⟩, hb⟩
 ·obtain rfl := h2 h0
  exact ⟨_, _, _, by rw [hE], fun h' => absurd h' h0, hb⟩
theorem errV_agg (n : Int) (cs : Array Value) : ¬ errV n = .agg cs := by unfold errV; split <;> (intro h; cases h)
theorem errV_one (n : Int) : (errV n).oneCell' = true := by unfold errV; split <;> rfl
theorem errV_two (n : Int) : (n = 0 ∧ errV n = .nilIface) ∨ (¬ n = 0 ∧ errV n = .iface 64 (.int .i64 n)) := by
 by_cases h : n = 0
 ·exact Or.inl ⟨h, by rw [h]; rfl⟩
 ·exact Or.inr ⟨h, errV_no h⟩
theorem store_one {W : World} {p : Addr} {u v : Value} (h1 : v.oneCell' = true) (hc : W.cell? p = some u) (hf : W.frozen? p = false) : (store p v).run Tryz.prog W = .ok () (W.setCell p v) := by
 rw [run_store _ _ _ _ _ h1]
 simp [hc, hf]
theorem told_zero {a b c : Int} (h : toldN a b c = 0) : a = 0 ∧ b = 0 ∧ c = 0 := by
 unfold toldN at h
 split at h
 ·omega
 ·split at h
  ·split at h <;> omega
  ·omega
def Res (W : World) (R : Nat) : Prop := (W.cell? ⟨R, 0, none⟩ = some (.int .i64 0) ∧ W.cell? ⟨R, 1, none⟩ = some (.slice none 0 0) ∧ W.cell? ⟨R, 2, none⟩ = some (.slice none 0 0) ∧ W.cell? ⟨R, 3, none⟩ = some (.int .i64 0)) ∧ (∀ j, W.frozen? ⟨R, j, none⟩ = false) ∧ R < W.heap.size
theorem res_new (w : World) (t : TypeId) : Res (w.alloc (.cells #[.int .i64 0, .slice none 0 0, .slice none 0 0, .int .i64 0] t)) w.heap.size := ⟨⟨by simp, by simp, by simp, by simp⟩, fun j => by simp, by simp⟩
theorem Res.below {W W' : World} {R : Nat} (h : Res W R) (hb : Below W.heap.size W W') : Res W' R :=
 ⟨⟨(hb.cell h.2.2).trans h.1.1, (hb.cell h.2.2).trans h.1.2.1, (hb.cell h.2.2).trans h.1.2.2.1, (hb.cell h.2.2).trans h.1.2.2.2⟩, fun j => (hb.frozen h.2.2).trans (h.2.1 j), Nat.lt_of_lt_of_le h.2.2 hb.size⟩
theorem Res.load {W : World} {R : Nat} (h : Res W R) (c0 c1 c2 c3 : Value) : (loadVar 29 ⟨R, 0, none⟩).run Tryz.prog ((((W.setCell ⟨R, 0, none⟩ c0).setCell ⟨R, 1, none⟩ c1).setCell ⟨R, 2, none⟩ c2).setCell ⟨R, 3, none⟩ c3) = .ok (.agg #[c0, c1, c2, c3]) ((((W.setCell ⟨R, 0, none⟩ c0).setCell ⟨R, 1, none⟩ c1).setCell ⟨R, 2, none⟩ c2).setCell ⟨R, 3, none⟩ c3) := by
 obtain ⟨⟨r0, r1, r2, r3⟩, _⟩ := h
 refine load_atom ?_ ?_ ?_ ?_
 ·rw [set_far (ne_off (by decide)), set_far (ne_off (by decide)), set_far (ne_off (by decide))]; exact set_same r0
 ·rw [set_far (ne_off (by decide)), set_far (ne_off (by decide))]; exact set_same ((set_far (ne_off (by decide))).trans r1)
 ·rw [set_far (ne_off (by decide))]; exact set_same ((set_far (ne_off (by decide))).trans ((set_far (ne_off (by decide))).trans r2))
 ·exact set_same ((set_far (ne_off (by decide))).trans ((set_far (ne_off (by decide))).trans ((set_far (ne_off (by decide))).trans r3)))
theorem below4 {B : Nat} {w W : World} (h : Below B w W) (c0 c1 c2 c3 : Value) : Below B w ((((W.setCell ⟨B, 0, none⟩ c0).setCell ⟨B, 1, none⟩ c1).setCell ⟨B, 2, none⟩ c2).setCell ⟨B, 3, none⟩ c3) :=
 (((h.setCell (Nat.le_refl _) _).setCell (Nat.le_refl _) _).setCell (Nat.le_refl _) _).setCell (Nat.le_refl _) _
theorem Rd.set4 {K b : Nat} {w : World} {v : Value} {l : List UInt8} (h : Rd K w v l) (hb : b < K) (c0 c1 c2 c3 : Value) : Rd K ((((w.setCell ⟨b, 0, none⟩ c0).setCell ⟨b, 1, none⟩ c1).setCell ⟨b, 2, none⟩ c2).setCell ⟨b, 3, none⟩ c3) v l := (((h.set hb).set hb).set hb).set hb
theorem Rd.new {K : Nat} {w : World} {v : Value} {l : List UInt8} (h : Rd K w v l) (h0 : textFault l = 0) {B : Nat} (hB : B ≤ K) : NewV B v := by
 obtain ⟨g, c, rfl, hK, _⟩ := h h0
 exact ⟨_, _, _, rfl, fun p hp => by cases hp; exact Nat.le_trans hB hK⟩
theorem Rd.reads {K : Nat} {w : World} {v : Value} {l : List UInt8} (h : Rd K w v l) (h0 : textFault l = 0) : Reads w v (readN l) := by obtain ⟨_, _, _, _, hR⟩ := h h0; exact hR
set_option maxHeartbeats 8000000 in
theorem aparse_two (k : Nat) (hk : k = 1 ∨ k = 2) (s : ByteArray) (l0 l1 l2 : List UInt8) (hw : wordsKind [l0, l1, l2] = (k : Int)) (w : World) (hK : KindsLaid w) (hL : LibLaid w) (z1 : l1.length ≤ 9223372036854775807) (z2 : l2.length ≤ 9223372036854775807)
    (hSp : ∀ W, Below w.heap.size w W → Calls Tryz.prog 96 #[.string s, .string ⟨#[32]⟩, .int .i64 5] W fun e w' => ∃ v, e = .returned v ∧ ReadsS w' v [l0, l1, l2] ∧ Below W.heap.size W w')
    (hKo : ∀ W v, Below w.heap.size w W → ReadsS W v [l0, l1, l2] → Calls Tryz.prog 97 #[v] W (Bk W (.int .i64 (k : Int)))) :
    Calls Tryz.prog 62 #[.string s] w (AnswersW [l0, l1, l2] w) := by
 have HW : Hid ((¬ (toldN (textFault l1) (textFault l2) 0) = 0 → wordsFault [l0, l1, l2] = (toldN (textFault l1) (textFault l2) 0)) ∧ ((toldN (textFault l1) (textFault l2) 0) = 0 → wordsFault [l0, l1, l2] = (atomFault (k : Int) (readN l1) (readN l2) 0)) ∧ wordsKind [l0, l1, l2] = (k : Int) ∧ wordsS [l0, l1, l2] = (readN l1) ∧ wordsT (k : Int) [l0, l1, l2] = (readN l2) ∧ wordsN (k : Int) [l0, l1, l2] = 0) := by
  obtain ⟨h1, h2⟩ := told_words (k := (k : Int)) (by omega) [l0, l1, l2] hw
  rcases hk with rfl | rfl <;> exact ⟨h1, h2, hw, rfl, rfl, rfl⟩
 have HKc : Hid (∀ W, KindsLaid W → W.cell? ⟨0, k * 3 + 1, none⟩ = some (.bool true) ∧ W.cell? ⟨0, k * 3 + 2, none⟩ = some (.bool false)) := fun W h => by
  rcases hk with rfl | rfl <;> exact ⟨h _ (by decide), h _ (by decide)⟩
 have hk6 : k < 6 := by omega
 have hk0 : 0 < k := by omega
 have hkz : ((k : Int) == 0) = false := by simp; omega
 clear hk hw
 obtain ⟨w1, hw1⟩ := nm (w.alloc (.cells #[.int .i64 0, .slice none 0 0, .slice none 0 0, .int .i64 0] 29))
 have HB1 : Hid (Below w.heap.size w w1) := by unfold Hid; rw [hw1]; exact below_alloc1 w _
 have HRc : Hid (Res w1 w.heap.size) := by unfold Hid; rw [hw1]; exact res_new _ _
 have HSp := hide (hSp w1 HB1.out)
 have HKo := hide hKo
 have HKL : Hid (KindsLaid w ∧ LibLaid w) := ⟨hK, hL⟩
 obtain ⟨E0, hE0⟩ := nm (errV (textFault l1))
 have x0 : ∀ cs, ¬ E0 = .agg cs := fun cs => by rw [hE0]; exact errV_agg _ cs
 have y0 : E0.oneCell' = true := by rw [hE0]; exact errV_one _
 have HPa0 : Hid (∀ W, Calls Tryz.prog 98 #[.string (strOf l1)] W fun e w' => ∃ ao n c, e = .returned (.tuple #[.slice ao n c, E0]) ∧ Rd W.heap.size w' (.slice ao n c) l1 ∧ Below W.heap.size W w') := fun W => parse_rd l1 z1 hE0 W
 obtain ⟨E1, hE1⟩ := nm (errV (textFault l2))
 have x1 : ∀ cs, ¬ E1 = .agg cs := fun cs => by rw [hE1]; exact errV_agg _ cs
 have y1 : E1.oneCell' = true := by rw [hE1]; exact errV_one _
 have HPa1 : Hid (∀ W, Calls Tryz.prog 98 #[.string (strOf l2)] W fun e w' => ∃ ao n c, e = .returned (.tuple #[.slice ao n c, E1]) ∧ Rd W.heap.size w' (.slice ao n c) l2 ∧ Below W.heap.size W w') := fun W => parse_rd l2 z2 hE1 W
 obtain ⟨TT, hTT⟩ := nm ((toldN (textFault l1) (textFault l2) 0))
 obtain ⟨RT, hRT⟩ := nm (errV TT)
 have HTo : Hid (∀ W, Calls Tryz.prog 100 #[.agg #[E0, E1, .nilIface]] W (Bk W RT)) := fun W => by
  have h := told_any (textFault l1) (textFault l2) 0 (textFault_range _).1 (textFault_range _).2 (textFault_range _).1 (textFault_range _).2 (by decide) (by decide) W
  rw [← hTT, ← hRT, ← hE0, ← hE1] at h
  exact h
 have HT0 : Hid (TT = 0 → (textFault l1) = 0 ∧ (textFault l2) = 0) := fun h => by
  obtain ⟨a, b, c⟩ := told_zero (hTT.symm.trans h)
  exact ⟨a, b⟩
 have HRT : Hid ((TT = 0 ∧ RT = .nilIface) ∨ (¬ TT = 0 ∧ RT = .iface 64 (.int .i64 TT))) := by unfold Hid; rw [hRT]; exact errV_two TT
 rw [← hTT] at HW
 obtain ⟨FF, hFF⟩ := nm ((atomFault (k : Int) (readN l1) (readN l2) 0))
 rw [← hFF] at HW
 obtain ⟨CE, hCE⟩ := nm (errV FF)
 have HCE : Hid ((FF = 0 ∧ CE = .nilIface) ∨ (¬ FF = 0 ∧ CE = .iface 64 (.int .i64 FF))) := by unfold Hid; rw [hCE]; exact errV_two FF
 have HCk : Hid (∀ (W : World) (v0 v1 : Value), Reads W v0 (readN l1) → Reads W v1 (readN l2) → KindsLaid W → Calls Tryz.prog 36 #[.agg #[.int .i64 (k : Int), v0, v1, .int .i64 0]] W (Bk W CE)) := fun W v0 v1 h0 h1 hk => by
  have h := acheck_any (k : Int) 0 v0 v1 (readN l1) (readN l2) W h0 h1 hk
  rw [← hFF, ← hCE] at h
  exact h
 clear hTT hRT hFF hCE hE0 hE1 hSp hKo hK hL
 go_enter Tryz.func62, Tryz.ntmps62
 go_wp2_with fail
 rw [← hw1]
 clear hw1
 go_at_call 96
 refine HSp.out.mono ?_
 rintro e w2 ⟨v, rfl, hR, hb⟩
 have HZ2 := hide hb
 have HR2 := hide hR
 clear hb hR
 go_wp2_with fail
 go_at_call 97
 refine (HKo.out _ _ (HB1.out.trans (HZ2.out.mono HB1.out.size)) HR2.out).mono ?_
 rintro e w3 ⟨rfl, hb⟩
 have HZ3 := hide (HZ2.out.trans (hb.mono HZ2.out.size))
 have hR3 := HR2.out.below hb
 clear hb
 obtain ⟨wb, cap, rfl, hwb, hcap, hcell⟩ := hR3
 have HC : Hid (∀ j, j < 3 → w3.cell? ⟨wb, j, none⟩ = some (.string (strOf (List.getD [l0, l1, l2] j [])))) := hcell
 have HWb := hide hwb
 have HBw : Hid (∀ W, Below w3.heap.size w3 W → Below w.heap.size w W ∧ Below w1.heap.size w1 W) := fun W h => ⟨(HB1.out.trans (HZ3.out.mono HB1.out.size)).trans (h.mono (Nat.le_trans HB1.out.size HZ3.out.size)), HZ3.out.trans (h.mono HZ3.out.size)⟩
 have HKd : Hid (∀ W, Below w3.heap.size w3 W → KindsLaid W) := fun W h => HKL.out.1.below (HBw.out W h).1
 have HRA : Hid (w.heap.size < w3.heap.size) := Nat.lt_of_lt_of_le HRc.out.2.2 HZ3.out.size
 clear hcell hcap hwb
 obtain ⟨W4, hW4⟩ := nm (((w3.alloc (.cells #[.int .i64 (k : Int), .slice none 0 0, .slice none 0 0, .int .i64 0] 29)).alloc (.cells #[.nilIface, .nilIface, .nilIface] 154)))
 have HP4 : Hid (PS W4 w3.heap.size (.int .i64 (k : Int)) (.slice none 0 0) (.slice none 0 0) (.int .i64 0) .nilIface .nilIface .nilIface) := by unfold Hid; rw [hW4]; exact ps_alloc _ _ _ _
 have HB4 : Hid (Below w3.heap.size w3 W4) := by unfold Hid; rw [hW4]; exact ((Below.refl _ _).alloc (Nat.le_refl _) _).alloc (by simp) _
 have c1 : W4.cell? ⟨wb, 1, none⟩ = some (.string (strOf l1)) := (HB4.out.cell HWb.out).trans (HC.out 1 (by decide))
 rw [hW4] at c1
 go_wp2_with fail
 rw [← hW4]
 clear hW4 c1
 go_at_call 98
 refine (HPa0.out _).mono ?_
 rintro e w5 ⟨ao0, sn0, sc0, rfl, hd, hb⟩
 have HD0_5 : Hid (Rd (w3.heap.size + 2) w5 (.slice ao0 sn0 sc0) l1) := hd.mono (by have := HP4.out.2.2.2.2; omega)
 clear hd
 have HP5 := hide (HP4.out.below hb)
 have HB5 := hide (HB4.out.trans (hb.mono HB4.out.size))
 clear hb
 have f0 := HP5.out.2.2.1 1
 have f1 := HP5.out.2.2.2.1 0
 have g0 := HP5.out.1.2.1
 have g1 := HP5.out.2.1.1
 obtain ⟨W6, hW6⟩ := nm ((w5.setCell ⟨w3.heap.size, 1, none⟩ (.slice ao0 sn0 sc0)).setCell ⟨w3.heap.size + 1, 0, none⟩ E0)
 have HP6 : Hid (PS W6 w3.heap.size (.int .i64 (k : Int)) (.slice ao0 sn0 sc0) (.slice none 0 0) (.int .i64 0) E0 .nilIface .nilIface) := by unfold Hid; rw [hW6]; exact HP5.out.storeS _ _
 have HB6 : Hid (Below w3.heap.size w3 W6) := by unfold Hid; rw [hW6]; exact (HB5.out.setCell (Nat.le_refl _) _).setCell (by simp) _
 have HD0_6 : Hid (Rd (w3.heap.size + 2) W6 (.slice ao0 sn0 sc0) l1) := by unfold Hid; rw [hW6]; exact (HD0_5.out.set (by omega)).set (by omega)
 obtain ⟨k6, k7⟩ := HKc.out _ (HKd.out _ HB6.out)
 have q6 := HP6.out.1.1
 obtain ⟨q7, q8, q9⟩ := HP6.out.2.1
 have c2 : W6.cell? ⟨wb, 2, none⟩ = some (.string (strOf l2)) := (HB6.out.cell HWb.out).trans (HC.out 2 (by decide))
 rw [hW6] at k6 k7 q6 q7 q8 q9 c2
 go_wp2_with fail
 all_goals try exact absurd rfl (x0 _)
 rw [store_one y0 (by rw [set_far (ne_blk (by omega))]; exact g1) (by rw [World.frozen?_setCell]; exact f1)]
 go_wp2_with fail
 rw [← hW6]
 clear hW6 f0 f1 g0 g1 k6 k7 q6 q7 q8 q9 c2
 go_at_call 98
 refine (HPa1.out _).mono ?_
 rintro e w7 ⟨ao1, sn1, sc1, rfl, hd, hb⟩
 have HD1_7 : Hid (Rd (w3.heap.size + 2) w7 (.slice ao1 sn1 sc1) l2) := hd.mono (by have := HP6.out.2.2.2.2; omega)
 clear hd
 have HP7 := hide (HP6.out.below hb)
 have HB7 := hide (HB6.out.trans (hb.mono HB6.out.size))
 have HD0_7 := hide (HD0_6.out.below hb)
 clear hb
 have f0 := HP7.out.2.2.1 2
 have f1 := HP7.out.2.2.2.1 1
 have g0 := HP7.out.1.2.2.1
 have g1 := HP7.out.2.1.2.1
 obtain ⟨W8, hW8⟩ := nm ((w7.setCell ⟨w3.heap.size, 2, none⟩ (.slice ao1 sn1 sc1)).setCell ⟨w3.heap.size + 1, 1, none⟩ E1)
 have HP8 : Hid (PS W8 w3.heap.size (.int .i64 (k : Int)) (.slice ao0 sn0 sc0) (.slice ao1 sn1 sc1) (.int .i64 0) E0 E1 .nilIface) := by unfold Hid; rw [hW8]; exact HP7.out.storeT _ _
 have HB8 : Hid (Below w3.heap.size w3 W8) := by unfold Hid; rw [hW8]; exact (HB7.out.setCell (Nat.le_refl _) _).setCell (by simp) _
 have HD0_8 : Hid (Rd (w3.heap.size + 2) W8 (.slice ao0 sn0 sc0) l1) := by unfold Hid; rw [hW8]; exact (HD0_7.out.set (by omega)).set (by omega)
 have HD1_8 : Hid (Rd (w3.heap.size + 2) W8 (.slice ao1 sn1 sc1) l2) := by unfold Hid; rw [hW8]; exact (HD1_7.out.set (by omega)).set (by omega)
 obtain ⟨k6, k7⟩ := HKc.out _ (HKd.out _ HB8.out)
 have q6 := HP8.out.1.1
 obtain ⟨q7, q8, q9⟩ := HP8.out.2.1
 rw [hW8] at k6 k7 q6 q7 q8 q9
 go_wp2_with fail
 all_goals try exact absurd rfl (x1 _)
 rw [store_one y1 (by rw [set_far (ne_blk (by omega))]; exact g1) (by rw [World.frozen?_setCell]; exact f1)]
 go_wp2_with fail
 rw [← hW8]
 clear hW8 f0 f1 g0 g1 k6 k7 q6 q7 q8 q9
 go_at_call 100
 refine (HTo.out _).mono ?_
 rintro e w20 ⟨rfl, hb⟩
 have HB20 := hide (HB8.out.trans (hb.mono HB8.out.size))
 rcases HRT.out with ⟨ht, rfl⟩ | ⟨ht, rfl⟩
 ·have HT := hide ht
  have HF := HT0.out ht
  have HF' : Hid _ := HF
  have HP20 := hide (HP8.out.below hb)
  have HD0 := hide (HD0_8.out.below hb)
  have HD1 := hide (HD1_8.out.below hb)
  have HCk2 : Hid (Calls Tryz.prog 36 #[.agg #[.int .i64 (k : Int), .slice ao0 sn0 sc0, .slice ao1 sn1 sc1, .int .i64 0]] w20 (Bk w20 CE)) := HCk.out w20 (.slice ao0 sn0 sc0) (.slice ao1 sn1 sc1) (HD0.out.reads HF.1) (HD1.out.reads HF.2) (HKd.out _ HB20.out)
  clear hb ht HF
  obtain ⟨a0, a1, a2, a3⟩ := HP20.out.1
  go_wp2_with fail
  go_at_call 36
  refine HCk2.out.mono ?_
  rintro e w21 ⟨rfl, hb⟩
  have HB21 := hide (HB20.out.trans (hb.mono HB20.out.size))
  have HP21 := hide (HP20.out.below hb)
  have HR21 : Hid (Res w21 w.heap.size) := HRc.out.below (HBw.out _ HB21.out).2
  have HD0_21 := hide (HD0.out.below hb)
  have HD1_21 := hide (HD1.out.below hb)
  clear hb a0 a1 a2 a3
  obtain ⟨⟨r0, r1, r2, r3⟩, hp, _⟩ := HR21.out
  have p0 := hp 0
  have p1 := hp 1
  have p2 := hp 2
  have p3 := hp 3
  clear hp
  rcases HCE.out with ⟨hf, rfl⟩ | ⟨hf, rfl⟩
  ·have HFF := hide hf
   clear hf
   obtain ⟨a0, a1, a2, a3⟩ := HP21.out.1
   go_wp2_with fail
   refine bodyPost_ret (v := .tuple #[.agg #[.int .i64 (k : Int), .slice ao0 sn0 sc0, .slice ao1 sn1 sc1, .int .i64 0], .nilIface]) ?_ rfl ?_
   ·rw [results_cell_tmp rfl]
    simp [asAddr, Result.andThen, HR21.out.load (.int .i64 (k : Int)) (.slice ao0 sn0 sc0) (.slice ao1 sn1 sc1) (.int .i64 0)]
   ·obtain ⟨_, hg, e1, e2, e3, e4⟩ := HW.out
    have hz := (hg HT.out).trans HFF.out
    refine ⟨_, by rw [hz]; rfl, fun _ => ⟨.slice ao0 sn0 sc0, .slice ao1 sn1 sc1, by rw [e1, e4], ?_, ?_, ?_, ?_⟩, fun h => absurd hz h, below4 (HBw.out _ HB21.out).1 _ _ _ _⟩
    ·rw [e2]; exact ((HD0_21.out.set4 (by have := HRA.out; omega) _ _ _ _).reads HF'.out.1)
    ·rw [e1, e3]; exact ((HD1_21.out.set4 (by have := HRA.out; omega) _ _ _ _).reads HF'.out.2)
    ·exact HD0_21.out.new HF'.out.1 (by have := HRA.out; omega)
    ·exact HD1_21.out.new HF'.out.2 (by have := HRA.out; omega)
  ·have HFF := hide hf
   clear hf
   go_wp2_with fail
   refine bodyPost_ret (v := .tuple #[.agg #[.int .i64 0, .slice none 0 0, .slice none 0 0, .int .i64 0], .iface 64 (.int .i64 FF)]) ?_ rfl ?_
   ·rw [results_cell_tmp rfl]
    simp [asAddr, Result.andThen, HR21.out.load (.int .i64 0) (.slice none 0 0) (.slice none 0 0) (.int .i64 0)]
   ·exact answers_bad (HW.out.2.1 HT.out) HFF.out ⟨by rw [errV_no HFF.out], below4 (HBw.out _ HB21.out).1 _ _ _ _⟩
 ·have HT := hide ht
  have HR20 : Hid (Res w20 w.heap.size) := HRc.out.below (HBw.out _ HB20.out).2
  clear hb ht
  obtain ⟨⟨r0, r1, r2, r3⟩, hp, _⟩ := HR20.out
  have p0 := hp 0
  have p1 := hp 1
  have p2 := hp 2
  have p3 := hp 3
  clear hp
  go_wp2_with fail
  refine bodyPost_ret (v := .tuple #[.agg #[.int .i64 0, .slice none 0 0, .slice none 0 0, .int .i64 0], .iface 64 (.int .i64 TT)]) ?_ rfl ?_
  ·rw [results_cell_tmp rfl]
   simp [asAddr, Result.andThen, HR20.out.load (.int .i64 0) (.slice none 0 0) (.slice none 0 0) (.int .i64 0)]
  ·exact answers_bad (HW.out.1 HT.out) HT.out ⟨by rw [errV_no HT.out], below4 (HBw.out _ HB20.out).1 _ _ _ _⟩
set_option maxHeartbeats 8000000 in
theorem aparse_num (k : Nat) (hk : k = 3 ∨ k = 4) (s : ByteArray) (l0 l1 l2 : List UInt8) (hw : wordsKind [l0, l1, l2] = (k : Int)) (w : World) (hK : KindsLaid w) (hL : LibLaid w) (z1 : l1.length ≤ 9223372036854775807) (z2 : l2.length ≤ 9223372036854775807)
    (hSp : ∀ W, Below w.heap.size w W → Calls Tryz.prog 96 #[.string s, .string ⟨#[32]⟩, .int .i64 5] W fun e w' => ∃ v, e = .returned v ∧ ReadsS w' v [l0, l1, l2] ∧ Below W.heap.size W w')
    (hKo : ∀ W v, Below w.heap.size w W → ReadsS W v [l0, l1, l2] → Calls Tryz.prog 97 #[v] W (Bk W (.int .i64 (k : Int)))) :
    Calls Tryz.prog 62 #[.string s] w (AnswersW [l0, l1, l2] w) := by
 have HW : Hid ((¬ (toldN (textFault l1) 0 (numFault l2)) = 0 → wordsFault [l0, l1, l2] = (toldN (textFault l1) 0 (numFault l2))) ∧ ((toldN (textFault l1) 0 (numFault l2)) = 0 → wordsFault [l0, l1, l2] = (atomFault (k : Int) (readN l1) [] (numIs l2))) ∧ wordsKind [l0, l1, l2] = (k : Int) ∧ wordsS [l0, l1, l2] = (readN l1) ∧ wordsT (k : Int) [l0, l1, l2] = [] ∧ wordsN (k : Int) [l0, l1, l2] = (numIs l2)) := by
  obtain ⟨h1, h2⟩ := told_words (k := (k : Int)) (by omega) [l0, l1, l2] hw
  rcases hk with rfl | rfl <;> exact ⟨h1, h2, hw, rfl, rfl, rfl⟩
 have HKc : Hid (∀ W, KindsLaid W → W.cell? ⟨0, k * 3 + 1, none⟩ = some (.bool false) ∧ W.cell? ⟨0, k * 3 + 2, none⟩ = some (.bool true)) := fun W h => by
  rcases hk with rfl | rfl <;> exact ⟨h _ (by decide), h _ (by decide)⟩
 have hk6 : k < 6 := by omega
 have hk0 : 0 < k := by omega
 have hkz : ((k : Int) == 0) = false := by simp; omega
 clear hk hw
 obtain ⟨w1, hw1⟩ := nm (w.alloc (.cells #[.int .i64 0, .slice none 0 0, .slice none 0 0, .int .i64 0] 29))
 have HB1 : Hid (Below w.heap.size w w1) := by unfold Hid; rw [hw1]; exact below_alloc1 w _
 have HRc : Hid (Res w1 w.heap.size) := by unfold Hid; rw [hw1]; exact res_new _ _
 have HSp := hide (hSp w1 HB1.out)
 have HKo := hide hKo
 have HKL : Hid (KindsLaid w ∧ LibLaid w) := ⟨hK, hL⟩
 obtain ⟨E0, hE0⟩ := nm (errV (textFault l1))
 have x0 : ∀ cs, ¬ E0 = .agg cs := fun cs => by rw [hE0]; exact errV_agg _ cs
 have y0 : E0.oneCell' = true := by rw [hE0]; exact errV_one _
 have HPa0 : Hid (∀ W, Calls Tryz.prog 98 #[.string (strOf l1)] W fun e w' => ∃ ao n c, e = .returned (.tuple #[.slice ao n c, E0]) ∧ Rd W.heap.size w' (.slice ao n c) l1 ∧ Below W.heap.size W w') := fun W => parse_rd l1 z1 hE0 W
 obtain ⟨E2, hE2⟩ := nm (errV (numFault l2))
 have x2 : ∀ cs, ¬ E2 = .agg cs := fun cs => by rw [hE2]; exact errV_agg _ cs
 have y2 : E2.oneCell' = true := by rw [hE2]; exact errV_one _
 have HNu : Hid (∀ W, Below w.heap.size w W → Calls Tryz.prog 99 #[.string (strOf l2)] W (Bk W (.tuple #[.int .i64 (numIs l2), E2]))) := fun W h => by
  have h2 := number_any (strOf l2) (by rw [strOf_size]; exact z2) W (hL.below h)
  rw [strOf_list, ← hE2] at h2
  exact h2
 obtain ⟨TT, hTT⟩ := nm ((toldN (textFault l1) 0 (numFault l2)))
 obtain ⟨RT, hRT⟩ := nm (errV TT)
 have HTo : Hid (∀ W, Calls Tryz.prog 100 #[.agg #[E0, .nilIface, E2]] W (Bk W RT)) := fun W => by
  have h := told_any (textFault l1) 0 (numFault l2) (textFault_range _).1 (textFault_range _).2 (by decide) (by decide) (numFault_range _).1 (numFault_range _).2 W
  rw [← hTT, ← hRT, ← hE0, ← hE2] at h
  exact h
 have HT0 : Hid (TT = 0 → (textFault l1) = 0 ∧ (numFault l2) = 0) := fun h => by
  obtain ⟨a, b, c⟩ := told_zero (hTT.symm.trans h)
  exact ⟨a, c⟩
 have HRT : Hid ((TT = 0 ∧ RT = .nilIface) ∨ (¬ TT = 0 ∧ RT = .iface 64 (.int .i64 TT))) := by unfold Hid; rw [hRT]; exact errV_two TT
 rw [← hTT] at HW
 obtain ⟨FF, hFF⟩ := nm ((atomFault (k : Int) (readN l1) [] (numIs l2)))
 rw [← hFF] at HW
 obtain ⟨CE, hCE⟩ := nm (errV FF)
 have HCE : Hid ((FF = 0 ∧ CE = .nilIface) ∨ (¬ FF = 0 ∧ CE = .iface 64 (.int .i64 FF))) := by unfold Hid; rw [hCE]; exact errV_two FF
 have HCk : Hid (∀ (W : World) (v0 v1 : Value), Reads W v0 (readN l1) → Reads W v1 [] → KindsLaid W → Calls Tryz.prog 36 #[.agg #[.int .i64 (k : Int), v0, v1, .int .i64 (numIs l2)]] W (Bk W CE)) := fun W v0 v1 h0 h1 hk => by
  have h := acheck_any (k : Int) (numIs l2) v0 v1 (readN l1) [] W h0 h1 hk
  rw [← hFF, ← hCE] at h
  exact h
 clear hTT hRT hFF hCE hE0 hE2 hSp hKo hK hL
 go_enter Tryz.func62, Tryz.ntmps62
 go_wp2_with fail
 rw [← hw1]
 clear hw1
 go_at_call 96
 refine HSp.out.mono ?_
 rintro e w2 ⟨v, rfl, hR, hb⟩
 have HZ2 := hide hb
 have HR2 := hide hR
 clear hb hR
 go_wp2_with fail
 go_at_call 97
 refine (HKo.out _ _ (HB1.out.trans (HZ2.out.mono HB1.out.size)) HR2.out).mono ?_
 rintro e w3 ⟨rfl, hb⟩
 have HZ3 := hide (HZ2.out.trans (hb.mono HZ2.out.size))
 have hR3 := HR2.out.below hb
 clear hb
 obtain ⟨wb, cap, rfl, hwb, hcap, hcell⟩ := hR3
 have HC : Hid (∀ j, j < 3 → w3.cell? ⟨wb, j, none⟩ = some (.string (strOf (List.getD [l0, l1, l2] j [])))) := hcell
 have HWb := hide hwb
 have HBw : Hid (∀ W, Below w3.heap.size w3 W → Below w.heap.size w W ∧ Below w1.heap.size w1 W) := fun W h => ⟨(HB1.out.trans (HZ3.out.mono HB1.out.size)).trans (h.mono (Nat.le_trans HB1.out.size HZ3.out.size)), HZ3.out.trans (h.mono HZ3.out.size)⟩
 have HKd : Hid (∀ W, Below w3.heap.size w3 W → KindsLaid W) := fun W h => HKL.out.1.below (HBw.out W h).1
 have HRA : Hid (w.heap.size < w3.heap.size) := Nat.lt_of_lt_of_le HRc.out.2.2 HZ3.out.size
 clear hcell hcap hwb
 obtain ⟨W4, hW4⟩ := nm (((w3.alloc (.cells #[.int .i64 (k : Int), .slice none 0 0, .slice none 0 0, .int .i64 0] 29)).alloc (.cells #[.nilIface, .nilIface, .nilIface] 154)))
 have HP4 : Hid (PS W4 w3.heap.size (.int .i64 (k : Int)) (.slice none 0 0) (.slice none 0 0) (.int .i64 0) .nilIface .nilIface .nilIface) := by unfold Hid; rw [hW4]; exact ps_alloc _ _ _ _
 have HB4 : Hid (Below w3.heap.size w3 W4) := by unfold Hid; rw [hW4]; exact ((Below.refl _ _).alloc (Nat.le_refl _) _).alloc (by simp) _
 have c1 : W4.cell? ⟨wb, 1, none⟩ = some (.string (strOf l1)) := (HB4.out.cell HWb.out).trans (HC.out 1 (by decide))
 rw [hW4] at c1
 go_wp2_with fail
 rw [← hW4]
 clear hW4 c1
 go_at_call 98
 refine (HPa0.out _).mono ?_
 rintro e w5 ⟨ao0, sn0, sc0, rfl, hd, hb⟩
 have HD0_5 : Hid (Rd (w3.heap.size + 2) w5 (.slice ao0 sn0 sc0) l1) := hd.mono (by have := HP4.out.2.2.2.2; omega)
 clear hd
 have HP5 := hide (HP4.out.below hb)
 have HB5 := hide (HB4.out.trans (hb.mono HB4.out.size))
 clear hb
 have f0 := HP5.out.2.2.1 1
 have f1 := HP5.out.2.2.2.1 0
 have g0 := HP5.out.1.2.1
 have g1 := HP5.out.2.1.1
 obtain ⟨W6, hW6⟩ := nm ((w5.setCell ⟨w3.heap.size, 1, none⟩ (.slice ao0 sn0 sc0)).setCell ⟨w3.heap.size + 1, 0, none⟩ E0)
 have HP6 : Hid (PS W6 w3.heap.size (.int .i64 (k : Int)) (.slice ao0 sn0 sc0) (.slice none 0 0) (.int .i64 0) E0 .nilIface .nilIface) := by unfold Hid; rw [hW6]; exact HP5.out.storeS _ _
 have HB6 : Hid (Below w3.heap.size w3 W6) := by unfold Hid; rw [hW6]; exact (HB5.out.setCell (Nat.le_refl _) _).setCell (by simp) _
 have HD0_6 : Hid (Rd (w3.heap.size + 2) W6 (.slice ao0 sn0 sc0) l1) := by unfold Hid; rw [hW6]; exact (HD0_5.out.set (by omega)).set (by omega)
 obtain ⟨k6, k7⟩ := HKc.out _ (HKd.out _ HB6.out)
 have q6 := HP6.out.1.1
 obtain ⟨q7, q8, q9⟩ := HP6.out.2.1
 have c2 : W6.cell? ⟨wb, 2, none⟩ = some (.string (strOf l2)) := (HB6.out.cell HWb.out).trans (HC.out 2 (by decide))
 rw [hW6] at k6 k7 q6 q7 q8 q9 c2
 go_wp2_with fail
 all_goals try exact absurd rfl (x0 _)
 rw [store_one y0 (by rw [set_far (ne_blk (by omega))]; exact g1) (by rw [World.frozen?_setCell]; exact f1)]
 go_wp2_with fail
 rw [← hW6]
 clear hW6 f0 f1 g0 g1 k6 k7 q6 q7 q8 q9 c2
 go_at_call 99
 refine (HNu.out _ (HBw.out _ HB6.out).1).mono ?_
 rintro e w7 ⟨rfl, hb⟩
 have HP7 := hide (HP6.out.below hb)
 have HB7 := hide (HB6.out.trans (hb.mono HB6.out.size))
 have HD0_7 := hide (HD0_6.out.below hb)
 clear hb
 have f0 := HP7.out.2.2.1 3
 have f1 := HP7.out.2.2.2.1 2
 have g0 := HP7.out.1.2.2.2
 have g1 := HP7.out.2.1.2.2
 obtain ⟨W8, hW8⟩ := nm ((w7.setCell ⟨w3.heap.size, 3, none⟩ (.int .i64 (numIs l2))).setCell ⟨w3.heap.size + 1, 2, none⟩ E2)
 have HP8 : Hid (PS W8 w3.heap.size (.int .i64 (k : Int)) (.slice ao0 sn0 sc0) (.slice none 0 0) (.int .i64 (numIs l2)) E0 .nilIface E2) := by unfold Hid; rw [hW8]; exact HP7.out.storeN _ _
 have HB8 : Hid (Below w3.heap.size w3 W8) := by unfold Hid; rw [hW8]; exact (HB7.out.setCell (Nat.le_refl _) _).setCell (by simp) _
 have HD0_8 : Hid (Rd (w3.heap.size + 2) W8 (.slice ao0 sn0 sc0) l1) := by unfold Hid; rw [hW8]; exact (HD0_7.out.set (by omega)).set (by omega)
 obtain ⟨k6, k7⟩ := HKc.out _ (HKd.out _ HB8.out)
 have q6 := HP8.out.1.1
 obtain ⟨q7, q8, q9⟩ := HP8.out.2.1
 rw [hW8] at k6 k7 q6 q7 q8 q9
 go_wp2_with fail
 all_goals try exact absurd rfl (x2 _)
 rw [store_one y2 (by rw [set_far (ne_blk (by omega))]; exact g1) (by rw [World.frozen?_setCell]; exact f1)]
 go_wp2_with fail
 rw [← hW8]
 clear hW8 f0 f1 g0 g1 k6 k7 q6 q7 q8 q9
 go_at_call 100
 refine (HTo.out _).mono ?_
 rintro e w20 ⟨rfl, hb⟩
 have HB20 := hide (HB8.out.trans (hb.mono HB8.out.size))
 rcases HRT.out with ⟨ht, rfl⟩ | ⟨ht, rfl⟩
 ·have HT := hide ht
  have HF := HT0.out ht
  have HF' : Hid _ := HF
  have HP20 := hide (HP8.out.below hb)
  have HD0 := hide (HD0_8.out.below hb)
  have HCk2 : Hid (Calls Tryz.prog 36 #[.agg #[.int .i64 (k : Int), .slice ao0 sn0 sc0, .slice none 0 0, .int .i64 (numIs l2)]] w20 (Bk w20 CE)) := HCk.out w20 (.slice ao0 sn0 sc0) (.slice none 0 0) (HD0.out.reads HF.1) (Or.inl ⟨none, 0, rfl, rfl⟩) (HKd.out _ HB20.out)
  clear hb ht HF
  obtain ⟨a0, a1, a2, a3⟩ := HP20.out.1
  go_wp2_with fail
  go_at_call 36
  refine HCk2.out.mono ?_
  rintro e w21 ⟨rfl, hb⟩
  have HB21 := hide (HB20.out.trans (hb.mono HB20.out.size))
  have HP21 := hide (HP20.out.below hb)
  have HR21 : Hid (Res w21 w.heap.size) := HRc.out.below (HBw.out _ HB21.out).2
  have HD0_21 := hide (HD0.out.below hb)
  clear hb a0 a1 a2 a3
  obtain ⟨⟨r0, r1, r2, r3⟩, hp, _⟩ := HR21.out
  have p0 := hp 0
  have p1 := hp 1
  have p2 := hp 2
  have p3 := hp 3
  clear hp
  rcases HCE.out with ⟨hf, rfl⟩ | ⟨hf, rfl⟩
  ·have HFF := hide hf
   clear hf
   obtain ⟨a0, a1, a2, a3⟩ := HP21.out.1
   go_wp2_with fail
   refine bodyPost_ret (v := .tuple #[.agg #[.int .i64 (k : Int), .slice ao0 sn0 sc0, .slice none 0 0, .int .i64 (numIs l2)], .nilIface]) ?_ rfl ?_
   ·rw [results_cell_tmp rfl]
    simp [asAddr, Result.andThen, HR21.out.load (.int .i64 (k : Int)) (.slice ao0 sn0 sc0) (.slice none 0 0) (.int .i64 (numIs l2))]
   ·obtain ⟨_, hg, e1, e2, e3, e4⟩ := HW.out
    have hz := (hg HT.out).trans HFF.out
    refine ⟨_, by rw [hz]; rfl, fun _ => ⟨.slice ao0 sn0 sc0, .slice none 0 0, by rw [e1, e4], ?_, ?_, ?_, ?_⟩, fun h => absurd hz h, below4 (HBw.out _ HB21.out).1 _ _ _ _⟩
    ·rw [e2]; exact ((HD0_21.out.set4 (by have := HRA.out; omega) _ _ _ _).reads HF'.out.1)
    ·rw [e1, e3]; exact (Or.inl ⟨none, 0, rfl, rfl⟩)
    ·exact HD0_21.out.new HF'.out.1 (by have := HRA.out; omega)
    ·exact ⟨none, 0, 0, rfl, fun p hp => by cases hp⟩
  ·have HFF := hide hf
   clear hf
   go_wp2_with fail
   refine bodyPost_ret (v := .tuple #[.agg #[.int .i64 0, .slice none 0 0, .slice none 0 0, .int .i64 0], .iface 64 (.int .i64 FF)]) ?_ rfl ?_
   ·rw [results_cell_tmp rfl]
    simp [asAddr, Result.andThen, HR21.out.load (.int .i64 0) (.slice none 0 0) (.slice none 0 0) (.int .i64 0)]
   ·exact answers_bad (HW.out.2.1 HT.out) HFF.out ⟨by rw [errV_no HFF.out], below4 (HBw.out _ HB21.out).1 _ _ _ _⟩
 ·have HT := hide ht
  have HR20 : Hid (Res w20 w.heap.size) := HRc.out.below (HBw.out _ HB20.out).2
  clear hb ht
  obtain ⟨⟨r0, r1, r2, r3⟩, hp, _⟩ := HR20.out
  have p0 := hp 0
  have p1 := hp 1
  have p2 := hp 2
  have p3 := hp 3
  clear hp
  go_wp2_with fail
  refine bodyPost_ret (v := .tuple #[.agg #[.int .i64 0, .slice none 0 0, .slice none 0 0, .int .i64 0], .iface 64 (.int .i64 TT)]) ?_ rfl ?_
  ·rw [results_cell_tmp rfl]
   simp [asAddr, Result.andThen, HR20.out.load (.int .i64 0) (.slice none 0 0) (.slice none 0 0) (.int .i64 0)]
  ·exact answers_bad (HW.out.1 HT.out) HT.out ⟨by rw [errV_no HT.out], below4 (HBw.out _ HB20.out).1 _ _ _ _⟩
set_option maxHeartbeats 8000000 in
theorem aparse_all (k : Nat) (hk : k = 5) (s : ByteArray) (l0 l1 l2 l3 : List UInt8) (hw : wordsKind [l0, l1, l2, l3] = (k : Int)) (w : World) (hK : KindsLaid w) (hL : LibLaid w) (z1 : l1.length ≤ 9223372036854775807) (z2 : l2.length ≤ 9223372036854775807) (z3 : l3.length ≤ 9223372036854775807)
    (hSp : ∀ W, Below w.heap.size w W → Calls Tryz.prog 96 #[.string s, .string ⟨#[32]⟩, .int .i64 5] W fun e w' => ∃ v, e = .returned v ∧ ReadsS w' v [l0, l1, l2, l3] ∧ Below W.heap.size W w')
    (hKo : ∀ W v, Below w.heap.size w W → ReadsS W v [l0, l1, l2, l3] → Calls Tryz.prog 97 #[v] W (Bk W (.int .i64 (k : Int)))) :
    Calls Tryz.prog 62 #[.string s] w (AnswersW [l0, l1, l2, l3] w) := by
 have HW : Hid ((¬ (toldN (textFault l1) (textFault l2) (numFault l3)) = 0 → wordsFault [l0, l1, l2, l3] = (toldN (textFault l1) (textFault l2) (numFault l3))) ∧ ((toldN (textFault l1) (textFault l2) (numFault l3)) = 0 → wordsFault [l0, l1, l2, l3] = (atomFault (k : Int) (readN l1) (readN l2) (numIs l3))) ∧ wordsKind [l0, l1, l2, l3] = (k : Int) ∧ wordsS [l0, l1, l2, l3] = (readN l1) ∧ wordsT (k : Int) [l0, l1, l2, l3] = (readN l2) ∧ wordsN (k : Int) [l0, l1, l2, l3] = (numIs l3)) := by
  obtain ⟨h1, h2⟩ := told_words (k := (k : Int)) (by omega) [l0, l1, l2, l3] hw
  rcases hk with rfl <;> exact ⟨h1, h2, hw, rfl, rfl, rfl⟩
 have HKc : Hid (∀ W, KindsLaid W → W.cell? ⟨0, k * 3 + 1, none⟩ = some (.bool true) ∧ W.cell? ⟨0, k * 3 + 2, none⟩ = some (.bool true)) := fun W h => by
  rcases hk with rfl <;> exact ⟨h _ (by decide), h _ (by decide)⟩
 have hk6 : k < 6 := by omega
 have hk0 : 0 < k := by omega
 have hkz : ((k : Int) == 0) = false := by simp; omega
 clear hk hw
 obtain ⟨w1, hw1⟩ := nm (w.alloc (.cells #[.int .i64 0, .slice none 0 0, .slice none 0 0, .int .i64 0] 29))
 have HB1 : Hid (Below w.heap.size w w1) := by unfold Hid; rw [hw1]; exact below_alloc1 w _
 have HRc : Hid (Res w1 w.heap.size) := by unfold Hid; rw [hw1]; exact res_new _ _
 have HSp := hide (hSp w1 HB1.out)
 have HKo := hide hKo
 have HKL : Hid (KindsLaid w ∧ LibLaid w) := ⟨hK, hL⟩
 obtain ⟨E0, hE0⟩ := nm (errV (textFault l1))
 have x0 : ∀ cs, ¬ E0 = .agg cs := fun cs => by rw [hE0]; exact errV_agg _ cs
 have y0 : E0.oneCell' = true := by rw [hE0]; exact errV_one _
 have HPa0 : Hid (∀ W, Calls Tryz.prog 98 #[.string (strOf l1)] W fun e w' => ∃ ao n c, e = .returned (.tuple #[.slice ao n c, E0]) ∧ Rd W.heap.size w' (.slice ao n c) l1 ∧ Below W.heap.size W w') := fun W => parse_rd l1 z1 hE0 W
 obtain ⟨E1, hE1⟩ := nm (errV (textFault l2))
 have x1 : ∀ cs, ¬ E1 = .agg cs := fun cs => by rw [hE1]; exact errV_agg _ cs
 have y1 : E1.oneCell' = true := by rw [hE1]; exact errV_one _
 have HPa1 : Hid (∀ W, Calls Tryz.prog 98 #[.string (strOf l2)] W fun e w' => ∃ ao n c, e = .returned (.tuple #[.slice ao n c, E1]) ∧ Rd W.heap.size w' (.slice ao n c) l2 ∧ Below W.heap.size W w') := fun W => parse_rd l2 z2 hE1 W
 obtain ⟨E2, hE2⟩ := nm (errV (numFault l3))
 have x2 : ∀ cs, ¬ E2 = .agg cs := fun cs => by rw [hE2]; exact errV_agg _ cs
 have y2 : E2.oneCell' = true := by rw [hE2]; exact errV_one _
 have HNu : Hid (∀ W, Below w.heap.size w W → Calls Tryz.prog 99 #[.string (strOf l3)] W (Bk W (.tuple #[.int .i64 (numIs l3), E2]))) := fun W h => by
  have h2 := number_any (strOf l3) (by rw [strOf_size]; exact z3) W (hL.below h)
  rw [strOf_list, ← hE2] at h2
  exact h2
 obtain ⟨TT, hTT⟩ := nm ((toldN (textFault l1) (textFault l2) (numFault l3)))
 obtain ⟨RT, hRT⟩ := nm (errV TT)
 have HTo : Hid (∀ W, Calls Tryz.prog 100 #[.agg #[E0, E1, E2]] W (Bk W RT)) := fun W => by
  have h := told_any (textFault l1) (textFault l2) (numFault l3) (textFault_range _).1 (textFault_range _).2 (textFault_range _).1 (textFault_range _).2 (numFault_range _).1 (numFault_range _).2 W
  rw [← hTT, ← hRT, ← hE0, ← hE1, ← hE2] at h
  exact h
 have HT0 : Hid (TT = 0 → (textFault l1) = 0 ∧ (textFault l2) = 0 ∧ (numFault l3) = 0) := fun h => by
  obtain ⟨a, b, c⟩ := told_zero (hTT.symm.trans h)
  exact ⟨a, b, c⟩
 have HRT : Hid ((TT = 0 ∧ RT = .nilIface) ∨ (¬ TT = 0 ∧ RT = .iface 64 (.int .i64 TT))) := by unfold Hid; rw [hRT]; exact errV_two TT
 rw [← hTT] at HW
 obtain ⟨FF, hFF⟩ := nm ((atomFault (k : Int) (readN l1) (readN l2) (numIs l3)))
 rw [← hFF] at HW
 obtain ⟨CE, hCE⟩ := nm (errV FF)
 have HCE : Hid ((FF = 0 ∧ CE = .nilIface) ∨ (¬ FF = 0 ∧ CE = .iface 64 (.int .i64 FF))) := by unfold Hid; rw [hCE]; exact errV_two FF
 have HCk : Hid (∀ (W : World) (v0 v1 : Value), Reads W v0 (readN l1) → Reads W v1 (readN l2) → KindsLaid W → Calls Tryz.prog 36 #[.agg #[.int .i64 (k : Int), v0, v1, .int .i64 (numIs l3)]] W (Bk W CE)) := fun W v0 v1 h0 h1 hk => by
  have h := acheck_any (k : Int) (numIs l3) v0 v1 (readN l1) (readN l2) W h0 h1 hk
  rw [← hFF, ← hCE] at h
  exact h
 clear hTT hRT hFF hCE hE0 hE1 hE2 hSp hKo hK hL
 go_enter Tryz.func62, Tryz.ntmps62
 go_wp2_with fail
 rw [← hw1]
 clear hw1
 go_at_call 96
 refine HSp.out.mono ?_
 rintro e w2 ⟨v, rfl, hR, hb⟩
 have HZ2 := hide hb
 have HR2 := hide hR
 clear hb hR
 go_wp2_with fail
 go_at_call 97
 refine (HKo.out _ _ (HB1.out.trans (HZ2.out.mono HB1.out.size)) HR2.out).mono ?_
 rintro e w3 ⟨rfl, hb⟩
 have HZ3 := hide (HZ2.out.trans (hb.mono HZ2.out.size))
 have hR3 := HR2.out.below hb
 clear hb
 obtain ⟨wb, cap, rfl, hwb, hcap, hcell⟩ := hR3
 have HC : Hid (∀ j, j < 4 → w3.cell? ⟨wb, j, none⟩ = some (.string (strOf (List.getD [l0, l1, l2, l3] j [])))) := hcell
 have HWb := hide hwb
 have HBw : Hid (∀ W, Below w3.heap.size w3 W → Below w.heap.size w W ∧ Below w1.heap.size w1 W) := fun W h => ⟨(HB1.out.trans (HZ3.out.mono HB1.out.size)).trans (h.mono (Nat.le_trans HB1.out.size HZ3.out.size)), HZ3.out.trans (h.mono HZ3.out.size)⟩
 have HKd : Hid (∀ W, Below w3.heap.size w3 W → KindsLaid W) := fun W h => HKL.out.1.below (HBw.out W h).1
 have HRA : Hid (w.heap.size < w3.heap.size) := Nat.lt_of_lt_of_le HRc.out.2.2 HZ3.out.size
 clear hcell hcap hwb
 obtain ⟨W4, hW4⟩ := nm (((w3.alloc (.cells #[.int .i64 (k : Int), .slice none 0 0, .slice none 0 0, .int .i64 0] 29)).alloc (.cells #[.nilIface, .nilIface, .nilIface] 154)))
 have HP4 : Hid (PS W4 w3.heap.size (.int .i64 (k : Int)) (.slice none 0 0) (.slice none 0 0) (.int .i64 0) .nilIface .nilIface .nilIface) := by unfold Hid; rw [hW4]; exact ps_alloc _ _ _ _
 have HB4 : Hid (Below w3.heap.size w3 W4) := by unfold Hid; rw [hW4]; exact ((Below.refl _ _).alloc (Nat.le_refl _) _).alloc (by simp) _
 have c1 : W4.cell? ⟨wb, 1, none⟩ = some (.string (strOf l1)) := (HB4.out.cell HWb.out).trans (HC.out 1 (by decide))
 rw [hW4] at c1
 go_wp2_with fail
 rw [← hW4]
 clear hW4 c1
 go_at_call 98
 refine (HPa0.out _).mono ?_
 rintro e w5 ⟨ao0, sn0, sc0, rfl, hd, hb⟩
 have HD0_5 : Hid (Rd (w3.heap.size + 2) w5 (.slice ao0 sn0 sc0) l1) := hd.mono (by have := HP4.out.2.2.2.2; omega)
 clear hd
 have HP5 := hide (HP4.out.below hb)
 have HB5 := hide (HB4.out.trans (hb.mono HB4.out.size))
 clear hb
 have f0 := HP5.out.2.2.1 1
 have f1 := HP5.out.2.2.2.1 0
 have g0 := HP5.out.1.2.1
 have g1 := HP5.out.2.1.1
 obtain ⟨W6, hW6⟩ := nm ((w5.setCell ⟨w3.heap.size, 1, none⟩ (.slice ao0 sn0 sc0)).setCell ⟨w3.heap.size + 1, 0, none⟩ E0)
 have HP6 : Hid (PS W6 w3.heap.size (.int .i64 (k : Int)) (.slice ao0 sn0 sc0) (.slice none 0 0) (.int .i64 0) E0 .nilIface .nilIface) := by unfold Hid; rw [hW6]; exact HP5.out.storeS _ _
 have HB6 : Hid (Below w3.heap.size w3 W6) := by unfold Hid; rw [hW6]; exact (HB5.out.setCell (Nat.le_refl _) _).setCell (by simp) _
 have HD0_6 : Hid (Rd (w3.heap.size + 2) W6 (.slice ao0 sn0 sc0) l1) := by unfold Hid; rw [hW6]; exact (HD0_5.out.set (by omega)).set (by omega)
 obtain ⟨k6, k7⟩ := HKc.out _ (HKd.out _ HB6.out)
 have q6 := HP6.out.1.1
 obtain ⟨q7, q8, q9⟩ := HP6.out.2.1
 have c2 : W6.cell? ⟨wb, 2, none⟩ = some (.string (strOf l2)) := (HB6.out.cell HWb.out).trans (HC.out 2 (by decide))
 rw [hW6] at k6 k7 q6 q7 q8 q9 c2
 go_wp2_with fail
 all_goals try exact absurd rfl (x0 _)
 rw [store_one y0 (by rw [set_far (ne_blk (by omega))]; exact g1) (by rw [World.frozen?_setCell]; exact f1)]
 go_wp2_with fail
 rw [← hW6]
 clear hW6 f0 f1 g0 g1 k6 k7 q6 q7 q8 q9 c2
 go_at_call 98
 refine (HPa1.out _).mono ?_
 rintro e w7 ⟨ao1, sn1, sc1, rfl, hd, hb⟩
 have HD1_7 : Hid (Rd (w3.heap.size + 2) w7 (.slice ao1 sn1 sc1) l2) := hd.mono (by have := HP6.out.2.2.2.2; omega)
 clear hd
 have HP7 := hide (HP6.out.below hb)
 have HB7 := hide (HB6.out.trans (hb.mono HB6.out.size))
 have HD0_7 := hide (HD0_6.out.below hb)
 clear hb
 have f0 := HP7.out.2.2.1 2
 have f1 := HP7.out.2.2.2.1 1
 have g0 := HP7.out.1.2.2.1
 have g1 := HP7.out.2.1.2.1
 obtain ⟨W8, hW8⟩ := nm ((w7.setCell ⟨w3.heap.size, 2, none⟩ (.slice ao1 sn1 sc1)).setCell ⟨w3.heap.size + 1, 1, none⟩ E1)
 have HP8 : Hid (PS W8 w3.heap.size (.int .i64 (k : Int)) (.slice ao0 sn0 sc0) (.slice ao1 sn1 sc1) (.int .i64 0) E0 E1 .nilIface) := by unfold Hid; rw [hW8]; exact HP7.out.storeT _ _
 have HB8 : Hid (Below w3.heap.size w3 W8) := by unfold Hid; rw [hW8]; exact (HB7.out.setCell (Nat.le_refl _) _).setCell (by simp) _
 have HD0_8 : Hid (Rd (w3.heap.size + 2) W8 (.slice ao0 sn0 sc0) l1) := by unfold Hid; rw [hW8]; exact (HD0_7.out.set (by omega)).set (by omega)
 have HD1_8 : Hid (Rd (w3.heap.size + 2) W8 (.slice ao1 sn1 sc1) l2) := by unfold Hid; rw [hW8]; exact (HD1_7.out.set (by omega)).set (by omega)
 obtain ⟨k6, k7⟩ := HKc.out _ (HKd.out _ HB8.out)
 have q6 := HP8.out.1.1
 obtain ⟨q7, q8, q9⟩ := HP8.out.2.1
 have c2 : W8.cell? ⟨wb, 3, none⟩ = some (.string (strOf l3)) := (HB8.out.cell HWb.out).trans (HC.out 3 (by decide))
 rw [hW8] at k6 k7 q6 q7 q8 q9 c2
 go_wp2_with fail
 all_goals try exact absurd rfl (x1 _)
 rw [store_one y1 (by rw [set_far (ne_blk (by omega))]; exact g1) (by rw [World.frozen?_setCell]; exact f1)]
 go_wp2_with fail
 rw [← hW8]
 clear hW8 f0 f1 g0 g1 k6 k7 q6 q7 q8 q9 c2
 go_at_call 99
 refine (HNu.out _ (HBw.out _ HB8.out).1).mono ?_
 rintro e w9 ⟨rfl, hb⟩
 have HP9 := hide (HP8.out.below hb)
 have HB9 := hide (HB8.out.trans (hb.mono HB8.out.size))
 have HD0_9 := hide (HD0_8.out.below hb)
 have HD1_9 := hide (HD1_8.out.below hb)
 clear hb
 have f0 := HP9.out.2.2.1 3
 have f1 := HP9.out.2.2.2.1 2
 have g0 := HP9.out.1.2.2.2
 have g1 := HP9.out.2.1.2.2
 obtain ⟨W10, hW10⟩ := nm ((w9.setCell ⟨w3.heap.size, 3, none⟩ (.int .i64 (numIs l3))).setCell ⟨w3.heap.size + 1, 2, none⟩ E2)
 have HP10 : Hid (PS W10 w3.heap.size (.int .i64 (k : Int)) (.slice ao0 sn0 sc0) (.slice ao1 sn1 sc1) (.int .i64 (numIs l3)) E0 E1 E2) := by unfold Hid; rw [hW10]; exact HP9.out.storeN _ _
 have HB10 : Hid (Below w3.heap.size w3 W10) := by unfold Hid; rw [hW10]; exact (HB9.out.setCell (Nat.le_refl _) _).setCell (by simp) _
 have HD0_10 : Hid (Rd (w3.heap.size + 2) W10 (.slice ao0 sn0 sc0) l1) := by unfold Hid; rw [hW10]; exact (HD0_9.out.set (by omega)).set (by omega)
 have HD1_10 : Hid (Rd (w3.heap.size + 2) W10 (.slice ao1 sn1 sc1) l2) := by unfold Hid; rw [hW10]; exact (HD1_9.out.set (by omega)).set (by omega)
 obtain ⟨k6, k7⟩ := HKc.out _ (HKd.out _ HB10.out)
 have q6 := HP10.out.1.1
 obtain ⟨q7, q8, q9⟩ := HP10.out.2.1
 rw [hW10] at k6 k7 q6 q7 q8 q9
 go_wp2_with fail
 all_goals try exact absurd rfl (x2 _)
 rw [store_one y2 (by rw [set_far (ne_blk (by omega))]; exact g1) (by rw [World.frozen?_setCell]; exact f1)]
 go_wp2_with fail
 rw [← hW10]
 clear hW10 f0 f1 g0 g1 k6 k7 q6 q7 q8 q9
 go_at_call 100
 refine (HTo.out _).mono ?_
 rintro e w20 ⟨rfl, hb⟩
 have HB20 := hide (HB10.out.trans (hb.mono HB10.out.size))
 rcases HRT.out with ⟨ht, rfl⟩ | ⟨ht, rfl⟩
 ·have HT := hide ht
  have HF := HT0.out ht
  have HF' : Hid _ := HF
  have HP20 := hide (HP10.out.below hb)
  have HD0 := hide (HD0_10.out.below hb)
  have HD1 := hide (HD1_10.out.below hb)
  have HCk2 : Hid (Calls Tryz.prog 36 #[.agg #[.int .i64 (k : Int), .slice ao0 sn0 sc0, .slice ao1 sn1 sc1, .int .i64 (numIs l3)]] w20 (Bk w20 CE)) := HCk.out w20 (.slice ao0 sn0 sc0) (.slice ao1 sn1 sc1) (HD0.out.reads HF.1) (HD1.out.reads HF.2.1) (HKd.out _ HB20.out)
  clear hb ht HF
  obtain ⟨a0, a1, a2, a3⟩ := HP20.out.1
  go_wp2_with fail
  go_at_call 36
  refine HCk2.out.mono ?_
  rintro e w21 ⟨rfl, hb⟩
  have HB21 := hide (HB20.out.trans (hb.mono HB20.out.size))
  have HP21 := hide (HP20.out.below hb)
  have HR21 : Hid (Res w21 w.heap.size) := HRc.out.below (HBw.out _ HB21.out).2
  have HD0_21 := hide (HD0.out.below hb)
  have HD1_21 := hide (HD1.out.below hb)
  clear hb a0 a1 a2 a3
  obtain ⟨⟨r0, r1, r2, r3⟩, hp, _⟩ := HR21.out
  have p0 := hp 0
  have p1 := hp 1
  have p2 := hp 2
  have p3 := hp 3
  clear hp
  rcases HCE.out with ⟨hf, rfl⟩ | ⟨hf, rfl⟩
  ·have HFF := hide hf
   clear hf
   obtain ⟨a0, a1, a2, a3⟩ := HP21.out.1
   go_wp2_with fail
   refine bodyPost_ret (v := .tuple #[.agg #[.int .i64 (k : Int), .slice ao0 sn0 sc0, .slice ao1 sn1 sc1, .int .i64 (numIs l3)], .nilIface]) ?_ rfl ?_
   ·rw [results_cell_tmp rfl]
    simp [asAddr, Result.andThen, HR21.out.load (.int .i64 (k : Int)) (.slice ao0 sn0 sc0) (.slice ao1 sn1 sc1) (.int .i64 (numIs l3))]
   ·obtain ⟨_, hg, e1, e2, e3, e4⟩ := HW.out
    have hz := (hg HT.out).trans HFF.out
    refine ⟨_, by rw [hz]; rfl, fun _ => ⟨.slice ao0 sn0 sc0, .slice ao1 sn1 sc1, by rw [e1, e4], ?_, ?_, ?_, ?_⟩, fun h => absurd hz h, below4 (HBw.out _ HB21.out).1 _ _ _ _⟩
    ·rw [e2]; exact ((HD0_21.out.set4 (by have := HRA.out; omega) _ _ _ _).reads HF'.out.1)
    ·rw [e1, e3]; exact ((HD1_21.out.set4 (by have := HRA.out; omega) _ _ _ _).reads HF'.out.2.1)
    ·exact HD0_21.out.new HF'.out.1 (by have := HRA.out; omega)
    ·exact HD1_21.out.new HF'.out.2.1 (by have := HRA.out; omega)
  ·have HFF := hide hf
   clear hf
   go_wp2_with fail
   refine bodyPost_ret (v := .tuple #[.agg #[.int .i64 0, .slice none 0 0, .slice none 0 0, .int .i64 0], .iface 64 (.int .i64 FF)]) ?_ rfl ?_
   ·rw [results_cell_tmp rfl]
    simp [asAddr, Result.andThen, HR21.out.load (.int .i64 0) (.slice none 0 0) (.slice none 0 0) (.int .i64 0)]
   ·exact answers_bad (HW.out.2.1 HT.out) HFF.out ⟨by rw [errV_no HFF.out], below4 (HBw.out _ HB21.out).1 _ _ _ _⟩
 ·have HT := hide ht
  have HR20 : Hid (Res w20 w.heap.size) := HRc.out.below (HBw.out _ HB20.out).2
  clear hb ht
  obtain ⟨⟨r0, r1, r2, r3⟩, hp, _⟩ := HR20.out
  have p0 := hp 0
  have p1 := hp 1
  have p2 := hp 2
  have p3 := hp 3
  clear hp
  go_wp2_with fail
  refine bodyPost_ret (v := .tuple #[.agg #[.int .i64 0, .slice none 0 0, .slice none 0 0, .int .i64 0], .iface 64 (.int .i64 TT)]) ?_ rfl ?_
  ·rw [results_cell_tmp rfl]
   simp [asAddr, Result.andThen, HR20.out.load (.int .i64 0) (.slice none 0 0) (.slice none 0 0) (.int .i64 0)]
  ·exact answers_bad (HW.out.1 HT.out) HT.out ⟨by rw [errV_no HT.out], below4 (HBw.out _ HB20.out).1 _ _ _ _⟩
end Go.Proofs.YtjmeakkmfeoigaaGreatDoor