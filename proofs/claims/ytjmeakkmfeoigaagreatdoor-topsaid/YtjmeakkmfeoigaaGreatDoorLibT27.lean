/-
  Facts and contracts that the statement leans on.
-/
import Derived.Test.YtjmeakkmfeoigaaGreatDoorLibT23
import Derived.Test.YtjmeakkmfeoigaaGreatDoorLibT26
import Derived.Test.YtjmeakkmfeoigaaGreatDoorLibT22
import Derived.OwnWalk
import Derived.Laws.OwnMore
import Derived.Laws.AppendOwn
import Derived.Test.YtjmeakkmfeoigaaGreatDoorLibT3
import Derived.Lib.Strings
import Derived.Lib.Walk
import Derived.Laws.Strings3
import Derived.RangeFuncNested
import Derived.RangeFuncBound
import Derived.RangeFuncCalls
import Derived.Test.YtjmeakkmfeoigaaGreatDoorLibT8
import Derived.Deep.Cut
import Derived.Handy
import Derived.Shelf.Abstract
import Derived.WalkKit
import Derived.OwnWalkIn
import Derived.TacticsInMore
import Derived.LoopNIn
import Derived.LoopIn
import Derived.Sort.LoopGhostIn
import Derived.Stop.RegionWithIn
import Derived.Sort.CutIn
import Derived.Test.YtjmeakkmfeoigaaGreatDoorLibT21
import Derived.Test.YtjmeakkmfeoigaaGreatDoorLibT6
namespace Go.Proofs.YtjmeakkmfeoigaaGreatDoor
open Go.ChangeShapes Go.WideShapes Go.ChangeAt Go.RowKit
set_option maxRecDepth 100000
theorem splitL_pos (k : Nat) (l : List UInt8) : 0 < (splitL k l).length := by
 cases k with
 | zero => simp [splitL]
 | succ k => unfold splitL; split <;> simp
theorem splitL_len {k : Nat} : ∀ {l x : List UInt8}, x ∈ splitL k l → x.length ≤ l.length := by
 induction k with
 | zero => intro l x h; simp [splitL] at h; rw [h]; exact Nat.le_refl _
 | succ k ih =>
  intro l x h
  unfold splitL at h
  split at h
  ·simp at h; rw [h]; exact Nat.le_refl _
  ·rcases List.mem_cons.1 h with h | h
   ·rw [h, List.length_take]; exact Nat.min_le_right _ _
   ·have := ih h; rw [List.length_drop] at this; omega
def seen (s : ByteArray) : List (List UInt8) := splitL (if 4 ≤ s.size then 4 else s.size) s.data.toList
def partFaults (k : Int) (ws : List (List UInt8)) : Int := toldN (textFault (ws.getD 1 [])) (if secondB k = true then textFault (ws.getD 2 []) else 0) (if numberB k = true then numFault (ws.getD (ws.length - 1) []) else 0)
theorem textFault_two {l : List UInt8} : textFault l = 2 ↔ lettersB l = false := by
 unfold textFault
 by_cases h : lettersB l = true
 ·rw [if_pos h, h]
  have : ¬ faultN (readN l) = 2 := by unfold faultN; repeat' split <;> omega
  exact ⟨fun h' => absurd h' this, fun h' => by cases h'⟩
 ·rw [if_neg h]
  exact ⟨fun _ => by simpa using h, fun _ => rfl⟩
theorem textFault_ok {l : List UInt8} (h : ¬ textFault l = 2) : textFault l = faultN (readN l) := by
 have h' : lettersB l = true := by
  rcases Bool.eq_false_or_eq_true (lettersB l) with e | e
  ·exact e
  ·exact absurd (textFault_two.2 e) h
 unfold textFault; rw [if_pos h']
theorem numFault_two {l : List UInt8} : (numFault l = 2 ↔ (numOf l).isNone = true) ∧ (numFault l = 0 ∨ numFault l = 2) := by
 unfold numFault
 cases numOf l <;> simp
theorem told_words {k : Int} (hk : 1 ≤ k ∧ k ≤ 5) (ws : List (List UInt8)) (hw : wordsKind ws = k) :
    (¬ partFaults k ws = 0 → wordsFault ws = partFaults k ws) ∧ (partFaults k ws = 0 → wordsFault ws = atomFault k (wordsS ws) (wordsT k ws) (wordsN k ws)) := by
 have hF : wordsFault ws = if partsBad k ws = true then 2 else atomFault k (wordsS ws) (wordsT k ws) (wordsN k ws) := by
  unfold wordsFault; rw [hw, if_neg (by omega)]
 rw [hF]
 have hb : partsBad k ws = true ↔ (textFault (ws.getD 1 []) = 2 ∨ (if secondB k = true then textFault (ws.getD 2 []) else 0) = 2 ∨ (if numberB k = true then numFault (ws.getD (ws.length - 1) []) else 0) = 2) := by
  unfold partsBad
  rw [textFault_two]
  cases secondB k <;> cases numberB k <;> simp [textFault_two, numFault_two.1, or_assoc]
 by_cases h2 : partsBad k ws = true
 ·rw [if_pos h2]
  have e : partFaults k ws = 2 := by unfold partFaults toldN; rw [if_pos (hb.1 h2)]
  rw [e]
  exact ⟨fun _ => rfl, fun h => by cases h⟩
 ·rw [if_neg h2]
  have hn := fun h => h2 (hb.2 h)
  have e : partFaults k ws = if textFault (ws.getD 1 []) = 0 then (if (if secondB k = true then textFault (ws.getD 2 []) else 0) = 0 then (if numberB k = true then numFault (ws.getD (ws.length - 1) []) else 0) else (if secondB k = true then textFault (ws.getD 2 []) else 0)) else textFault (ws.getD 1 []) := by
   unfold partFaults toldN; rw [if_neg hn]
  refine ⟨fun h => ?_, fun _ => rfl⟩
  rw [e] at h ⊢
  have hS : textFault (ws.getD 1 []) = faultN (wordsS ws) := textFault_ok (fun h' => hn (Or.inl h'))
  by_cases hs : textFault (ws.getD 1 []) = 0
  ·rw [if_pos hs] at h ⊢
   by_cases hc : secondB k = true
   ·rw [if_pos hc] at h ⊢
    have hT : textFault (ws.getD 2 []) = faultN (wordsT k ws) := by
     unfold wordsT; rw [if_pos hc]
     exact textFault_ok (fun h' => hn (Or.inr (Or.inl (by rw [if_pos hc]; exact h'))))
    have hsf : secondFault k (wordsT k ws) = textFault (ws.getD 2 []) := by unfold secondFault; rw [if_pos hc, hT]
    by_cases ht : textFault (ws.getD 2 []) = 0
    ·rw [if_pos ht] at h
     exfalso
     rcases (numFault_two (l := ws.getD (ws.length - 1) [])).2 with e0 | e0
     ·rw [e0] at h; simp at h
     ·by_cases hm : numberB k = true
      ·exact hn (Or.inr (Or.inr (by rw [if_pos hm]; exact e0)))
      ·rw [if_neg hm] at h; exact h rfl
    ·rw [if_neg ht]
     rw [atomFault_second hk (by rw [← hS]; exact hs) (by rw [hsf]; exact ht), hsf]
   ·rw [if_neg hc] at h
    exfalso
    rw [if_pos rfl] at h
    rcases (numFault_two (l := ws.getD (ws.length - 1) [])).2 with e0 | e0
    ·rw [e0] at h; simp at h
    ·by_cases hm : numberB k = true
     ·exact hn (Or.inr (Or.inr (by rw [if_pos hm]; exact e0)))
     ·rw [if_neg hm] at h; exact h rfl
  ·rw [if_neg hs]
   rw [atomFault_first hk (by rw [← hS]; exact hs), hS]
end Go.Proofs.YtjmeakkmfeoigaaGreatDoor
namespace Go.Proofs.YtjmeakkmfeoigaaGreatDoor
open Go.ChangeShapes Go.WideShapes Go.ChangeAt Go.RowKit
set_option maxRecDepth 100000
def cutL (l : List UInt8) : List (List UInt8) := splitL l.length l
end Go.Proofs.YtjmeakkmfeoigaaGreatDoor
namespace Go.Proofs.YtjmeakkmfeoigaaGreatDoor
open Go.ChangeShapes Go.WideShapes Go.ChangeAt Go.RowKit
set_option maxRecDepth 100000
def wordsV (ws : List (List UInt8)) : List Value := ws.map fun l => .string (strOf l)
end Go.Proofs.YtjmeakkmfeoigaaGreatDoor
namespace Go.Proofs.YtjmeakkmfeoigaaGreatDoor
open Go.ChangeShapes Go.WideShapes Go.ChangeAt Go.RowKit
set_option maxRecDepth 100000
def cutB (c : UInt8) : List UInt8 → List (List UInt8)
 | [] => [[]]
 | x :: r => if x = c then [] :: cutB c r else match cutB c r with
  | [] => [[x]]
  | y :: ys => (x :: y) :: ys
def plainC (c : UInt8) (l : List UInt8) : Bool := l.all fun b => b != c
end Go.Proofs.YtjmeakkmfeoigaaGreatDoor
namespace Go.Proofs.YtjmeakkmfeoigaaGreatDoor
open Go.RowKit
set_option maxRecDepth 100000
theorem plain_kind (k : Int) : plainB (kindWord k) = true := by unfold kindWord; (repeat' split) <;> rfl
theorem plain_byte (s : Int) : (byteOf s != 32) = true := by unfold byteOf; (repeat' split) <;> rfl
theorem plain_text (t : List Int) : plainB (textN t) = true := by
 unfold plainB textN
 rw [List.all_map, List.all_eq_true]
 intro x _
 exact plain_byte x
theorem nums_plain : nums.all (fun n => plainB (numText n)) = true := by decide +kernel
theorem plain_num {n : Int} (h : -99 ≤ n ∧ n ≤ 99) : plainB (numText n) = true := List.all_eq_true.1 nums_plain n (mem_nums.2 h)
theorem kind_of_word {k : Int} (hk : 1 ≤ k ∧ k ≤ 5) : kindOfN (kindWord k) = k := by
 rcases five hk.1 hk.2 with rfl | rfl | rfl | rfl | rfl <;> rfl
def atomWords (k : Int) (s t : List Int) (n : Int) : List (List UInt8) := kindWord k :: textN s :: ((if secondB k = true then [textN t] else []) ++ (if numberB k = true then [numText n] else []))
theorem seen_words {k n : Int} {s t : List Int} (h : atomFault k s t n = 0) : seen (strOf (atomText k s t n)) = atomWords k s t n := by
 obtain ⟨hk, hs, ht, n0, n1⟩ := atomFault_zero.1 h
 have hm : mostN k ≤ 20 := by unfold mostN; split <;> omega
 have pn := plain_num (n := n) ⟨by omega, by omega⟩
 have pk := plain_kind k
 have ps := plain_text s
 have pt := plain_text t
 have hz : 4 ≤ (strOf (atomText k s t n)).size := by
  rw [strOf_size]
  have : 3 ≤ (kindWord k).length := by unfold kindWord; (repeat' split) <;> simp
  unfold atomText
  simp
  omega
 unfold seen
 rw [if_pos hz, strOf_list]
 unfold atomText atomWords
 rcases five hk.1 hk.2 with rfl | rfl | rfl | rfl | rfl
 ·simp only [show secondB 1 = true from rfl, show numberB 1 = false from rfl, if_true, Bool.false_eq_true, if_false, List.append_nil, List.append_assoc, List.cons_append]
  rw [split_word pk, split_word ps, split_last pt]
 ·simp only [show secondB 2 = true from rfl, show numberB 2 = false from rfl, if_true, Bool.false_eq_true, if_false, List.append_nil, List.append_assoc, List.cons_append]
  rw [split_word pk, split_word ps, split_last pt]
 ·simp only [show secondB 3 = false from rfl, show numberB 3 = true from rfl, if_true, Bool.false_eq_true, if_false, List.nil_append, List.append_assoc, List.cons_append]
  rw [split_word pk, split_word ps, split_last pn]
 ·simp only [show secondB 4 = false from rfl, show numberB 4 = true from rfl, if_true, Bool.false_eq_true, if_false, List.nil_append, List.append_assoc, List.cons_append]
  rw [split_word pk, split_word ps, split_last pn]
 ·simp only [show secondB 5 = true from rfl, show numberB 5 = true from rfl, if_true, List.nil_append, List.append_assoc, List.cons_append]
  rw [split_word pk, split_word ps, split_word pt, split_last pn]
theorem words_back {k n : Int} {s t : List Int} (h : atomFault k s t n = 0) : wordsFault (atomWords k s t n) = 0 ∧ wordsKind (atomWords k s t n) = k ∧ wordsS (atomWords k s t n) = s ∧ wordsT k (atomWords k s t n) = t ∧ wordsN k (atomWords k s t n) = n := by
 obtain ⟨hk, hs, ht, n0, n1⟩ := atomFault_zero.1 h
 have ss := (fault_zero.1 hs).2.2.1
 have es := read_text ss
 have ls := letters_text ss
 have hm : mostN k ≤ 20 := by unfold mostN; split <;> omega
 have en := numOf_text (n := n) ⟨by omega, by omega⟩
 have ek : wordsKind (atomWords k s t n) = k := by
  have e0 : (atomWords k s t n).getD 0 [] = kindWord k := rfl
  unfold wordsKind
  rw [e0, kind_of_word hk, if_pos]
  rcases five hk.1 hk.2 with rfl | rfl | rfl | rfl | rfl <;> rfl
 have eS : wordsS (atomWords k s t n) = s := es
 have eT : wordsT k (atomWords k s t n) = t := by
  unfold wordsT
  by_cases h2 : secondB k = true
  ·have h0 := second_reads ht h2
   rw [if_pos h2]
   have : (atomWords k s t n).getD 2 [] = textN t := by unfold atomWords; rw [if_pos h2]; rfl
   rw [this, read_text (fault_zero.1 h0).2.2.1]
  ·rw [if_neg h2]
   unfold secondFault at ht
   rw [if_neg h2] at ht
   by_cases hl : 0 < t.length
   ·rw [if_pos hl] at ht; cases ht
   ·exact (List.length_eq_zero_iff.1 (by omega)).symm
 have eN : wordsN k (atomWords k s t n) = n := by
  unfold wordsN
  by_cases h2 : numberB k = true
  ·rw [if_pos h2]
   have : (atomWords k s t n).getD ((atomWords k s t n).length - 1) [] = numText n := by
    rcases five hk.1 hk.2 with rfl | rfl | rfl | rfl | rfl
    ·cases h2
    ·cases h2
    all_goals rfl
   rw [this, en]; rfl
  ·rw [if_neg h2]
   unfold mostN at n0 n1
   rw [if_neg h2] at n0 n1
   omega
 have eP : partsBad k (atomWords k s t n) = false := by
  have l1 : lettersB ((atomWords k s t n).getD 1 []) = true := ls
  unfold partsBad
  rw [l1]
  by_cases h2 : secondB k = true
  ·have h0 := second_reads ht h2
   have l2 : lettersB ((atomWords k s t n).getD 2 []) = true := by
    have : (atomWords k s t n).getD 2 [] = textN t := by unfold atomWords; rw [if_pos h2]; rfl
    rw [this]; exact letters_text (fault_zero.1 h0).2.2.1
   rw [l2]
   by_cases h3 : numberB k = true
   ·have : (atomWords k s t n).getD ((atomWords k s t n).length - 1) [] = numText n := by
     rcases five hk.1 hk.2 with rfl | rfl | rfl | rfl | rfl
     ·cases h3
     ·cases h3
     all_goals rfl
    rw [this, en]; simp
   ·simp [h3]
  ·by_cases h3 : numberB k = true
   ·have : (atomWords k s t n).getD ((atomWords k s t n).length - 1) [] = numText n := by
     rcases five hk.1 hk.2 with rfl | rfl | rfl | rfl | rfl
     ·cases h3
     ·cases h3
     all_goals rfl
    rw [this, en]; simp [h2]
   ·simp [h2, h3]
 refine ⟨?_, ek, eS, eT, eN⟩
 unfold wordsFault
 rw [ek, if_neg (by omega), eP, eS, eT, eN]
 simpa using h
theorem atomText_size {k n : Int} {s t : List Int} (h : atomFault k s t n = 0) : (atomText k s t n).length ≤ 100 := by
 obtain ⟨hk, hs, ht, n0, n1⟩ := atomFault_zero.1 h
 have l1 : (textN s).length ≤ 12 := by have := (fault_zero.1 hs).2.1; simp [textN]; omega
 have l2 : secondB k = true → (textN t).length ≤ 12 := fun h2 => by have := (fault_zero.1 (second_reads ht h2)).2.1; simp [textN]; omega
 have l3 : (numText n).length ≤ 3 := by
  unfold numText digitsN
  (repeat' split) <;> simp
 have l0 : (kindWord k).length ≤ 6 := by unfold kindWord; (repeat' split) <;> simp
 unfold atomText
 by_cases h2 : secondB k = true
 ·have := l2 h2
  by_cases h3 : numberB k = true <;> simp [h2, h3] <;> omega
 ·by_cases h3 : numberB k = true <;> simp [h2, h3] <;> omega
end Go.Proofs.YtjmeakkmfeoigaaGreatDoor
namespace Go.Proofs.YtjmeakkmfeoigaaGreatDoor
open Go.RowKit
set_option maxRecDepth 100000
def codeW : List UInt8 := [99, 111, 100, 101]
def signW (s : Int) : List UInt8 := if s = 10 then [97, 110, 100] else if s = 11 then [111, 114] else if s = 12 then [110, 111] else if s = 13 then [116, 104, 101, 110] else digitsN s.toNat
def At.text (a : At) : List UInt8 := atomText a.k a.s a.t a.n
def linesOf (ats : List At) : List UInt8 := (ats.map fun a => a.text ++ [10]).flatten
def signsOf (c : List Int) : List UInt8 := (c.map fun s => 32 :: signW s).flatten
def formText (ats : List At) (c : List Int) : List UInt8 := linesOf ats ++ (codeW ++ signsOf c ++ [10])
def signN (l : List UInt8) : Option Int :=
 if l = [97, 110, 100] then some 10 else if l = [111, 114] then some 11 else if l = [110, 111] then some 12 else if l = [116, 104, 101, 110] then some 13
 else if l.length = 1 ∧ 48 ≤ (l.getD 0 0).toNat ∧ (l.getD 0 0).toNat ≤ 57 then some ((l.getD 0 0).toNat - 48) else none
def signsN : List (List UInt8) → Option (List Int)
 | [] => some []
 | l :: r => match signN l, signsN r with
  | some s, some t => some (s :: t)
  | _, _ => none
def atOf (l : List UInt8) : At := ⟨wordsKind (cutL l), wordsS (cutL l), wordsT (wordsKind (cutL l)) (cutL l), wordsN (wordsKind (cutL l)) (cutL l)⟩
def lineFault (l : List UInt8) : Int := wordsFault (cutL l)
def linesFault : List (List UInt8) → Int
 | [] => 0
 | l :: r => if lineFault l = 0 then linesFault r else lineFault l
def headLines (t : List UInt8) : List (List UInt8) := (cutB 10 t).take ((cutB 10 t).length - 2)
def codeLine (t : List UInt8) : List UInt8 := (cutB 10 t).getD ((cutB 10 t).length - 2) []
def lastLine (t : List UInt8) : List UInt8 := (cutB 10 t).getD ((cutB 10 t).length - 1) []
def codeWords (t : List UInt8) : List (List UInt8) := (cutL (codeLine t)).drop 1
def textAts (t : List UInt8) : List At := (headLines t).map atOf
def textCode (t : List UInt8) : List Int := (signsN (codeWords t)).getD []
def frameBad (t : List UInt8) : Bool := decide ((cutB 10 t).length < 2) || decide (¬ lastLine t = []) || decide (¬ (cutL (codeLine t)).getD 0 [] = codeW) || (signsN (codeWords t)).isNone
def formTextFault (t : List UInt8) : Int := if frameBad t = true then 2 else if linesFault (headLines t) = 0 then formFault (textAts t) (textCode t) else linesFault (headLines t)
def joinB (c : UInt8) : List (List UInt8) → List UInt8
 | [] => []
 | [x] => x
 | x :: y :: r => x ++ c :: joinB c (y :: r)
theorem line_kind : ∀ k : Int, plainC 10 (kindWord k) = true := by intro k; unfold kindWord; (repeat' split) <;> rfl
theorem line_byte (s : Int) : (byteOf s != 10) = true := by unfold byteOf; (repeat' split) <;> rfl
theorem line_term (t : List Int) : plainC 10 (textN t) = true := by
 unfold plainC textN
 rw [List.all_map, List.all_eq_true]
 intro x _
 exact line_byte x
theorem line_nums : nums.all (fun n => plainC 10 (numText n)) = true := by decide +kernel
theorem line_num {n : Int} (h : -99 ≤ n ∧ n ≤ 99) : plainC 10 (numText n) = true := List.all_eq_true.1 line_nums n (mem_nums.2 h)
theorem plainC_app {c : UInt8} {a b : List UInt8} (ha : plainC c a = true) (hb : plainC c b = true) : plainC c (a ++ b) = true := by
 unfold plainC at *; rw [List.all_append, ha, hb]; rfl
theorem plainC_cons {c x : UInt8} {b : List UInt8} (hx : x ≠ c) (hb : plainC c b = true) : plainC c (x :: b) = true := by
 unfold plainC at *; rw [List.all_cons, hb]; simpa using hx
theorem line_atom {a : At} (h : a.fault = 0) : plainC 10 a.text = true := by
 obtain ⟨hk, hs, ht, n0, n1⟩ := atomFault_zero.1 h
 have hm : mostN a.k ≤ 20 := by unfold mostN; split <;> omega
 unfold At.text atomText
 refine plainC_app (plainC_app (line_kind _) (plainC_cons (by decide) (line_term _))) (plainC_app ?_ ?_)
 ·split
  ·exact plainC_cons (by decide) (line_term _)
  ·rfl
 ·split
  ·exact plainC_cons (by decide) (line_num ⟨by omega, by omega⟩)
  ·rfl
def endsN (l : List UInt8) : Nat := (l.filter fun b => b == 10).length
end Go.Proofs.YtjmeakkmfeoigaaGreatDoor
namespace Go.Proofs.YtjmeakkmfeoigaaGreatDoor
open Go.ChangeShapes Go.WideShapes Go.ChangeAt Go.RowKit
set_option maxRecDepth 100000
theorem lines_len {ats : List At} (h : ∀ a ∈ ats, a.fault = 0) : (linesOf ats).length ≤ 101 * ats.length := by
 induction ats with
 | nil => simp [linesOf]
 | cons a ats ih =>
  have h1 := ih fun b hb => h b (List.mem_cons_of_mem _ hb)
  have h2 : a.text.length ≤ 100 := atomText_size (h a List.mem_cons_self)
  unfold linesOf at h1 ⊢
  rw [List.map_cons, List.flatten_cons, List.length_append, List.length_append, List.length_cons]
  simp only [List.length_cons, List.length_nil]
  omega
def printF (ats : List At) (c : List Int) : ByteArray := if formFault ats c = 0 then strOf (formText ats c) else ⟨#[]⟩
def readA (t : List UInt8) : List At := if formTextFault t = 0 then textAts t else []
def readC (t : List UInt8) : List Int := if formTextFault t = 0 then textCode t else []
end Go.Proofs.YtjmeakkmfeoigaaGreatDoor
namespace Go.Proofs.YtjmeakkmfeoigaaGreatDoor
open Go.ChangeShapes Go.WideShapes Go.ChangeAt Go.RowKit
set_option maxRecDepth 100000
theorem strOf_same {a b : ByteArray} (h : a.data.toList = b.data.toList) : a = b := by rw [← strOf_data a, ← strOf_data b, h]
def endB (s : ByteArray) : Bool := decide (1 ≤ s.size) && ((s.extract (s.size - 1) s.size).toList == [10])
theorem endB_app (l : List UInt8) : endB (strOf (l ++ [10])) = true := by
 unfold endB
 have h : (strOf (l ++ [10])).size = l.length + 1 := by rw [strOf_size]; simp
 rw [h, Lib.toList_data, Lib.extract_data, strOf_list]
 simp
set_option maxHeartbeats 1000000 in
theorem hasEnd_any (s : ByteArray) (hs : s.size ≤ 9223372036854775807) (w : World) :
    Calls Tryz.prog 133 #[.string s, .string ⟨#[10]⟩] w (Sk w (.bool (endB s))) := by
 unfold endB
 by_cases h : 1 ≤ s.size
 ·go_enter Tryz.func133, Tryz.ntmps133
  go_wp2
  go_ret
  refine ⟨?_, rfl⟩
  simp [h]
 ·go_enter Tryz.func133, Tryz.ntmps133
  go_wp2
  go_ret
  refine ⟨?_, rfl⟩
  simp
theorem drop_end (l : List UInt8) (n : Nat) (h : n = l.length) : (strOf (l ++ [10])).extract 0 n = strOf l := by
 rw [strOf_take, h, List.take_left]
set_option maxHeartbeats 1000000 in
theorem trimEnd_hit (l : List UInt8) (hz : l.length + 1 ≤ 9223372036854775807) (w : World) :
    Calls Tryz.prog 61 #[.string (strOf (l ++ [10])), .string ⟨#[10]⟩] w (Sk w (.string (strOf l))) := by
 have hn : (strOf (l ++ [10])).size = l.length + 1 := by rw [strOf_size]; simp
 have HH : Hid (∀ W, Calls Tryz.prog 133 #[.string (strOf (l ++ [10])), .string ⟨#[10]⟩] W (Sk W (.bool true))) := fun W => by
  have h := hasEnd_any (strOf (l ++ [10])) (by omega) W
  rw [endB_app] at h
  exact h
 have HD : Hid (∀ n, n = l.length → (strOf (l ++ [10])).extract 0 n = strOf l) := fun n h => drop_end l n h
 obtain ⟨s, hs⟩ := nm (strOf (l ++ [10]))
 rw [← hs] at hn HH HD ⊢
 clear hs
 have HC : Hid (∀ W, Calls Tryz.prog 95 #[.string s, .string ⟨#[10]⟩] W (Sk W (.string (strOf l)))) := fun W => by
  have h1 : (1 : Int) ≤ (s.size : Int) := by omega
  have h2 : (s.size : Int) ≤ 9223372036854775807 := by omega
  go_enter Tryz.func95, Tryz.ntmps95
  go_wp2_with (go_at_call 133; refine (HH.out _).mono ?_; rintro e w' ⟨rfl, rfl⟩)
  go_ret
  refine ⟨?_, rfl⟩
  rw [HD.out _ (by omega)]
  rfl
 go_enter Tryz.func61, Tryz.ntmps61
 go_wp2_with (go_at_call 95; refine (HC.out _).mono ?_; rintro e w' ⟨rfl, rfl⟩)
 go_ret
 exact ⟨rfl, rfl⟩
def lastTen (l : List UInt8) : Nat → Int
 | 0 => -1
 | k + 1 => if l.getD k 0 = 10 then (k : Int) else lastTen l k
theorem lastTen_plain {l : List UInt8} {a : Nat} : ∀ {k : Nat}, (∀ j, a ≤ j → j < k → l.getD j 0 ≠ 10) → a ≤ k → lastTen l k = lastTen l a := by
 intro k
 induction k with
 | zero => intro _ h; rw [Nat.le_zero.1 h]
 | succ k ih =>
  intro h hk
  rcases Nat.lt_or_ge k a with hl | hl
  ·rw [show a = k + 1 by omega]
  ·rw [lastTen, if_neg (h k hl (by omega)), ih (fun j h1 h2 => h j h1 (by omega)) hl]
set_option maxHeartbeats 2000000 in
theorem lastByte_any (s : ByteArray) (hs : s.size < 4611686018427387904) (w : World) :
    Calls Tryz.prog 106 #[.string s, .int .u8 10] w (Sk w (.int .i64 (lastTen s.data.toList s.size))) := by
 obtain ⟨R, hR⟩ := nm (lastTen s.data.toList s.size)
 rw [← hR]
 have HR := hide hR
 clear hR
 have HLen : Hid (s.data.toList.length = s.size) := Array.length_toList
 go_enter Tryz.func106, Tryz.ntmps106
 go_wp2
 go_loop [5] (fun vi => ∃ k : Nat, k ≤ s.size ∧ vi = .int .i64 ((k : Int) - 1) ∧ R = lastTen s.data.toList k) (fun vi => ((intOf vi) + 1).toNat)
 case atStart => exact ⟨s.size, Nat.le_refl _, by first | rfl | go_num | (congr 1; omega), HR.out⟩
 case round =>
  obtain ⟨k, hk, rfl, hh⟩ := hrel
  have HH := hide hh
  clear hh
  by_cases h0 : k = 0
  ·subst h0
   go_wp2
   go_ret
   refine ⟨?_, rfl⟩
   rw [HH.out]; rfl
  ·obtain ⟨j, rfl⟩ : ∃ j, k = j + 1 := ⟨k - 1, by omega⟩
   have e : ((j + 1 : Nat) : Int) - 1 = (j : Int) := by omega
   rw [e]
   clear e h0
   have hj : j < s.size := by omega
   have hj' : (j : Int) < (s.size : Int) := by omega
   have HGD : Hid (s.data.toList.getD j 0 = s[j]'hj) := by
    unfold Hid
    have hk' : j < s.data.toList.length := by rw [Array.length_toList]; exact hj
    rw [List.getD_eq_getElem?_getD, List.getElem?_eq_getElem hk']
    rfl
   by_cases hb : s[j]'hj = 10
   ·have hb' : (((s[j]'hj).toNat : Int) == 10) = true := by rw [hb]; simp
    have HS : Hid (R = (j : Int)) := by unfold Hid; rw [HH.out, lastTen, if_pos (by rw [HGD.out]; exact hb)]
    clear hb HGD
    go_wp2
    go_ret
    exact ⟨back_i HS.out.symm, rfl⟩
   ·have hb' : (((s[j]'hj).toNat : Int) == 10) = false := by
     have h : (s[j]'hj).toNat ≠ 10 := fun h => hb (UInt8.toNat_inj.1 h)
     simp; omega
    have HS : Hid (R = lastTen s.data.toList j) := by unfold Hid; rw [HH.out, lastTen, if_neg (by rw [HGD.out]; exact hb)]
    clear hb HGD
    go_wp2
    go_round
    case rel => exact ⟨j, by omega, by go_num, HS.out⟩
    case measure => simp [intOf]
theorem lastIndex_any (s : ByteArray) (hs : s.size < 4611686018427387904) (w : World) :
    Calls Tryz.prog 65 #[.string s, .string ⟨#[10]⟩] w (Sk w (.int .i64 (lastTen s.data.toList s.size))) := by
 have HL : Hid (∀ W, Calls Tryz.prog 106 #[.string s, .int .u8 10] W (Sk W (.int .i64 (lastTen s.data.toList s.size)))) := fun W => lastByte_any s hs W
 go_enter Tryz.func65, Tryz.ntmps65
 go_wp2_with (go_at_call 106; refine (HL.out _).mono ?_; rintro e w' ⟨rfl, rfl⟩)
 go_ret
 exact ⟨rfl, rfl⟩
end Go.Proofs.YtjmeakkmfeoigaaGreatDoor
namespace Go.Proofs.YtjmeakkmfeoigaaGreatDoor
open Go.RowKit
structure OverS (R S : Nat → Prop) (B : Nat) (W W' : World) : Prop where
 size : W.heap.size ≤ W'.heap.size
 same : ∀ b, (B ≤ b ∨ S b) → b < W.heap.size → ¬ R b → W'.heap[b]? = W.heap[b]?
theorem OverS.refl (R S : Nat → Prop) (B : Nat) (W : World) : OverS R S B W W := ⟨Nat.le_refl _, fun _ _ _ _ => rfl⟩
theorem OverS.trans {R S : Nat → Prop} {B : Nat} {X Y Z : World} (h : OverS R S B X Y) (k : OverS R S B Y Z) : OverS R S B X Z :=
 ⟨Nat.le_trans h.size k.size, fun b hb hl hr => (k.same b hb (Nat.lt_of_lt_of_le hl h.size) hr).trans (h.same b hb hl hr)⟩
theorem OverS.of_below {R S : Nat → Prop} {B : Nat} {W W' : World} (h : Below W.heap.size W W') : OverS R S B W W' := ⟨h.size, fun b _ hl _ => h.block b hl⟩
theorem OverS.setCell {R S : Nat → Prop} {B : Nat} {X W : World} (h : OverS R S B X W) {p : Addr} (hp : p.block < B) (hs : ¬ S p.block) (u : Value) : OverS R S B X (W.setCell p u) :=
 ⟨Nat.le_trans h.size (by simp [World.setCell]), fun b hb hl hr => (Below.heap_setCell _ _ _ _ (by rcases hb with h | h; omega; intro e; exact hs (e ▸ h))).trans (h.same b hb hl hr)⟩
structure KeepS (R S : Nat → Prop) (B : Nat) (W W' : World) : Prop where
 rest : Below 0 W W'
 old : ∀ b, b < B → ¬ S b → W'.heap[b]? = W.heap[b]?
 own : ∀ b, R b → b < W.heap.size → W'.heap[b]? = W.heap[b]?
theorem below_putS {B l : Nat} (W : World) (o : Obj) (h : B ≤ l) : Below B W (W.putObj l o) :=
 ⟨rfl, rfl, rfl, by simp, fun k hk => World.putObj_heap_other (by omega)⟩
theorem KeepS.putObj {R S : Nat → Prop} {B l : Nat} (W : World) (o : Obj) (h : B ≤ l) (hr : ¬ R l) : KeepS R S B W (W.putObj l o) :=
 ⟨below_putS _ _ (Nat.zero_le _), fun b hb _ => World.putObj_heap_other (by omega), fun _ hb _ => World.putObj_heap_other (fun e => hr (e ▸ hb))⟩
def SeqS {α : Type} (n : Nat) (P : Program) (g : Nat) (lb : Array Value) (encs : α → Array Value) (A : List α) (S : Nat → Prop) (W : World) : Prop :=
 ∀ (l : Nat) (J : Nat → (Nat → Prop) → World → Prop) (Jx : Nat → World → Prop),
  (∀ k R W1 W2, J k R W1 → KeepS R S W.heap.size W1 W2 → J k R W2) →
  (∀ k x R W1, A[k]? = some x → J k R W1 → YieldAt Fence.wide (n - 1) P l (encs x) W1 fun e W' =>
   (e = .returned (.bool true) ∧ ∃ R', J (k + 1) R' W' ∧ OverS R S W.heap.size W1 W' ∧ ∀ b, R' b → R b ∨ W1.heap.size ≤ b) ∨ (e = .returned (.bool false) ∧ Jx (k + 1) W')) →
  J 0 (fun _ => False) W →
  CallsIn Fence.wide n P g (#[.func (.yield l) #[] #[]] ++ lb) W fun e W' => (∃ v, e = .returned v) ∧ ((∃ R, J A.length R W') ∨ ∃ k, k < A.length ∧ Jx (k + 1) W')
def roundPostS (R S : Nat → Prop) (B : Nat) (I : Nat → (Nat → Prop) → World → Prop) (Ix : Nat → World → Prop) (k : Nat) (W : World) : Exit → Act → World → Prop
 | .normal, _, W' => OverS R S B W W' ∧ ∃ R', I (k + 1) R' W' ∧ ∀ b, R' b → R b ∨ W.heap.size ≤ b
 | .ret, _, W' => OverS R S B W W' ∧ Ix (k + 1) W'
 | _, _, _ => False
theorem wpIn_range_ownS {α : Type} {P : Program} {n : Nat} {g : Operand} {ps : Array Tmp} {assign body : Code} {Q : Exit → Act → World → Prop} {a : Act} {w : World}
    (h1 : 1 ≤ n) {gf : Nat} {lb : Array Value} (hg : a.eval g = .func (.func gf) #[] lb) (eg : ∀ args w, (callFunc gf args).run P w = .ok (.enter gf args) w)
    {encs : α → Array Value} {A : List α} {S : Nat → Prop} (hS : ∀ b, S b → b < w.heap.size) (hseq : ∀ W, Below w.heap.size w W → SeqS (n - 1) P gf lb encs A S W) (hps : ∀ x, (encs x).size = ps.size)
    (I : Nat → (Nat → Prop) → World → Prop) (Ix : Nat → World → Prop) (hI : ∀ k R W1 W2, I k R W1 → KeepS R S w.heap.size W1 W2 → I k R W2) (hIx : ∀ k W1 W2, Ix k W1 → Below w.heap.size W1 W2 → Ix k W2) (h0 : I 0 (fun _ => False) w)
    (hround : ∀ (l k : Nat) (x : α) (R : Nat → Prop) (W : World), A[k]? = some x → w.heap.size ≤ l → l < W.heap.size → ¬ R l → I k R W →
     assign.wpIn (Fence.wide.inRound l) (n - 1 - 1) P (Exit.then (fun a1 W1 => OverS (fun _ => False) S w.heap.size W W1 ∧ ∀ o, body.wpIn (Fence.wide.inRound l) (n - 1 - 1) P (roundPostS R S w.heap.size I Ix k (W1.putObj l o)) a1 (W1.putObj l o)) (fun _ _ _ => False))
      { tmps := (ps.zip (encs x)).foldl (fun t (p, v) => t.setIfInBounds p v) a.tmps, defers := [] } W)
    (hdone : ∀ (D : Nat) (R : Nat → Prop) (W : World), w.heap.size ≤ D → ¬ R D → I A.length R W → W.heap[D]? = some (.deferred (some [])) → Q .normal { a with defers := { target := .collected D, args := #[] } :: a.defers } W)
    (hstop : ∀ (D k : Nat) (W : World), w.heap.size ≤ D → k < A.length → Ix (k + 1) W → W.heap[D]? = some (.deferred (some [])) → Code.ret.wpIn Fence.wide n P Q { a with defers := { target := .collected D, args := #[] } :: a.defers } W) :
    (Code.rangeFunc g ps assign body).wpIn Fence.wide n P Q a w := by
 refine wpIn_rangeFunc ?_
 intro fn hfn
 rw [show Fence.wide.round = none from rfl]
 obtain ⟨rec, hrec⟩ : ∃ rec : LoopState → Option Code → Loop, rec = fun st pe => { state := st, pending := pe, fn, tmps := a.tmps, params := ps, assign, body, defers := w.heap.size } := ⟨_, rfl⟩
 obtain ⟨W1, hW1⟩ : ∃ W1, (w.alloc (.deferred (some []))).alloc (.loop (rec .ready none)) = W1 := ⟨_, rfl⟩
 have hs1 : W1.heap.size = w.heap.size + 1 + 1 := by rw [← hW1, World.size_alloc, World.size_alloc]
 have hL1 : W1.heap[w.heap.size + 1]? = some (.loop (rec .ready none)) := by
  rw [← hW1]; have := World.alloc_heap_new (w.alloc (.deferred (some []))) (.loop (rec .ready none)); rwa [World.size_alloc] at this
 have hK1 : W1.heap[w.heap.size]? = some (.deferred (some [])) := by
  rw [← hW1]; exact (Below.heap_alloc _ _ _ (by simp)).trans (World.alloc_heap_new w _)
 have hb1 : Below w.heap.size w W1 := by
  rw [← hW1]; exact ((Below.refl _ w).alloc (Nat.le_refl _) _).alloc (by simp) _
 have hI1 : I 0 (fun _ => False) W1 := hI _ _ _ _ h0 ⟨hb1.mono (Nat.zero_le _), fun b hb _ => hb1.block b hb, fun _ h _ => h.elim⟩
 refine ⟨w.heap.size + 1, [{ target := .collected w.heap.size, args := #[] }], W1, { target := .fn (.func gf) lb, args := #[.func (.yield (w.heap.size + 1)) #[] #[]] }, W1, gf,
  #[.func (.yield (w.heap.size + 1)) #[] #[]] ++ lb, W1, ?_, ?_, ?_, ?_, fun _ => h1, ?_⟩
 ·rw [← hW1, hrec]; exact run_enterLoop_outer _ _ _ _ _
 ·simp only [resolve, hg]
  simp [go_sem]
 ·intro f' _; exact trivial
 ·simp [invoke, go_sem, eg]
 ·refine (hseq W1 hb1 (w.heap.size + 1)
   (fun k R W => I k R W ∧ (∀ b, R b → w.heap.size + 1 + 1 ≤ b) ∧ W.heap[w.heap.size + 1]? = some (.loop (rec .ready none)) ∧ W.heap[w.heap.size]? = some (.deferred (some [])))
   (fun k W => Ix k W ∧ W.heap[w.heap.size + 1]? = some (.loop (rec .done (some .ret))) ∧ W.heap[w.heap.size]? = some (.deferred (some [])))
   (fun k R X Y hs hb => ⟨hI k R X Y hs.1 ⟨hb.rest, fun b h1 h2 => hb.old b (by omega) h2, hb.own⟩, hs.2.1, (hb.old _ (by omega) (fun h => by have := hS _ h; omega)).trans hs.2.2.1, (hb.old _ (by omega) (fun h => by have := hS _ h; omega)).trans hs.2.2.2⟩)
   ?_ ⟨hI1, fun _ h => h.elim, hL1, hK1⟩).mono ?_
  ·rintro k x R W hx ⟨hi, hR, hl, hk⟩
   have hlt : w.heap.size + 1 < W.heap.size := (Array.getElem?_eq_some_iff.1 hl).1
   have hR1 : ¬ R (w.heap.size + 1) := fun h => by have := hR _ h; omega
   have hR0 : ¬ R w.heap.size := fun h => by have := hR _ h; omega
   have hy := run_yield (P := P) (args := encs x) hl (by rw [hrec]; exact hps x)
   rw [hrec] at hy
   refine ⟨fn, _, assign, body, hy, roundIn_of_wpIn hfn (wpIn_mono (hround _ k x R W hx (by omega) hlt hR1 hi) ?_)⟩
   intro e a1 Wa hp
   cases e with
   | normal =>
    obtain ⟨ha, hb⟩ := hp
    have hla : Wa.heap[w.heap.size + 1]? = some (.loop (rec .ready none)) := (ha.same _ (Or.inl (by omega)) hlt id).trans hl
    have hka : Wa.heap[w.heap.size]? = some (.deferred (some [])) := (ha.same _ (Or.inl (by omega)) (by omega) id).trans hk
    have hlta : w.heap.size + 1 < Wa.heap.size := (Array.getElem?_eq_some_iff.1 hla).1
    refine ⟨_, run_beginRound hla (by rw [hrec]), ?_⟩
    have hl2 : (Wa.putObj (w.heap.size + 1) (.loop { rec .ready none with state := .busy })).heap[w.heap.size + 1]? = some (.loop { rec .ready none with state := .busy }) := World.putObj_heap_same hlta
    have hk2 : (Wa.putObj (w.heap.size + 1) (.loop { rec .ready none with state := .busy })).heap[w.heap.size]? = some (.deferred (some [])) := (World.putObj_heap_other (by omega)).trans hka
    refine wpIn_mono (hb _) ?_
    have fin : ∀ (jump : Option Code) (W3 : World), OverS R S w.heap.size (Wa.putObj (w.heap.size + 1) (.loop { rec .ready none with state := .busy })) W3 →
        (Instr.endRound (w.heap.size + 1) jump).run P W3 = .ok (.bool jump.isNone) (W3.putObj (w.heap.size + 1) (.loop (rec (if jump.isNone then .ready else .done) jump))) ∧
        (W3.putObj (w.heap.size + 1) (.loop (rec (if jump.isNone then .ready else .done) jump))).heap[w.heap.size + 1]? = some (.loop (rec (if jump.isNone then .ready else .done) jump)) ∧
        (W3.putObj (w.heap.size + 1) (.loop (rec (if jump.isNone then .ready else .done) jump))).heap[w.heap.size]? = some (.deferred (some [])) := fun jump W3 hk3 => by
     have hl3 := (hk3.same _ (Or.inl (by omega)) (by simpa using hlta) hR1).trans hl2
     have := run_endRound (P := P) jump hl3
     rw [hrec] at this ⊢
     exact ⟨this, World.putObj_heap_same (Array.getElem?_eq_some_iff.1 hl3).1, (World.putObj_heap_other (by omega)).trans ((hk3.same _ (Or.inl (by omega)) (by simp; omega) hR0).trans hk2)⟩
    rintro e a3 W3 hp
    cases e with
    | normal =>
     obtain ⟨hk3, R', hi3, hr3⟩ := hp
     obtain ⟨hr, hl4, hk4⟩ := fin none W3 hk3
     have hsz : W.heap.size ≤ Wa.heap.size := ha.size
     have hR' : ∀ b, R' b → w.heap.size + 1 + 1 ≤ b := fun b hb => by
      rcases hr3 b hb with h | h
      ·exact hR b h
      ·simp at h; omega
     refine ⟨_, _, hr, .inl ⟨rfl, R', ⟨hI _ _ _ _ hi3 (KeepS.putObj _ _ (by omega) fun h => by have := hR' _ h; omega), hR', hl4, hk4⟩, ?_, fun b hb => ?_⟩⟩
     ·refine ⟨?_, fun b hb1 hb2 hb3 => ?_⟩
      ·have := ha.size
       have := hk3.size
       simp at this
       simp
       omega
      ·rw [hs1] at hb1
       have hs2 := ha.size
       have hnS : b ≠ w.heap.size + 1 := by
        rcases hb1 with h | h
        ·omega
        ·have := hS _ h; omega
       have hb1' : w.heap.size ≤ b ∨ S b := by
        rcases hb1 with h | h
        ·exact Or.inl (by omega)
        ·exact Or.inr h
       refine (World.putObj_heap_other hnS).trans ((hk3.same b hb1' (by simp; omega) hb3).trans ((World.putObj_heap_other hnS).trans (ha.same b hb1' hb2 id)))
     ·rcases hr3 b hb with h | h
      ·exact Or.inl h
      ·right; simp at h; omega
    | ret =>
     obtain ⟨hk3, hi3⟩ := hp
     obtain ⟨hr, hl4, hk4⟩ := fin (some .ret) W3 hk3
     exact ⟨_, _, hr, .inr ⟨rfl, hIx _ _ _ hi3 (below_putS _ _ (by omega)), hl4, hk4⟩⟩
    | exit id => exact hp.elim
    | goto t => exact hp.elim
    | panic ch => exact hp.elim
    | outgrown => exact hp.elim
   | ret => exact hp.elim
   | exit id => exact hp.elim
   | goto t => exact hp.elim
   | panic ch => exact hp.elim
   | outgrown => exact hp.elim
  ·rintro e W2 ⟨⟨v, rfl⟩, (⟨R, hi, hR, hl, hk⟩ | ⟨k, hkl, hi, hl, hk⟩)⟩
   ·exact ⟨none, _, by have := run_endLoop (P := P) hl (by rw [hrec]; simp); rw [hrec] at this; exact this, hdone _ R _ (Nat.le_refl _) (fun h => by have := hR _ h; omega) (hI _ _ _ _ hi (KeepS.putObj _ _ (by omega) fun h => by have := hR _ h; omega)) ((World.putObj_heap_other (by omega)).trans hk)⟩
   ·exact ⟨some .ret, _, by have := run_endLoop (P := P) hl (by rw [hrec]; simp); rw [hrec] at this; exact this, hstop _ k _ (Nat.le_refl _) hkl (hIx _ _ _ hi (below_putS _ _ (by omega))) ((World.putObj_heap_other (by omega)).trans hk)⟩
end Go.Proofs.YtjmeakkmfeoigaaGreatDoor
namespace Go.Proofs.YtjmeakkmfeoigaaGreatDoor
open Go.ChangeShapes Go.WideShapes Go.ChangeAt Go.RowKit
set_option maxRecDepth 100000
def linesT (L : List (List UInt8)) : List UInt8 := (L.map fun x => x ++ [10]).flatten
def encL (x : List UInt8) : Array Value := #[.string (strOf (x ++ [10]))]
theorem lines_drop {L : List (List UInt8)} {k : Nat} {x : List UInt8} (h : L[k]? = some x) : linesT (L.drop k) = (x ++ [10]) ++ linesT (L.drop (k + 1)) := by
 obtain ⟨hk, rfl⟩ := List.getElem?_eq_some_iff.1 h
 rw [List.drop_eq_getElem_cons hk]
 rfl
theorem ten_at {x : List UInt8} (h : plainC 10 x = true) (r : List UInt8) : Lib.indexByte (x ++ 10 :: r) 10 = x.length := by
 induction x with
 | nil => rfl
 | cons b x ih =>
  simp [plainC] at h
  have hi : Lib.indexByte (x ++ 10 :: r) 10 = (x.length : Int) := ih (by simp [plainC]; exact h.2)
  show Lib.indexByte (b :: (x ++ 10 :: r)) 10 = _
  rw [Lib.indexByte, if_neg (by simpa using h.1), hi, if_neg (by simp)]
  simp
theorem lines_made (s : ByteArray) (w : World) : Calls Tryz.prog 34 #[.string s] w fun e w' => e = .returned (.func (.func 66) #[] #[.pointer (some ⟨w.heap.size, 0, none⟩)]) ∧ w' = w.alloc (.cells #[.string s] 9) := by
 go_enter Tryz.func34, Tryz.ntmps34
 go_wp2
 go_ret
 exact ⟨rfl, rfl⟩
set_option maxHeartbeats 4000000 in
theorem lines_iter (L : List (List UInt8)) (hL : ∀ x ∈ L, plainC 10 x = true) (hz : (linesT L).length ≤ 9223372036854775806) (n : Nat) (hn : 1 ≤ n) (Bu : Nat) (W : World) (hB : Blk W Bu 9 #[.string (strOf (linesT L))]) :
    SeqS n Tryz.prog 66 #[.pointer (some ⟨Bu, 0, none⟩)] encL L (fun b => b = Bu) W := by
 intro l J Jx hJ hY h0
 have HY : Hid (∀ (k : Nat) (x : List UInt8) (R : Nat → Prop) (W1 : World), L[k]? = some x → J k R W1 → YieldAt Fence.wide (n - 1) Tryz.prog l #[.string (strOf (x ++ [10]))] W1 fun e W' =>
     (e = .returned (.bool true) ∧ ∃ R', J (k + 1) R' W' ∧ OverS R (fun b => b = Bu) W.heap.size W1 W' ∧ ∀ b, R' b → R b ∨ W1.heap.size ≤ b) ∨ (e = .returned (.bool false) ∧ Jx (k + 1) W')) := hY
 have HJ := hide hJ
 have HLk : Hid (∀ (k : Nat) (x : List UInt8), L[k]? = some x → ∃ s : ByteArray, s = strOf (linesT (L.drop k)) ∧ (0 : Int) < (s.size : Int) ∧ (x.length : Int) + 1 ≤ (s.size : Int) ∧ (s.size : Int) ≤ 9223372036854775806 ∧ s.extract 0 (x.length + 1) = strOf (x ++ [10]) ∧ s.extract (x.length + 1) s.size = strOf (linesT (L.drop (k + 1))) ∧ ∀ W, Calls Tryz.prog 67 #[.string s, .int .u8 10] W (Sk W (.int .i64 (x.length : Int)))) := fun k x hx => by
  have e := lines_drop hx
  have hpl : plainC 10 x = true := hL x (List.mem_of_getElem? hx)
  have hlen : (linesT (L.drop k)).length ≤ (linesT L).length := by
   unfold linesT
   rw [List.map_drop]
   have h := congrArg List.length (List.take_append_drop k (L.map fun x => x ++ [10])).symm
   have h2 : ((L.map fun x => x ++ [10]).flatten).length = (((L.map fun x => x ++ [10]).take k).flatten).length + (((L.map fun x => x ++ [10]).drop k).flatten).length := by
    rw [← List.length_append, ← List.flatten_append, List.take_append_drop]
   omega
  have hs : (strOf (linesT (L.drop k))).size = x.length + 1 + (linesT (L.drop (k + 1))).length := by rw [strOf_size, e, List.length_append, List.length_append]; rfl
  have hs2 : (strOf (linesT (L.drop k))).size = (linesT (L.drop k)).length := strOf_size _
  have hx1 : (x ++ [10]).length = x.length + 1 := by simp
  refine ⟨_, rfl, by omega, by omega, by omega, ?_, ?_, fun W => ?_⟩
  ·rw [strOf_take, e, ← hx1, List.take_left]
  ·rw [strOf_drop _ _ _ (strOf_size _), e, ← hx1, List.drop_left]
  ·have h := indexByte_any (strOf (linesT (L.drop k))) 10 W
   have e2 : Lib.indexByte (strOf (linesT (L.drop k))).data.toList (Int.toNat 10).toUInt8 = (x.length : Int) := by
    rw [strOf_list, e, List.append_assoc]
    exact ten_at hpl _
   rw [e2] at h
   exact h
 have H0 := hide h0
 have HB : Hid (Blk W Bu 9 #[.string (strOf (linesT L))]) := hB
 have HBl := hide (hB.lt)
 clear hY hJ h0 hB hL hz
 refine callsIn_of_wp Tryz.func66 rfl trivial ?_ rfl
 simp only [Tryz.ntmps66, List.size_toArray, List.length_cons, List.length_nil, Nat.reduceAdd, Nat.reduceSub, Array.replicate_succ, Array.replicate_zero, List.push_toArray, List.append_toArray, List.nil_append, List.cons_append]
 gi_wp2_with fail
 gi_loopg [] (L.length + 1) (fun gk wr => ∃ (k : Nat) (R : Nat → Prop), k ≤ L.length ∧ gk + k = L.length + 1 ∧ (J k R wr ∧ ¬ R Bu) ∧ Blk wr Bu 9 #[.string (strOf (linesT (L.drop k)))])
 case atStart => exact ⟨0, _, Nat.zero_le _, rfl, ⟨H0.out, fun h => h⟩, HB.out⟩
 case round =>
  obtain ⟨k, R, hk, hg, ⟨hj, hr⟩, hb⟩ := hrel
  have HG := hide hg
  have HJk := hide hj
  have HR := hide hr
  have HBk : Hid (Blk wr Bu 9 #[.string (strOf (linesT (L.drop k)))]) := hb
  clear hg hj hr hb
  by_cases hlt : k < L.length
  ·obtain ⟨x, hx⟩ : ∃ x, L[k]? = some x := ⟨_, List.getElem?_eq_getElem hlt⟩
   have HX := hide hx
   obtain ⟨s, hs, s0, s1, s2, e1, e2, hI⟩ := HLk.out k x hx
   have HI := hide hI
   have HE : Hid (s.extract 0 (x.length + 1) = strOf (x ++ [10]) ∧ s.extract (x.length + 1) s.size = strOf (linesT (L.drop (k + 1)))) := ⟨e1, e2⟩
   rw [← hs] at HBk
   obtain ⟨j, hj⟩ := nm x.length
   rw [← hj] at s1 HI HE
   clear hs e1 e2 hI hx hj
   have c0 : wr.cell? ⟨Bu, 0, none⟩ = some (.string s) := HBk.out.cell 0
   have c1 : wr.drew.cell? ⟨Bu, 0, none⟩ = some (.string s) := c0
   have f1 : wr.drew.frozen? ⟨Bu, 0, none⟩ = false := HBk.out.frozen 0
   obtain ⟨W5, hW5⟩ := nm ((wr.drew.setCell ⟨Bu, 0, none⟩ (.string (s.extract (j + 1) s.size))))
   gi_wp2_with fail
   refine ⟨trivial, ?_⟩
   gi_at_call 67
   refine (callsIn_wide.2 (HI.out _)).mono ?_
   rintro e w8 ⟨rfl, rfl⟩
   have d0 : (0 : Int) ≤ (j : Int) + 1 := by omega
   have d1 : (0 : Int) ≤ (j : Int) := by omega
   gi_upto_region 4 with fail
   gi_cut [3] from 5 (fun line wc => line = .string (strOf (x ++ [10])) ∧ wc = W5)
   case first =>
    gi_region
    all_goals (try gi_wp2)
    all_goals gi_meet
    all_goals exact ⟨by rw [← HE.out.1], hW5.symm⟩
   case rest =>
   obtain ⟨rfl, rfl⟩ := hcut
   have hb5 : Blk wc Bu 9 #[.string (strOf (linesT (L.drop (k + 1))))] := by
    rw [hW5, ← HE.out.2]
    exact (HBk.out.drew).set 0 _
   have hk5 : KeepS R (fun b => b = Bu) W.heap.size wr wc := by
    rw [hW5]
    refine ⟨(Below.drew (Below.refl _ _)).setCell (Nat.zero_le _) _, fun b _ hb => Below.heap_setCell _ _ _ _ hb, fun b hb _ => Below.heap_setCell _ _ _ _ fun e => HR.out (by have e2 : b = Bu := e; rw [e2] at hb; exact hb)⟩
   obtain ⟨fn, tmps, assign, body, hy, hRn⟩ := HY.out k x R wc HX.out (HJ.out _ _ _ _ HJk.out hk5)
   have HB5 : Hid (Blk wc Bu 9 #[.string (strOf (linesT (L.drop (k + 1))))]) := hb5
   clear hW5 hb5 hk5 c0 c1 f1 d0 d1
   gi_wp2
   refine hRn.mono ?_
   rintro e W6 (⟨rfl, R', hJ6, hO6, hR6⟩ | ⟨rfl, hJx6⟩)
   ·have HJ6 := hide hJ6
    have HB6 : Hid (Blk W6 Bu 9 #[.string (strOf (linesT (L.drop (k + 1))))]) := by
     unfold Hid Blk; rw [hO6.same _ (Or.inr rfl) HB5.out.lt HR.out]; exact HB5.out
    have HR6 : Hid (¬ R' Bu) := fun h => by
     rcases hR6 _ h with h | h
     ·exact HR.out h
     ·have := HB5.out.lt; omega
    clear hJ6 hO6 hR6 hy hRn
    gi_wp2
    gi_roundg (L.length - k)
    case rel => exact ⟨k + 1, R', by omega, by omega, ⟨HJ6.out, HR6.out⟩, HB6.out⟩
    case measure => have := HG.out; omega
   ·gi_wp2
    exact bodyPost_ret (results_none rfl _ _ _) rfl ⟨⟨_, rfl⟩, .inr ⟨k, hlt, hJx6⟩⟩
  ·obtain rfl : k = L.length := by omega
   have e1 : strOf (linesT (L.drop L.length)) = ⟨#[]⟩ := by rw [List.drop_eq_nil_of_le (Nat.le_refl _)]; rfl
   rw [e1] at HBk
   have c0 : wr.cell? ⟨Bu, 0, none⟩ = some (.string ⟨#[]⟩) := HBk.out.cell 0
   gi_wp2
   go_end0
   exact ⟨⟨_, rfl⟩, .inl ⟨R, HJk.out⟩⟩
end Go.Proofs.YtjmeakkmfeoigaaGreatDoor
namespace Go.Proofs.YtjmeakkmfeoigaaGreatDoor
open Go.RowKit
def recB (q : At × Bool) : List UInt8 := (if q.2 = true then 43 else 45) :: q.1.text
def aloneP (q : At × Bool) : Fm := aloneF q.1 q.2
def endsF : Int → List (List UInt8) → List Int
 | _, [] => []
 | s, x :: L => (s + ((x.length + 1 : Nat) : Int)) :: endsF (s + ((x.length + 1 : Nat) : Int)) L
def wholeL : List (List UInt8) → Nat → Nat
 | [], _ => 0
 | x :: L, h => if x.length + 1 ≤ h then wholeL L (h - (x.length + 1)) + 1 else 0
theorem linesT_cons (x : List UInt8) (L : List (List UInt8)) : linesT (x :: L) = (x ++ [10]) ++ linesT L := rfl
theorem linesT_app (L M : List (List UInt8)) : linesT (L ++ M) = linesT L ++ linesT M := by unfold linesT; rw [List.map_append, List.flatten_append]
theorem linesT_one (x : List UInt8) : linesT [x] = x ++ [10] := by simp [linesT]
theorem ends_take : ∀ (L : List (List UInt8)) (s : Int) (k : Nat), (endsF s L).take k = endsF s (L.take k)
 | [], s, k => by simp [endsF]
 | x :: L, s, 0 => rfl
 | x :: L, s, k + 1 => by
  rw [endsF, List.take_succ_cons, List.take_succ_cons, endsF, ends_take L]
theorem ends_more : ∀ (L : List (List UInt8)) (s : Int) (x : List UInt8), endsF s (L ++ [x]) = endsF s L ++ [s + ((linesT L).length : Int) + ((x.length + 1 : Nat) : Int)]
 | [], s, x => by simp [endsF, linesT]
 | y :: L, s, x => by
  rw [List.cons_append, endsF, endsF, ends_more L, List.cons_append]
  congr 3
  rw [linesT_cons, List.length_append, List.length_append]
  simp
  omega
theorem ends_at : ∀ (L : List (List UInt8)) (s : Int) (k : Nat), k < L.length → (endsF s L).getD k 0 = s + ((linesT (L.take (k + 1))).length : Int)
 | [], s, k, h => by simp at h
 | x :: L, s, 0, h => by simp [endsF, linesT]
 | x :: L, s, k + 1, h => by
  rw [endsF, List.getD_cons_succ, ends_at L _ k (by simpa using h), List.take_succ_cons, linesT_cons, List.length_append, List.length_append]
  simp
  omega
theorem end_at {L : List (List UInt8)} {k : Nat} (hk : k ≤ L.length) : endAt (endsF 0 L) k = ((linesT (L.take k)).length : Int) := by
 unfold endAt
 by_cases h : k = 0
 ·subst h; simp [linesT]
 ·rw [if_neg h, ends_at L 0 (k - 1) (by omega), show k - 1 + 1 = k by omega]; omega
theorem ends_whole : ∀ (L : List (List UInt8)) (s : Int) (h : Nat), wholeN (endsF s L) (s + (h : Int)) = wholeL L h
 | [], s, h => rfl
 | x :: L, s, h => by
  unfold wholeN wholeL
  rw [endsF, List.takeWhile_cons]
  by_cases hx : x.length + 1 ≤ h
  ·rw [if_pos hx, decide_eq_true (by omega), if_pos rfl, List.length_cons]
   have := ends_whole L (s + ((x.length + 1 : Nat) : Int)) (h - (x.length + 1))
   unfold wholeN at this
   rw [← this]
   congr 3
   funext e
   congr 2
   omega
  ·rw [if_neg hx, decide_eq_false (by omega)]
   rfl
theorem wholeL_le : ∀ (L : List (List UInt8)) (h : Nat), wholeL L h ≤ L.length
 | [], h => Nat.le_refl _
 | x :: L, h => by
  unfold wholeL
  split
  ·have := wholeL_le L (h - (x.length + 1)); simp; omega
  ·omega
theorem plainC_take {c : UInt8} {l : List UInt8} (h : plainC c l = true) (k : Nat) : plainC c (l.take k) = true := by
 unfold plainC at h ⊢
 rw [List.all_eq_true] at h ⊢
 exact fun x hx => h x (List.mem_of_mem_take hx)
theorem cut_whole : ∀ (L : List (List UInt8)) (tail : List UInt8) (h : Nat), (∀ x ∈ L, plainC 10 x = true) → plainC 10 tail = true → ∃ r, (linesT L ++ tail).take h = linesT (L.take (wholeL L h)) ++ r ∧ plainC 10 r = true
 | [], tail, h, _, ht => ⟨tail.take h, by simp [linesT], plainC_take ht h⟩
 | x :: L, tail, h, hL, ht => by
  unfold wholeL
  by_cases hx : x.length + 1 ≤ h
  ·rw [if_pos hx, List.take_succ_cons, linesT_cons, linesT_cons]
   obtain ⟨r, h1, h2⟩ := cut_whole L tail (h - (x.length + 1)) (fun y hy => hL y (List.mem_cons_of_mem _ hy)) ht
   refine ⟨r, ?_, h2⟩
   have hl : (x ++ [10]).length = x.length + 1 := by simp
   rw [List.append_assoc, List.take_append, hl, h1, List.take_of_length_le (by rw [hl]; exact hx)]
   simp
  ·rw [if_neg hx]
   refine ⟨x.take h, ?_, plainC_take (hL x List.mem_cons_self) h⟩
   have hl : (x ++ [10]).length = x.length + 1 := by simp
   rw [linesT_cons, List.append_assoc, List.append_assoc, List.take_append_of_le_length (by omega)]
   simp [linesT]
theorem last_lines {L : List (List UInt8)} {r : List UInt8} (hr : plainC 10 r = true) : lastTen (linesT L ++ r) (linesT L ++ r).length + 1 = ((linesT L).length : Int) := by
 have h1 : lastTen (linesT L ++ r) (linesT L ++ r).length = lastTen (linesT L ++ r) (linesT L).length := by
  refine lastTen_plain (fun j h1 h2 => ?_) (by simp)
  rw [List.length_append] at h2
  rw [List.getD_eq_getElem?_getD, List.getElem?_append_right h1]
  have hj : j - (linesT L).length < r.length := by omega
  rw [List.getElem?_eq_getElem hj]
  unfold plainC at hr
  rw [List.all_eq_true] at hr
  simpa using hr _ (List.getElem_mem hj)
 rw [h1]
 rcases List.eq_nil_or_concat L with rfl | ⟨M, x, rfl⟩
 ·simp [linesT, lastTen]
 ·have e : (linesT (M ++ [x])).length = (linesT M ++ x).length + 1 := by rw [linesT_app, linesT_one]; simp; omega
  rw [List.concat_eq_append, e, lastTen, if_pos]
  ·omega
  ·rw [linesT_app, linesT_one, ← List.append_assoc, List.append_assoc (linesT M ++ x), List.getD_eq_getElem?_getD, List.getElem?_append_right (Nat.le_refl _)]
   simp
theorem rec_plain {q : At × Bool} (h : q.1.fault = 0) : plainC 10 (recB q) = true := by
 unfold recB
 refine plainC_cons ?_ (line_atom h)
 split <;> decide
theorem text_small {a : At} (h : a.fault = 0) : a.text.length ≤ 100 := by
 have := lines_len (ats := [a]) (fun b hb => by obtain rfl : b = a := by simpa using hb
                                                exact h)
 simp [linesOf] at this
 omega
theorem rec_small {q : At × Bool} (h : q.1.fault = 0) : (recB q).length ≤ 101 := by
 have := text_small h
 unfold recB
 rw [List.length_cons]; omega
theorem recs_small : ∀ {ps : List (At × Bool)}, (∀ q ∈ ps, q.1.fault = 0) → (linesT (ps.map recB)).length ≤ 102 * ps.length
 | [], _ => by simp [linesT]
 | q :: ps, h => by
  have h1 := rec_small (h q List.mem_cons_self)
  have h2 := recs_small (ps := ps) fun x hx => h x (List.mem_cons_of_mem _ hx)
  rw [List.map_cons, linesT_cons, List.length_append, List.length_append, List.length_cons]
  simp
  omega
structure KeptL (l : Lg) (ps : List (At × Bool)) (tail : List UInt8) : Prop where
 u : 0 ≤ l.u ∧ l.u ≤ 6
 six : ps.length ≤ 6
 right : ∀ q ∈ ps, q.1.fault = 0
 plain : plainC 10 tail = true
 small : tail.length ≤ 200
 go : l.stop = false → tail = []
 fs : l.fs = ps.map aloneP
 ends : l.ends = endsF 0 (ps.map recB)
 bytes : l.bytes = ((linesT (ps.map recB) ++ tail).length : Int)
 safe : 0 ≤ l.safe ∧ l.safe ≤ l.bytes
theorem KeptL.len {l : Lg} {ps : List (At × Bool)} {tail : List UInt8} (h : KeptL l ps tail) : (linesT (ps.map recB) ++ tail).length ≤ 1000 := by
 have h1 := recs_small h.right
 have h2 := h.six
 have h3 := h.small
 rw [List.length_append]; omega
theorem KeptL.lines {l : Lg} {ps : List (At × Bool)} {tail : List UInt8} (h : KeptL l ps tail) : ∀ x ∈ ps.map recB, plainC 10 x = true := fun x hx => by
 obtain ⟨q, hq, rfl⟩ := List.mem_map.1 hx
 exact rec_plain (h.right q hq)
theorem keptL_0 {u : Int} (hu : 0 ≤ u ∧ u ≤ 6) : KeptL (lg0 u) [] [] :=
 ⟨hu, by simp, fun q hq => (by cases hq), rfl, by simp, fun _ => rfl, rfl, rfl, rfl, ⟨Int.le_refl _, Int.le_refl _⟩⟩
theorem KeptL.high {l : Lg} {ps : List (At × Bool)} {tail : List UInt8} (h : KeptL l ps tail) (keep : Int) : 0 ≤ l.high keep ∧ l.high keep ≤ l.bytes := by
 have := h.safe
 unfold Lg.high
 split
 ·split <;> omega
 ·omega
theorem KeptL.crash {l : Lg} {ps : List (At × Bool)} {tail : List UInt8} (h : KeptL l ps tail) (keep : Int) (k : Nat) (hk : k = wholeL (ps.map recB) (l.high keep).toNat) :
    KeptL (l.crash keep) (ps.take k) [] ∧ (l.crash keep).safe = ((linesT ((ps.take k).map recB)).length : Int) := by
 have hh := h.high keep
 have e1 : wholeN l.ends (l.high keep) = k := by
  rw [h.ends, hk]
  have := ends_whole (ps.map recB) 0 (l.high keep).toNat
  rwa [Int.zero_add, Int.toNat_of_nonneg hh.1] at this
 have hkl : k ≤ (ps.map recB).length := by rw [hk]; exact wholeL_le _ _
 have e2 : endAt l.ends k = ((linesT ((ps.take k).map recB)).length : Int) := by rw [h.ends, end_at hkl, List.map_take]
 have hs : (l.crash keep).safe = ((linesT ((ps.take k).map recB)).length : Int) := by show endAt l.ends (wholeN l.ends (l.high keep)) = _; rw [e1, e2]
 have hb : (l.crash keep).bytes = ((linesT ((ps.take k).map recB)).length : Int) := hs
 refine ⟨⟨h.u, ?_, fun q hq => h.right q (List.mem_of_mem_take hq), rfl, by simp, fun _ => rfl, ?_, ?_, ?_, ?_⟩, hs⟩
 ·have := h.six; rw [List.length_take]; omega
 ·show l.fs.take (wholeN l.ends (l.high keep)) = _
  rw [e1, h.fs, List.map_take]
 ·show l.ends.take (wholeN l.ends (l.high keep)) = _
  rw [e1, h.ends, ends_take, List.map_take]
 ·rw [hb, List.append_nil]
 ·rw [hb, hs]; exact ⟨by omega, Int.le_refl _⟩
def LeftIs (z left : Int) : Prop := (z < 0 ∧ left < 0) ∨ (0 ≤ z ∧ left = failN z)
theorem LeftIs.zero {z left : Int} (h : LeftIs z left) : z = 0 ↔ left = 0 := by
 rcases h with ⟨h1, h2⟩ | ⟨h1, rfl⟩
 ·omega
 ·unfold failN
  rw [if_neg (by omega)]
  split
  ·omega
  ·split <;> omega
theorem LeftIs.less {z left : Int} (h : LeftIs z left) (h0 : 0 < z) : LeftIs (IntKind.i64.wrap (z - 1)) (lessN1 left) := by
 rcases h with ⟨h1, h2⟩ | ⟨h1, rfl⟩
 ·omega
 ·have hr : -9223372036854775808 ≤ IntKind.i64.wrap (z - 1) ∧ IntKind.i64.wrap (z - 1) ≤ 9223372036854775807 := by rw [IntKind.wrap_i64]; omega
  obtain ⟨m, hm⟩ := nm (IntKind.i64.wrap (z - 1))
  unfold failN
  rw [if_neg (by omega), if_neg (by omega)]
  rw [← hm] at hr ⊢
  by_cases hneg : m < 0
  ·rw [if_pos hneg]
   exact Or.inl ⟨hneg, by decide⟩
  ·rw [if_neg hneg]
   refine Or.inr ⟨by omega, ?_⟩
   unfold lessN1
   rw [if_neg (by omega), failN_small (by omega) (by omega)]
   omega
theorem LeftIs.never {z left : Int} (h : LeftIs z left) (h0 : z < 0) : LeftIs z (lessN1 left) := by
 rcases h with ⟨h1, h2⟩ | ⟨h1, _⟩
 ·refine Or.inl ⟨h1, ?_⟩
  unfold lessN1
  rw [if_pos h2]; exact h2
 ·omega
theorem LeftIs.fail (n : Int) : LeftIs n (failN n) := by
 by_cases h : n < 0
 ·exact Or.inl ⟨h, by unfold failN; rw [if_pos h]; decide⟩
 ·exact Or.inr ⟨by omega, rfl⟩
theorem KeptL.said {l : Lg} {ps : List (At × Bool)} (h : KeptL l ps []) (q : At × Bool) (hq : q.1.fault = 0) (h6 : ps.length < 6) (left : Int) (stop : Bool) :
    KeptL { l with fs := l.fs ++ [aloneP q], ends := l.ends ++ [l.bytes + ((recB q ++ [10]).length : Int)], bytes := l.bytes + ((recB q ++ [10]).length : Int), left := left, stop := stop } (ps ++ [q]) [] := by
 have hb := h.bytes
 rw [List.append_nil] at hb
 have hs := h.safe
 refine ⟨h.u, by rw [List.length_append]; simp; omega, fun x hx => ?_, rfl, by simp, fun _ => rfl, ?_, ?_, ?_, ?_⟩
 ·rcases List.mem_append.1 hx with hx | hx
  ·exact h.right x hx
  ·obtain rfl : x = q := by simpa using hx
   exact hq
 ·show l.fs ++ [aloneP q] = _
  rw [h.fs, List.map_append]; rfl
 ·show l.ends ++ [l.bytes + ((recB q ++ [10]).length : Int)] = _
  rw [h.ends, List.map_append, List.map_cons, List.map_nil, ends_more, hb]
  simp
 ·show l.bytes + ((recB q ++ [10]).length : Int) = _
  rw [hb, List.map_append, List.map_cons, List.map_nil, linesT_app, linesT_one, List.append_nil, List.length_append]
  simp
 ·show 0 ≤ l.safe ∧ l.safe ≤ l.bytes + ((recB q ++ [10]).length : Int)
  omega
theorem KeptL.half {l : Lg} {ps : List (At × Bool)} (h : KeptL l ps []) (q : At × Bool) (hq : q.1.fault = 0) (n : Nat) (hn : n ≤ (recB q).length) :
    KeptL { l with bytes := l.bytes + (n : Int), stop := true } ps ((recB q).take n) := by
 have hb := h.bytes
 rw [List.append_nil] at hb
 have hs := h.safe
 have h1 := rec_small hq
 refine ⟨h.u, h.six, h.right, plainC_take (rec_plain hq) n, by rw [List.length_take]; omega, fun h => (by cases h), h.fs, h.ends, ?_, ?_⟩
 ·show l.bytes + (n : Int) = _
  rw [hb, List.length_append, List.length_take, Nat.min_eq_left hn]
  simp
 ·show 0 ≤ l.safe ∧ l.safe ≤ l.bytes + (n : Int)
  omega
end Go.Proofs.YtjmeakkmfeoigaaGreatDoor