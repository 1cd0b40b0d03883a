/-
  Plain facts on atoms as texts (chapter 3): the word of a kind, the text of an atom, and the atom that a text is. No program is read here.
-/
import Derived.Test.YtenmheenieifpabGreatDoorAtomSplit
namespace Go.Proofs.YtenmheenieifpabGreatDoor
open Go.RowKit
set_option maxRecDepth 100000

/-- the word of a kind. -/
def kindWord (k : Int) : List UInt8 := if k = 1 then [115, 117, 98] else if k = 2 then [115, 97, 109, 101] else if k = 3 then [108, 101, 97, 115, 116] else if k = 4 then [109, 111, 115, 116] else [110, 111, 109, 111, 114, 101]
/-- the kind of a word; 0: none. -/
def kindOfN (l : List UInt8) : Int := if l = [115, 117, 98] then 1 else if l = [115, 97, 109, 101] then 2 else if l = [108, 101, 97, 115, 116] then 3 else if l = [109, 111, 115, 116] then 4 else if l = [110, 111, 109, 111, 114, 101] then 5 else 0
/-- how many words an atom of a kind has. -/
def manyN (k : Int) : Nat := if k = 5 then 4 else 3
/-- the text of an atom. -/
def atomText (k : Int) (s t : List Int) (n : Int) : List UInt8 := (kindWord k ++ (32 :: textN s)) ++ ((if secondB k = true then 32 :: textN t else []) ++ (if numberB k = true then 32 :: numText n else []))

/-- the kind that words begin with, where they are as many. -/
def wordsKind (ws : List (List UInt8)) : Int := if ws.length = manyN (kindOfN (ws.getD 0 [])) then kindOfN (ws.getD 0 []) else 0
/-- a text of a part is none. -/
def partsBad (k : Int) (ws : List (List UInt8)) : Bool := !lettersB (ws.getD 1 []) || (secondB k && !lettersB (ws.getD 2 [])) || (numberB k && (numOf (ws.getD (ws.length - 1) [])).isNone)
def wordsS (ws : List (List UInt8)) : List Int := readN (ws.getD 1 [])
def wordsT (k : Int) (ws : List (List UInt8)) : List Int := if secondB k = true then readN (ws.getD 2 []) else []
def wordsN (k : Int) (ws : List (List UInt8)) : Int := if numberB k = true then (numOf (ws.getD (ws.length - 1) [])).getD 0 else 0
/-- what is wrong with words as an atom. -/
def wordsFault (ws : List (List UInt8)) : Int :=
  if wordsKind ws = 0 then 2 else if partsBad (wordsKind ws) ws = true then 2 else atomFault (wordsKind ws) (wordsS ws) (wordsT (wordsKind ws) ws) (wordsN (wordsKind ws) ws)
end Go.Proofs.YtenmheenieifpabGreatDoor
