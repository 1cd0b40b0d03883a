/-
  NARROWER THAN 'FOR EVERY INPUT', by the rows' own cells (each row's printed sentence says how): RowsTell: laid · RowsSay: laid · RowsNot: laid · FitTells: laid · FitLeast: laid.
  DERIVED. THE GIVEN ROWS OF THIS SEAT. 5 by the template 'for every input the law returns true; each argument reads behind the call as it read before'; 0 by the template 'total and deterministic' (their statements: YtedgbohobgnedadDoorTotals.lean).
  GIVEN WITH THE SEED: the statements are not yours to turn. If you find one false, say at which input.
  Laid BY PROGRAM, IN A SANDBOX (cutbox-rows.mjs): the forced cells as the released guide's own fill.sh prints them over the translation 29e4bebb4a7b4204… (all of the seat's roots in one cut). By AI agents, Wed Nov 11 2026. No macro, syntax, notation, axiom, sorry.
-/
import Derived.Test.YtedgbohobgnedadDoorChecked
import GoSem.Claim
import GoSem.ClaimJoined
import GoSem.ClaimMapViews
import Derived.JoinedTies
import Derived.KernelRfl
namespace Go.Proofs.YtedgbohobgnedadDoor
/- THE CELL 'sum', in the pinned program and in every row, IS THE sha256 OF THE DUMP (.gsa) THAT YtedgbohobgnedadDoorProg.lean LOADS. Nothing in Lean hashes anything: it is a label: what it is worth is what the hold of that sum in a sandbox is worth. -/
noncomputable def Tryd.pinned : Pinned := { name := "ytedgbohobgnedaddoor", sum := "29e4bebb4a7b42044c262a9c8aaa1107ced2a38548ef4828143daba84af481e8", checked := Tryd.checked }
namespace Rows
def none {H : Type} : Left H := { results := [], args := [] }

/- WHAT THE LISTED PACKAGE-LEVEL VARIABLES READ AS WHEN THE CALL BEGINS. Each datum BY PROGRAM (the guide's laid-datum.mjs) off the statement by which the dump's own 'gosem.cut.vars' lays the variable. In a bare row this is a premise. The card (YtedgbohobgnedadDoorCards.lean) ties it to the program's text. -/
def laid_errors_errorType {H : Type} : DataW H := .iface "internal/reflectlite.rtype" (.agg [.ptr (.lit (.string [101, 114, 114, 111, 114]))])
def laid_vennhouse_atom_kinds {H : Type} : DataW H := .agg [.agg [.lit (.string []), .lit (.bool false), .lit (.bool false)], .agg [.lit (.string [115, 117, 98]), .lit (.bool true), .lit (.bool false)], .agg [.lit (.string [115, 97, 109, 101]), .lit (.bool true), .lit (.bool false)], .agg [.lit (.string [108, 101, 97, 115, 116]), .lit (.bool false), .lit (.bool true)], .agg [.lit (.string [109, 111, 115, 116]), .lit (.bool false), .lit (.bool true)], .agg [.lit (.string [110, 111, 109, 111, 114, 101]), .lit (.bool true), .lit (.bool true)]]
def laid_vennhouse_rows_kinds {H : Type} : DataW H := .agg [.agg [.agg [.lit (.int .i64 0), .lit (.int .i64 0)], .agg [.lit (.int .i64 0), .lit (.int .i64 0)]], .agg [.agg [.lit (.int .i64 0), .lit (.int .i64 0)], .agg [.lit (.int .i64 1), .lit (.int .i64 0)]], .agg [.agg [.lit (.int .i64 0), .lit (.int .i64 1)], .agg [.lit (.int .i64 1), .lit (.int .i64 0)]], .agg [.agg [.lit (.int .i64 0), .lit (.int .i64 0)], .agg [.lit (.int .i64 (-1)), .lit (.int .i64 0)]], .agg [.agg [.lit (.int .i64 0), .lit (.int .i64 0)], .agg [.lit (.int .i64 1), .lit (.int .i64 0)]], .agg [.agg [.lit (.int .i64 0), .lit (.int .i64 (-1))], .agg [.lit (.int .i64 1), .lit (.int .i64 0)]]]

/-- 'vennlaw1.RowsTell': WHATEVER THE INPUT: true; the input reads as it did. -/
def rowsTellSpec : ChangeSpec := { name := "rowsTell", fn := fun _ => fun
  | [d1, d2, d3, d4] => { results := [.lit (.bool true)], args := [d1, d2, d3, d4] }
  | _ => none }
def rowsTellRow : OpenClaim := { program := "ytedgbohobgnedaddoor", sum := "29e4bebb4a7b42044c262a9c8aaa1107ced2a38548ef4828143daba84af481e8", func := "vennhouse/vennlaw1.RowsTell", spec := "rowsTell", inPlace := ["internal/reflectlite.ValueOf", "(internal/reflectlite.Value).Type", "(internal/reflectlite.Value).IsNil", "internal/reflectlite.TypeOf", "(internal/reflectlite.Value).Elem", "(internal/reflectlite.Value).Set"], unfollowed := true, recurses := true, named := ["vennhouse/rows.kinds", "vennhouse/atom.kinds", "errors.errorType"], apart := false, laid := [("errors.errorType", laid_errors_errorType), ("vennhouse/atom.kinds", laid_vennhouse_atom_kinds), ("vennhouse/rows.kinds", laid_vennhouse_rows_kinds)] }
def RowsTellSaid : Prop := rowsTellRow.holds Tryd.pinned (OpenSpec.ofChange rowsTellSpec)

/-- ITS FALSE NEIGHBOUR: 'it returns false'. Refute it at one input. -/
def rowsTellWrong : ChangeSpec := { name := "rowsTell", fn := fun _ => fun
  | [d1, d2, d3, d4] => { results := [.lit (.bool false)], args := [d1, d2, d3, d4] }
  | _ => none }
def RowsTellWrongFalsely : Prop := rowsTellRow.holds Tryd.pinned (OpenSpec.ofChange rowsTellWrong)

/-- 'vennlaw1.RowsSay': WHATEVER THE INPUT: true; the input reads as it did. -/
def rowsSaySpec : ChangeSpec := { name := "rowsSay", fn := fun _ => fun
  | [d1, d2] => { results := [.lit (.bool true)], args := [d1, d2] }
  | _ => none }
def rowsSayRow : OpenClaim := { program := "ytedgbohobgnedaddoor", sum := "29e4bebb4a7b42044c262a9c8aaa1107ced2a38548ef4828143daba84af481e8", func := "vennhouse/vennlaw1.RowsSay", spec := "rowsSay", unfollowed := true, recurses := true, named := ["vennhouse/rows.kinds", "vennhouse/atom.kinds"], apart := false, laid := [("vennhouse/atom.kinds", laid_vennhouse_atom_kinds), ("vennhouse/rows.kinds", laid_vennhouse_rows_kinds)] }
def RowsSaySaid : Prop := rowsSayRow.holds Tryd.pinned (OpenSpec.ofChange rowsSaySpec)

/-- ITS FALSE NEIGHBOUR: 'it returns false'. Refute it at one input. -/
def rowsSayWrong : ChangeSpec := { name := "rowsSay", fn := fun _ => fun
  | [d1, d2] => { results := [.lit (.bool false)], args := [d1, d2] }
  | _ => none }
def RowsSayWrongFalsely : Prop := rowsSayRow.holds Tryd.pinned (OpenSpec.ofChange rowsSayWrong)

/-- 'vennlaw4.RowsNot': WHATEVER THE INPUT: true; the input reads as it did. -/
def rowsNotSpec : ChangeSpec := { name := "rowsNot", fn := fun _ => fun
  | [d] => { results := [.lit (.bool true)], args := [d] }
  | _ => none }
def rowsNotRow : OpenClaim := { program := "ytedgbohobgnedaddoor", sum := "29e4bebb4a7b42044c262a9c8aaa1107ced2a38548ef4828143daba84af481e8", func := "vennhouse/vennlaw4.RowsNot", spec := "rowsNot", unfollowed := true, recurses := true, named := ["vennhouse/rows.kinds", "vennhouse/atom.kinds"], apart := false, laid := [("vennhouse/atom.kinds", laid_vennhouse_atom_kinds), ("vennhouse/rows.kinds", laid_vennhouse_rows_kinds)] }
def RowsNotSaid : Prop := rowsNotRow.holds Tryd.pinned (OpenSpec.ofChange rowsNotSpec)

/-- ITS FALSE NEIGHBOUR: 'it returns false'. Refute it at one input. -/
def rowsNotWrong : ChangeSpec := { name := "rowsNot", fn := fun _ => fun
  | [d] => { results := [.lit (.bool false)], args := [d] }
  | _ => none }
def RowsNotWrongFalsely : Prop := rowsNotRow.holds Tryd.pinned (OpenSpec.ofChange rowsNotWrong)

/-- 'vennlaw1.FitTells': WHATEVER THE INPUT: true; the input reads as it did. -/
def fitTellsSpec : ChangeSpec := { name := "fitTells", fn := fun _ => fun
  | [d1, d2, d3] => { results := [.lit (.bool true)], args := [d1, d2, d3] }
  | _ => none }
def fitTellsRow : OpenClaim := { program := "ytedgbohobgnedaddoor", sum := "29e4bebb4a7b42044c262a9c8aaa1107ced2a38548ef4828143daba84af481e8", func := "vennhouse/vennlaw1.FitTells", spec := "fitTells", inPlace := ["internal/reflectlite.ValueOf", "(internal/reflectlite.Value).Type", "(internal/reflectlite.Value).IsNil", "internal/reflectlite.TypeOf", "(internal/reflectlite.Value).Elem", "(internal/reflectlite.Value).Set"], unfollowed := true, recurses := true, named := ["errors.errorType"], apart := false, laid := [("errors.errorType", laid_errors_errorType)] }
def FitTellsSaid : Prop := fitTellsRow.holds Tryd.pinned (OpenSpec.ofChange fitTellsSpec)

/-- ITS FALSE NEIGHBOUR: 'it returns false'. Refute it at one input. -/
def fitTellsWrong : ChangeSpec := { name := "fitTells", fn := fun _ => fun
  | [d1, d2, d3] => { results := [.lit (.bool false)], args := [d1, d2, d3] }
  | _ => none }
def FitTellsWrongFalsely : Prop := fitTellsRow.holds Tryd.pinned (OpenSpec.ofChange fitTellsWrong)

/-- 'vennlaw1.FitLeast': WHATEVER THE INPUT: true; the input reads as it did. -/
def fitLeastSpec : ChangeSpec := { name := "fitLeast", fn := fun _ => fun
  | [d1, d2, d3, d4] => { results := [.lit (.bool true)], args := [d1, d2, d3, d4] }
  | _ => none }
def fitLeastRow : OpenClaim := { program := "ytedgbohobgnedaddoor", sum := "29e4bebb4a7b42044c262a9c8aaa1107ced2a38548ef4828143daba84af481e8", func := "vennhouse/vennlaw1.FitLeast", spec := "fitLeast", inPlace := ["internal/reflectlite.ValueOf", "(internal/reflectlite.Value).Type", "(internal/reflectlite.Value).IsNil", "internal/reflectlite.TypeOf", "(internal/reflectlite.Value).Elem", "(internal/reflectlite.Value).Set"], unfollowed := true, recurses := true, named := ["errors.errorType"], apart := false, laid := [("errors.errorType", laid_errors_errorType)] }
def FitLeastSaid : Prop := fitLeastRow.holds Tryd.pinned (OpenSpec.ofChange fitLeastSpec)

/-- ITS FALSE NEIGHBOUR: 'it returns false'. Refute it at one input. -/
def fitLeastWrong : ChangeSpec := { name := "fitLeast", fn := fun _ => fun
  | [d1, d2, d3, d4] => { results := [.lit (.bool false)], args := [d1, d2, d3, d4] }
  | _ => none }
def FitLeastWrongFalsely : Prop := fitLeastRow.holds Tryd.pinned (OpenSpec.ofChange fitLeastWrong)

/- THE SECOND FORM. 'bulk': how many values and letters a reading holds, each counted each time it is reached (what is shared counts as often as it is met; a slice's spare places count too). A statement '..UptoSaid' is the law's where the arguments, and the package variables that the reading takes, are together of bulk at most 1048576: NARROWER than '..Said'. Prove '..Said' where nothing that the law and all that it calls make is longer than what came in: it says more and counts as full. Else prove '..UptoSaid'. A law counts once. -/
mutual
def uptoBulk {H : Type} : DataW H → Nat
  | .lit (.string bytes) => bytes.length + 1
  | .lit _ => 1
  | .nil => 1
  | .ptr d => uptoBulk d + 1
  | .slice elems spare => uptoBulkAll elems + uptoBulkAll spare + 1
  | .agg parts => uptoBulkAll parts + 1
  | .iface _ d => uptoBulk d + 1
  | .map entries => uptoBulkEntries entries + 1
  | .held _ => 1
def uptoBulkAll {H : Type} : List (DataW H) → Nat
  | [] => 0
  | d :: r => uptoBulk d + uptoBulkAll r
def uptoBulkEntries {H : Type} : List (Lit × DataW H) → Nat
  | [] => 0
  | x :: r => uptoBulkEntry x + uptoBulkEntries r
def uptoBulkEntry {H : Type} : Lit × DataW H → Nat
  | (.string bytes, d) => bytes.length + uptoBulk d + 1
  | (_, d) => uptoBulk d + 1
 end
def uptoSmall : (H : Type) → List (DataW H) → Bool := fun _ ds => decide (uptoBulkAll ds ≤ 1048576)
def OpenSpec.upto (s : _root_.Go.ChangeSpec) : _root_.Go.OpenSpec := { _root_.Go.OpenSpec.ofChange s with cond := some uptoSmall }

/-- 'vennlaw1.RowsTell', WHERE WHAT IT READS IS OF BULK AT MOST 1048576: true; the input reads as it did. -/
def rowsTellUptoRow : OpenClaim := { program := "ytedgbohobgnedaddoor", sum := "29e4bebb4a7b42044c262a9c8aaa1107ced2a38548ef4828143daba84af481e8", func := "vennhouse/vennlaw1.RowsTell", spec := "rowsTell", inPlace := ["internal/reflectlite.ValueOf", "(internal/reflectlite.Value).Type", "(internal/reflectlite.Value).IsNil", "internal/reflectlite.TypeOf", "(internal/reflectlite.Value).Elem", "(internal/reflectlite.Value).Set"], unfollowed := true, recurses := true, named := ["vennhouse/rows.kinds", "vennhouse/atom.kinds", "errors.errorType"], apart := false, laid := [("errors.errorType", laid_errors_errorType), ("vennhouse/atom.kinds", laid_vennhouse_atom_kinds), ("vennhouse/rows.kinds", laid_vennhouse_rows_kinds)], narrowed := true }
def RowsTellUptoSaid : Prop := rowsTellUptoRow.holds Tryd.pinned (OpenSpec.upto rowsTellSpec)

/-- 'vennlaw1.RowsSay', WHERE WHAT IT READS IS OF BULK AT MOST 1048576: true; the input reads as it did. -/
def rowsSayUptoRow : OpenClaim := { program := "ytedgbohobgnedaddoor", sum := "29e4bebb4a7b42044c262a9c8aaa1107ced2a38548ef4828143daba84af481e8", func := "vennhouse/vennlaw1.RowsSay", spec := "rowsSay", unfollowed := true, recurses := true, named := ["vennhouse/rows.kinds", "vennhouse/atom.kinds"], apart := false, laid := [("vennhouse/atom.kinds", laid_vennhouse_atom_kinds), ("vennhouse/rows.kinds", laid_vennhouse_rows_kinds)], narrowed := true }
def RowsSayUptoSaid : Prop := rowsSayUptoRow.holds Tryd.pinned (OpenSpec.upto rowsSaySpec)

/-- 'vennlaw4.RowsNot', WHERE WHAT IT READS IS OF BULK AT MOST 1048576: true; the input reads as it did. -/
def rowsNotUptoRow : OpenClaim := { program := "ytedgbohobgnedaddoor", sum := "29e4bebb4a7b42044c262a9c8aaa1107ced2a38548ef4828143daba84af481e8", func := "vennhouse/vennlaw4.RowsNot", spec := "rowsNot", unfollowed := true, recurses := true, named := ["vennhouse/rows.kinds", "vennhouse/atom.kinds"], apart := false, laid := [("vennhouse/atom.kinds", laid_vennhouse_atom_kinds), ("vennhouse/rows.kinds", laid_vennhouse_rows_kinds)], narrowed := true }
def RowsNotUptoSaid : Prop := rowsNotUptoRow.holds Tryd.pinned (OpenSpec.upto rowsNotSpec)

/-- 'vennlaw1.FitTells', WHERE WHAT IT READS IS OF BULK AT MOST 1048576: true; the input reads as it did. -/
def fitTellsUptoRow : OpenClaim := { program := "ytedgbohobgnedaddoor", sum := "29e4bebb4a7b42044c262a9c8aaa1107ced2a38548ef4828143daba84af481e8", func := "vennhouse/vennlaw1.FitTells", spec := "fitTells", inPlace := ["internal/reflectlite.ValueOf", "(internal/reflectlite.Value).Type", "(internal/reflectlite.Value).IsNil", "internal/reflectlite.TypeOf", "(internal/reflectlite.Value).Elem", "(internal/reflectlite.Value).Set"], unfollowed := true, recurses := true, named := ["errors.errorType"], apart := false, laid := [("errors.errorType", laid_errors_errorType)], narrowed := true }
def FitTellsUptoSaid : Prop := fitTellsUptoRow.holds Tryd.pinned (OpenSpec.upto fitTellsSpec)

/-- 'vennlaw1.FitLeast', WHERE WHAT IT READS IS OF BULK AT MOST 1048576: true; the input reads as it did. -/
def fitLeastUptoRow : OpenClaim := { program := "ytedgbohobgnedaddoor", sum := "29e4bebb4a7b42044c262a9c8aaa1107ced2a38548ef4828143daba84af481e8", func := "vennhouse/vennlaw1.FitLeast", spec := "fitLeast", inPlace := ["internal/reflectlite.ValueOf", "(internal/reflectlite.Value).Type", "(internal/reflectlite.Value).IsNil", "internal/reflectlite.TypeOf", "(internal/reflectlite.Value).Elem", "(internal/reflectlite.Value).Set"], unfollowed := true, recurses := true, named := ["errors.errorType"], apart := false, laid := [("errors.errorType", laid_errors_errorType)], narrowed := true }
def FitLeastUptoSaid : Prop := fitLeastUptoRow.holds Tryd.pinned (OpenSpec.upto fitLeastSpec)

end Rows
end Go.Proofs.YtedgbohobgnedadDoor
