/-
  NARROWER THAN 'FOR EVERY INPUT', by the rows' own cells (each row's printed sentence says how): FormTwice: laid · CubesSay: laid · CubesOne: laid · FieldsTell: laid · FieldsAll: laid.
  DERIVED. THE GIVEN ROWS OF THIS SEAT. 5 by the template 'for every input the law returns true; each argument reads behind the call as it read before'; 0 by the template 'total and deterministic' (their statements: YtenmheenieifpacDoorTotals.lean).
  GIVEN WITH THE SEED: the statements are not yours to turn. If you find one false, say at which input.
  Laid BY PROGRAM, IN A SANDBOX (cutbox-rows.mjs): the forced cells as the released guide's own fill.sh prints them over the translation e8c861d15d891fcc… (all of the seat's roots in one cut). By AI agents, Wed Nov 11 2026. No macro, syntax, notation, axiom, sorry.
-/
import Derived.Test.YtenmheenieifpacDoorChecked
import GoSem.Claim
import GoSem.ClaimJoined
import GoSem.ClaimMapViews
import Derived.JoinedTies
import Derived.KernelRfl
namespace Go.Proofs.YtenmheenieifpacDoor
/- THE CELL 'sum', in the pinned program and in every row, IS THE sha256 OF THE DUMP (.gsa) THAT YtenmheenieifpacDoorProg.lean LOADS. Nothing in Lean hashes anything: it is a label: what it is worth is what the hold of that sum in a sandbox is worth. -/
noncomputable def Tryd.pinned : Pinned := { name := "ytenmheenieifpacdoor", sum := "e8c861d15d891fcce6dfd39a7a7ad67dca1c3c8b8d0d3572f2ec763a6649c83d", checked := Tryd.checked }
namespace Rows
def none {H : Type} : Left H := { results := [], args := [] }

/- WHAT THE LISTED PACKAGE-LEVEL VARIABLES READ AS WHEN THE CALL BEGINS. Each datum BY PROGRAM (the guide's laid-datum.mjs) off the statement by which the dump's own 'gosem.cut.vars' lays the variable. In a bare row this is a premise. The card (YtenmheenieifpacDoorCards.lean) ties it to the program's text. -/
def laid_errors_errorType {H : Type} : DataW H := .iface "internal/reflectlite.rtype" (.agg [.ptr (.lit (.string [101, 114, 114, 111, 114]))])
def laid_vennhouse_atom_kinds {H : Type} : DataW H := .agg [.agg [.lit (.string []), .lit (.bool false), .lit (.bool false)], .agg [.lit (.string [115, 117, 98]), .lit (.bool true), .lit (.bool false)], .agg [.lit (.string [115, 97, 109, 101]), .lit (.bool true), .lit (.bool false)], .agg [.lit (.string [108, 101, 97, 115, 116]), .lit (.bool false), .lit (.bool true)], .agg [.lit (.string [109, 111, 115, 116]), .lit (.bool false), .lit (.bool true)], .agg [.lit (.string [110, 111, 109, 111, 114, 101]), .lit (.bool true), .lit (.bool true)]]

/-- 'vennlaw4.FormTwice': WHATEVER THE INPUT: true; the input reads as it did. -/
def formTwiceSpec : ChangeSpec := { name := "formTwice", fn := fun _ => fun
  | [d1, d2] => { results := [.lit (.bool true)], args := [d1, d2] }
  | _ => none }
def formTwiceRow : OpenClaim := { program := "ytenmheenieifpacdoor", sum := "e8c861d15d891fcce6dfd39a7a7ad67dca1c3c8b8d0d3572f2ec763a6649c83d", func := "vennhouse/vennlaw4.FormTwice", spec := "formTwice", inPlace := ["internal/reflectlite.ValueOf", "(internal/reflectlite.Value).Type", "(internal/reflectlite.Value).IsNil", "internal/reflectlite.TypeOf", "(internal/reflectlite.Value).Elem", "(internal/reflectlite.Value).Set"], unfollowed := true, recurses := true, named := ["vennhouse/atom.kinds", "errors.errorType"], apart := false, laid := [("errors.errorType", laid_errors_errorType), ("vennhouse/atom.kinds", laid_vennhouse_atom_kinds)] }
def FormTwiceSaid : Prop := formTwiceRow.holds Tryd.pinned (OpenSpec.ofChange formTwiceSpec)

/-- ITS FALSE NEIGHBOUR: 'it returns false'. Refute it at one input. -/
def formTwiceWrong : ChangeSpec := { name := "formTwice", fn := fun _ => fun
  | [d1, d2] => { results := [.lit (.bool false)], args := [d1, d2] }
  | _ => none }
def FormTwiceWrongFalsely : Prop := formTwiceRow.holds Tryd.pinned (OpenSpec.ofChange formTwiceWrong)

/-- 'vennlaw1.CubesSay': WHATEVER THE INPUT: true; the input reads as it did. -/
def cubesSaySpec : ChangeSpec := { name := "cubesSay", fn := fun _ => fun
  | [d1, d2] => { results := [.lit (.bool true)], args := [d1, d2] }
  | _ => none }
def cubesSayRow : OpenClaim := { program := "ytenmheenieifpacdoor", sum := "e8c861d15d891fcce6dfd39a7a7ad67dca1c3c8b8d0d3572f2ec763a6649c83d", func := "vennhouse/vennlaw1.CubesSay", spec := "cubesSay", unfollowed := true, recurses := true, named := ["vennhouse/atom.kinds"], apart := false, laid := [("vennhouse/atom.kinds", laid_vennhouse_atom_kinds)] }
def CubesSaySaid : Prop := cubesSayRow.holds Tryd.pinned (OpenSpec.ofChange cubesSaySpec)

/-- ITS FALSE NEIGHBOUR: 'it returns false'. Refute it at one input. -/
def cubesSayWrong : ChangeSpec := { name := "cubesSay", fn := fun _ => fun
  | [d1, d2] => { results := [.lit (.bool false)], args := [d1, d2] }
  | _ => none }
def CubesSayWrongFalsely : Prop := cubesSayRow.holds Tryd.pinned (OpenSpec.ofChange cubesSayWrong)

/-- 'vennlaw4.CubesOne': WHATEVER THE INPUT: true; the input reads as it did. -/
def cubesOneSpec : ChangeSpec := { name := "cubesOne", fn := fun _ => fun
  | [d] => { results := [.lit (.bool true)], args := [d] }
  | _ => none }
def cubesOneRow : OpenClaim := { program := "ytenmheenieifpacdoor", sum := "e8c861d15d891fcce6dfd39a7a7ad67dca1c3c8b8d0d3572f2ec763a6649c83d", func := "vennhouse/vennlaw4.CubesOne", spec := "cubesOne", unfollowed := true, recurses := true, named := ["vennhouse/atom.kinds"], apart := false, laid := [("vennhouse/atom.kinds", laid_vennhouse_atom_kinds)] }
def CubesOneSaid : Prop := cubesOneRow.holds Tryd.pinned (OpenSpec.ofChange cubesOneSpec)

/-- ITS FALSE NEIGHBOUR: 'it returns false'. Refute it at one input. -/
def cubesOneWrong : ChangeSpec := { name := "cubesOne", fn := fun _ => fun
  | [d] => { results := [.lit (.bool false)], args := [d] }
  | _ => none }
def CubesOneWrongFalsely : Prop := cubesOneRow.holds Tryd.pinned (OpenSpec.ofChange cubesOneWrong)

/-- 'vennlaw1.FieldsTell': WHATEVER THE INPUT: true; the input reads as it did. -/
def fieldsTellSpec : ChangeSpec := { name := "fieldsTell", fn := fun _ => fun
  | [d1, d2, d3] => { results := [.lit (.bool true)], args := [d1, d2, d3] }
  | _ => none }
def fieldsTellRow : OpenClaim := { program := "ytenmheenieifpacdoor", sum := "e8c861d15d891fcce6dfd39a7a7ad67dca1c3c8b8d0d3572f2ec763a6649c83d", func := "vennhouse/vennlaw1.FieldsTell", spec := "fieldsTell", inPlace := ["internal/reflectlite.ValueOf", "(internal/reflectlite.Value).Type", "(internal/reflectlite.Value).IsNil", "internal/reflectlite.TypeOf", "(internal/reflectlite.Value).Elem", "(internal/reflectlite.Value).Set"], unfollowed := true, recurses := true, named := ["errors.errorType"], apart := false, laid := [("errors.errorType", laid_errors_errorType)] }
def FieldsTellSaid : Prop := fieldsTellRow.holds Tryd.pinned (OpenSpec.ofChange fieldsTellSpec)

/-- ITS FALSE NEIGHBOUR: 'it returns false'. Refute it at one input. -/
def fieldsTellWrong : ChangeSpec := { name := "fieldsTell", fn := fun _ => fun
  | [d1, d2, d3] => { results := [.lit (.bool false)], args := [d1, d2, d3] }
  | _ => none }
def FieldsTellWrongFalsely : Prop := fieldsTellRow.holds Tryd.pinned (OpenSpec.ofChange fieldsTellWrong)

/-- 'vennlaw1.FieldsAll': WHATEVER THE INPUT: true; the input reads as it did. -/
def fieldsAllSpec : ChangeSpec := { name := "fieldsAll", fn := fun _ => fun
  | [d1, d2, d3, d4] => { results := [.lit (.bool true)], args := [d1, d2, d3, d4] }
  | _ => none }
def fieldsAllRow : OpenClaim := { program := "ytenmheenieifpacdoor", sum := "e8c861d15d891fcce6dfd39a7a7ad67dca1c3c8b8d0d3572f2ec763a6649c83d", func := "vennhouse/vennlaw1.FieldsAll", spec := "fieldsAll", unfollowed := true, recurses := true, named := ["vennhouse/atom.kinds"], apart := false, laid := [("vennhouse/atom.kinds", laid_vennhouse_atom_kinds)] }
def FieldsAllSaid : Prop := fieldsAllRow.holds Tryd.pinned (OpenSpec.ofChange fieldsAllSpec)

/-- ITS FALSE NEIGHBOUR: 'it returns false'. Refute it at one input. -/
def fieldsAllWrong : ChangeSpec := { name := "fieldsAll", fn := fun _ => fun
  | [d1, d2, d3, d4] => { results := [.lit (.bool false)], args := [d1, d2, d3, d4] }
  | _ => none }
def FieldsAllWrongFalsely : Prop := fieldsAllRow.holds Tryd.pinned (OpenSpec.ofChange fieldsAllWrong)

/- THE SECOND FORM. 'bulk': how many values and letters a reading holds, each counted each time it is reached (what is shared counts as often as it is met; a slice's spare places count too). A statement '..UptoSaid' is the law's where the arguments, and the package variables that the reading takes, are together of bulk at most 1048576: NARROWER than '..Said'. Prove '..Said' where nothing that the law and all that it calls make is longer than what came in: it says more and counts as full. Else prove '..UptoSaid'. A law counts once. -/
mutual
def uptoBulk {H : Type} : DataW H → Nat
  | .lit (.string bytes) => bytes.length + 1
  | .lit _ => 1
  | .nil => 1
  | .ptr d => uptoBulk d + 1
  | .slice elems spare => uptoBulkAll elems + uptoBulkAll spare + 1
  | .agg parts => uptoBulkAll parts + 1
  | .iface _ d => uptoBulk d + 1
  | .map entries => uptoBulkEntries entries + 1
  | .held _ => 1
def uptoBulkAll {H : Type} : List (DataW H) → Nat
  | [] => 0
  | d :: r => uptoBulk d + uptoBulkAll r
def uptoBulkEntries {H : Type} : List (Lit × DataW H) → Nat
  | [] => 0
  | x :: r => uptoBulkEntry x + uptoBulkEntries r
def uptoBulkEntry {H : Type} : Lit × DataW H → Nat
  | (.string bytes, d) => bytes.length + uptoBulk d + 1
  | (_, d) => uptoBulk d + 1
 end
def uptoSmall : (H : Type) → List (DataW H) → Bool := fun _ ds => decide (uptoBulkAll ds ≤ 1048576)
def OpenSpec.upto (s : _root_.Go.ChangeSpec) : _root_.Go.OpenSpec := { _root_.Go.OpenSpec.ofChange s with cond := some uptoSmall }

/-- 'vennlaw4.FormTwice', WHERE WHAT IT READS IS OF BULK AT MOST 1048576: true; the input reads as it did. -/
def formTwiceUptoRow : OpenClaim := { program := "ytenmheenieifpacdoor", sum := "e8c861d15d891fcce6dfd39a7a7ad67dca1c3c8b8d0d3572f2ec763a6649c83d", func := "vennhouse/vennlaw4.FormTwice", spec := "formTwice", inPlace := ["internal/reflectlite.ValueOf", "(internal/reflectlite.Value).Type", "(internal/reflectlite.Value).IsNil", "internal/reflectlite.TypeOf", "(internal/reflectlite.Value).Elem", "(internal/reflectlite.Value).Set"], unfollowed := true, recurses := true, named := ["vennhouse/atom.kinds", "errors.errorType"], apart := false, laid := [("errors.errorType", laid_errors_errorType), ("vennhouse/atom.kinds", laid_vennhouse_atom_kinds)], narrowed := true }
def FormTwiceUptoSaid : Prop := formTwiceUptoRow.holds Tryd.pinned (OpenSpec.upto formTwiceSpec)

/-- 'vennlaw1.CubesSay', WHERE WHAT IT READS IS OF BULK AT MOST 1048576: true; the input reads as it did. -/
def cubesSayUptoRow : OpenClaim := { program := "ytenmheenieifpacdoor", sum := "e8c861d15d891fcce6dfd39a7a7ad67dca1c3c8b8d0d3572f2ec763a6649c83d", func := "vennhouse/vennlaw1.CubesSay", spec := "cubesSay", unfollowed := true, recurses := true, named := ["vennhouse/atom.kinds"], apart := false, laid := [("vennhouse/atom.kinds", laid_vennhouse_atom_kinds)], narrowed := true }
def CubesSayUptoSaid : Prop := cubesSayUptoRow.holds Tryd.pinned (OpenSpec.upto cubesSaySpec)

/-- 'vennlaw4.CubesOne', WHERE WHAT IT READS IS OF BULK AT MOST 1048576: true; the input reads as it did. -/
def cubesOneUptoRow : OpenClaim := { program := "ytenmheenieifpacdoor", sum := "e8c861d15d891fcce6dfd39a7a7ad67dca1c3c8b8d0d3572f2ec763a6649c83d", func := "vennhouse/vennlaw4.CubesOne", spec := "cubesOne", unfollowed := true, recurses := true, named := ["vennhouse/atom.kinds"], apart := false, laid := [("vennhouse/atom.kinds", laid_vennhouse_atom_kinds)], narrowed := true }
def CubesOneUptoSaid : Prop := cubesOneUptoRow.holds Tryd.pinned (OpenSpec.upto cubesOneSpec)

/-- 'vennlaw1.FieldsTell', WHERE WHAT IT READS IS OF BULK AT MOST 1048576: true; the input reads as it did. -/
def fieldsTellUptoRow : OpenClaim := { program := "ytenmheenieifpacdoor", sum := "e8c861d15d891fcce6dfd39a7a7ad67dca1c3c8b8d0d3572f2ec763a6649c83d", func := "vennhouse/vennlaw1.FieldsTell", spec := "fieldsTell", inPlace := ["internal/reflectlite.ValueOf", "(internal/reflectlite.Value).Type", "(internal/reflectlite.Value).IsNil", "internal/reflectlite.TypeOf", "(internal/reflectlite.Value).Elem", "(internal/reflectlite.Value).Set"], unfollowed := true, recurses := true, named := ["errors.errorType"], apart := false, laid := [("errors.errorType", laid_errors_errorType)], narrowed := true }
def FieldsTellUptoSaid : Prop := fieldsTellUptoRow.holds Tryd.pinned (OpenSpec.upto fieldsTellSpec)

/-- 'vennlaw1.FieldsAll', WHERE WHAT IT READS IS OF BULK AT MOST 1048576: true; the input reads as it did. -/
def fieldsAllUptoRow : OpenClaim := { program := "ytenmheenieifpacdoor", sum := "e8c861d15d891fcce6dfd39a7a7ad67dca1c3c8b8d0d3572f2ec763a6649c83d", func := "vennhouse/vennlaw1.FieldsAll", spec := "fieldsAll", unfollowed := true, recurses := true, named := ["vennhouse/atom.kinds"], apart := false, laid := [("vennhouse/atom.kinds", laid_vennhouse_atom_kinds)], narrowed := true }
def FieldsAllUptoSaid : Prop := fieldsAllUptoRow.holds Tryd.pinned (OpenSpec.upto fieldsAllSpec)

end Rows
end Go.Proofs.YtenmheenieifpacDoor
