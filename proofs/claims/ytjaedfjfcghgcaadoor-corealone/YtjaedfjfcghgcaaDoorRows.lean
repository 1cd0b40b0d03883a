/-
  NARROWER THAN 'FOR EVERY INPUT', by the rows' own cells (each row's printed sentence says how): CoreTells: laid · CoreEnough: laid · CoreAlone: laid · AskTells: laid · AskFollows: laid · AskMany: laid.
  DERIVED. THE GIVEN ROWS OF THIS SEAT. 6 by the template 'for every input the law returns true; each argument reads behind the call as it read before'; 0 by the template 'total and deterministic' (their statements: YtjaedfjfcghgcaaDoorTotals.lean).
  GIVEN WITH THE SEED: the statements are not yours to turn. If you find one false, say at which input.
  Laid BY PROGRAM, IN A SANDBOX (cutbox-rows.mjs): the forced cells as the released guide's own fill.sh prints them over the translation 2c5c84f14d01bb20… (all of the seat's roots in one cut). By AI agents, Wed Nov 11 2026. No macro, syntax, notation, axiom, sorry.
-/
import Derived.Test.YtjaedfjfcghgcaaDoorChecked
import GoSem.Claim
import GoSem.ClaimJoined
import GoSem.ClaimMapViews
import Derived.JoinedTies
import Derived.KernelRfl
namespace Go.Proofs.YtjaedfjfcghgcaaDoor
/- THE CELL 'sum', in the pinned program and in every row, IS THE sha256 OF THE DUMP (.gsa) THAT YtjaedfjfcghgcaaDoorProg.lean LOADS. Nothing in Lean hashes anything: it is a label: what it is worth is what the hold of that sum in a sandbox is worth. -/
noncomputable def Tryd.pinned : Pinned := { name := "ytjaedfjfcghgcaadoor", sum := "2c5c84f14d01bb202ef834aa0f3fba631c6f2b89af0d81c4b2222634f14b34e4", checked := Tryd.checked }
namespace Rows
def none {H : Type} : Left H := { results := [], args := [] }

/- WHAT THE LISTED PACKAGE-LEVEL VARIABLES READ AS WHEN THE CALL BEGINS. Each datum BY PROGRAM (the guide's laid-datum.mjs) off the statement by which the dump's own 'gosem.cut.vars' lays the variable. In a bare row this is a premise. The card (YtjaedfjfcghgcaaDoorCards.lean) ties it to the program's text. -/
def laid_errors_errorType {H : Type} : DataW H := .iface "internal/reflectlite.rtype" (.agg [.ptr (.lit (.string [101, 114, 114, 111, 114]))])
def laid_vennhouse_atom_kinds {H : Type} : DataW H := .agg [.agg [.lit (.string []), .lit (.bool false), .lit (.bool false)], .agg [.lit (.string [115, 117, 98]), .lit (.bool true), .lit (.bool false)], .agg [.lit (.string [115, 97, 109, 101]), .lit (.bool true), .lit (.bool false)], .agg [.lit (.string [108, 101, 97, 115, 116]), .lit (.bool false), .lit (.bool true)], .agg [.lit (.string [109, 111, 115, 116]), .lit (.bool false), .lit (.bool true)], .agg [.lit (.string [110, 111, 109, 111, 114, 101]), .lit (.bool true), .lit (.bool true)]]

/-- 'vennlaw2.CoreTells': WHATEVER THE INPUT: true; the input reads as it did. -/
def coreTellsSpec : ChangeSpec := { name := "coreTells", fn := fun _ => fun
  | [d1, d2] => { results := [.lit (.bool true)], args := [d1, d2] }
  | _ => none }
def coreTellsRow : OpenClaim := { program := "ytjaedfjfcghgcaadoor", sum := "2c5c84f14d01bb202ef834aa0f3fba631c6f2b89af0d81c4b2222634f14b34e4", func := "vennhouse/vennlaw2.CoreTells", spec := "coreTells", inPlace := ["internal/reflectlite.ValueOf", "(internal/reflectlite.Value).Type", "(internal/reflectlite.Value).IsNil", "internal/reflectlite.TypeOf", "(internal/reflectlite.Value).Elem", "(internal/reflectlite.Value).Set"], unfollowed := true, recurses := true, named := ["vennhouse/atom.kinds", "errors.errorType"], apart := false, laid := [("errors.errorType", laid_errors_errorType), ("vennhouse/atom.kinds", laid_vennhouse_atom_kinds)] }
def CoreTellsSaid : Prop := coreTellsRow.holds Tryd.pinned (OpenSpec.ofChange coreTellsSpec)

/-- ITS FALSE NEIGHBOUR: 'it returns false'. Refute it at one input. -/
def coreTellsWrong : ChangeSpec := { name := "coreTells", fn := fun _ => fun
  | [d1, d2] => { results := [.lit (.bool false)], args := [d1, d2] }
  | _ => none }
def CoreTellsWrongFalsely : Prop := coreTellsRow.holds Tryd.pinned (OpenSpec.ofChange coreTellsWrong)

/-- 'vennlaw2.CoreEnough': WHATEVER THE INPUT: true; the input reads as it did. -/
def coreEnoughSpec : ChangeSpec := { name := "coreEnough", fn := fun _ => fun
  | [d1, d2, d3] => { results := [.lit (.bool true)], args := [d1, d2, d3] }
  | _ => none }
def coreEnoughRow : OpenClaim := { program := "ytjaedfjfcghgcaadoor", sum := "2c5c84f14d01bb202ef834aa0f3fba631c6f2b89af0d81c4b2222634f14b34e4", func := "vennhouse/vennlaw2.CoreEnough", spec := "coreEnough", inPlace := ["internal/reflectlite.ValueOf", "(internal/reflectlite.Value).Type", "(internal/reflectlite.Value).IsNil", "internal/reflectlite.TypeOf", "(internal/reflectlite.Value).Elem", "(internal/reflectlite.Value).Set"], unfollowed := true, recurses := true, named := ["vennhouse/atom.kinds", "errors.errorType"], apart := false, laid := [("errors.errorType", laid_errors_errorType), ("vennhouse/atom.kinds", laid_vennhouse_atom_kinds)] }
def CoreEnoughSaid : Prop := coreEnoughRow.holds Tryd.pinned (OpenSpec.ofChange coreEnoughSpec)

/-- ITS FALSE NEIGHBOUR: 'it returns false'. Refute it at one input. -/
def coreEnoughWrong : ChangeSpec := { name := "coreEnough", fn := fun _ => fun
  | [d1, d2, d3] => { results := [.lit (.bool false)], args := [d1, d2, d3] }
  | _ => none }
def CoreEnoughWrongFalsely : Prop := coreEnoughRow.holds Tryd.pinned (OpenSpec.ofChange coreEnoughWrong)

/-- 'vennlaw4.CoreAlone': WHATEVER THE INPUT: true; the input reads as it did. -/
def coreAloneSpec : ChangeSpec := { name := "coreAlone", fn := fun _ => fun
  | [d1, d2] => { results := [.lit (.bool true)], args := [d1, d2] }
  | _ => none }
def coreAloneRow : OpenClaim := { program := "ytjaedfjfcghgcaadoor", sum := "2c5c84f14d01bb202ef834aa0f3fba631c6f2b89af0d81c4b2222634f14b34e4", func := "vennhouse/vennlaw4.CoreAlone", spec := "coreAlone", unfollowed := true, recurses := true, named := ["vennhouse/atom.kinds"], apart := false, laid := [("vennhouse/atom.kinds", laid_vennhouse_atom_kinds)] }
def CoreAloneSaid : Prop := coreAloneRow.holds Tryd.pinned (OpenSpec.ofChange coreAloneSpec)

/-- ITS FALSE NEIGHBOUR: 'it returns false'. Refute it at one input. -/
def coreAloneWrong : ChangeSpec := { name := "coreAlone", fn := fun _ => fun
  | [d1, d2] => { results := [.lit (.bool false)], args := [d1, d2] }
  | _ => none }
def CoreAloneWrongFalsely : Prop := coreAloneRow.holds Tryd.pinned (OpenSpec.ofChange coreAloneWrong)

/-- 'vennlaw2.AskTells': WHATEVER THE INPUT: true; the input reads as it did. -/
def askTellsSpec : ChangeSpec := { name := "askTells", fn := fun _ => fun
  | [d1, d2, d3] => { results := [.lit (.bool true)], args := [d1, d2, d3] }
  | _ => none }
def askTellsRow : OpenClaim := { program := "ytjaedfjfcghgcaadoor", sum := "2c5c84f14d01bb202ef834aa0f3fba631c6f2b89af0d81c4b2222634f14b34e4", func := "vennhouse/vennlaw2.AskTells", spec := "askTells", inPlace := ["internal/reflectlite.ValueOf", "(internal/reflectlite.Value).Type", "(internal/reflectlite.Value).IsNil", "internal/reflectlite.TypeOf", "(internal/reflectlite.Value).Elem", "(internal/reflectlite.Value).Set"], unfollowed := true, recurses := true, named := ["vennhouse/atom.kinds", "errors.errorType"], apart := false, laid := [("errors.errorType", laid_errors_errorType), ("vennhouse/atom.kinds", laid_vennhouse_atom_kinds)] }
def AskTellsSaid : Prop := askTellsRow.holds Tryd.pinned (OpenSpec.ofChange askTellsSpec)

/-- ITS FALSE NEIGHBOUR: 'it returns false'. Refute it at one input. -/
def askTellsWrong : ChangeSpec := { name := "askTells", fn := fun _ => fun
  | [d1, d2, d3] => { results := [.lit (.bool false)], args := [d1, d2, d3] }
  | _ => none }
def AskTellsWrongFalsely : Prop := askTellsRow.holds Tryd.pinned (OpenSpec.ofChange askTellsWrong)

/-- 'vennlaw2.AskFollows': WHATEVER THE INPUT: true; the input reads as it did. -/
def askFollowsSpec : ChangeSpec := { name := "askFollows", fn := fun _ => fun
  | [d1, d2, d3, d4] => { results := [.lit (.bool true)], args := [d1, d2, d3, d4] }
  | _ => none }
def askFollowsRow : OpenClaim := { program := "ytjaedfjfcghgcaadoor", sum := "2c5c84f14d01bb202ef834aa0f3fba631c6f2b89af0d81c4b2222634f14b34e4", func := "vennhouse/vennlaw2.AskFollows", spec := "askFollows", unfollowed := true, recurses := true, named := ["vennhouse/atom.kinds"], apart := false, laid := [("vennhouse/atom.kinds", laid_vennhouse_atom_kinds)] }
def AskFollowsSaid : Prop := askFollowsRow.holds Tryd.pinned (OpenSpec.ofChange askFollowsSpec)

/-- ITS FALSE NEIGHBOUR: 'it returns false'. Refute it at one input. -/
def askFollowsWrong : ChangeSpec := { name := "askFollows", fn := fun _ => fun
  | [d1, d2, d3, d4] => { results := [.lit (.bool false)], args := [d1, d2, d3, d4] }
  | _ => none }
def AskFollowsWrongFalsely : Prop := askFollowsRow.holds Tryd.pinned (OpenSpec.ofChange askFollowsWrong)

/-- 'vennlaw4.AskMany': WHATEVER THE INPUT: true; the input reads as it did. -/
def askManySpec : ChangeSpec := { name := "askMany", fn := fun _ => fun
  | [d1, d2, d3, d4] => { results := [.lit (.bool true)], args := [d1, d2, d3, d4] }
  | _ => none }
def askManyRow : OpenClaim := { program := "ytjaedfjfcghgcaadoor", sum := "2c5c84f14d01bb202ef834aa0f3fba631c6f2b89af0d81c4b2222634f14b34e4", func := "vennhouse/vennlaw4.AskMany", spec := "askMany", unfollowed := true, recurses := true, named := ["vennhouse/atom.kinds"], apart := false, laid := [("vennhouse/atom.kinds", laid_vennhouse_atom_kinds)] }
def AskManySaid : Prop := askManyRow.holds Tryd.pinned (OpenSpec.ofChange askManySpec)

/-- ITS FALSE NEIGHBOUR: 'it returns false'. Refute it at one input. -/
def askManyWrong : ChangeSpec := { name := "askMany", fn := fun _ => fun
  | [d1, d2, d3, d4] => { results := [.lit (.bool false)], args := [d1, d2, d3, d4] }
  | _ => none }
def AskManyWrongFalsely : Prop := askManyRow.holds Tryd.pinned (OpenSpec.ofChange askManyWrong)

/- THE SECOND FORM. 'bulk': how many values and letters a reading holds, each counted each time it is reached (what is shared counts as often as it is met; a slice's spare places count too). A statement '..UptoSaid' is the law's where the arguments, and the package variables that the reading takes, are together of bulk at most 1048576: NARROWER than '..Said'. Prove '..Said' where nothing that the law and all that it calls make is longer than what came in: it says more and counts as full. Else prove '..UptoSaid'. A law counts once. -/
mutual
def uptoBulk {H : Type} : DataW H → Nat
  | .lit (.string bytes) => bytes.length + 1
  | .lit _ => 1
  | .nil => 1
  | .ptr d => uptoBulk d + 1
  | .slice elems spare => uptoBulkAll elems + uptoBulkAll spare + 1
  | .agg parts => uptoBulkAll parts + 1
  | .iface _ d => uptoBulk d + 1
  | .map entries => uptoBulkEntries entries + 1
  | .held _ => 1
def uptoBulkAll {H : Type} : List (DataW H) → Nat
  | [] => 0
  | d :: r => uptoBulk d + uptoBulkAll r
def uptoBulkEntries {H : Type} : List (Lit × DataW H) → Nat
  | [] => 0
  | x :: r => uptoBulkEntry x + uptoBulkEntries r
def uptoBulkEntry {H : Type} : Lit × DataW H → Nat
  | (.string bytes, d) => bytes.length + uptoBulk d + 1
  | (_, d) => uptoBulk d + 1
 end
def uptoSmall : (H : Type) → List (DataW H) → Bool := fun _ ds => decide (uptoBulkAll ds ≤ 1048576)
def OpenSpec.upto (s : _root_.Go.ChangeSpec) : _root_.Go.OpenSpec := { _root_.Go.OpenSpec.ofChange s with cond := some uptoSmall }

/-- 'vennlaw2.CoreTells', WHERE WHAT IT READS IS OF BULK AT MOST 1048576: true; the input reads as it did. -/
def coreTellsUptoRow : OpenClaim := { program := "ytjaedfjfcghgcaadoor", sum := "2c5c84f14d01bb202ef834aa0f3fba631c6f2b89af0d81c4b2222634f14b34e4", func := "vennhouse/vennlaw2.CoreTells", spec := "coreTells", inPlace := ["internal/reflectlite.ValueOf", "(internal/reflectlite.Value).Type", "(internal/reflectlite.Value).IsNil", "internal/reflectlite.TypeOf", "(internal/reflectlite.Value).Elem", "(internal/reflectlite.Value).Set"], unfollowed := true, recurses := true, named := ["vennhouse/atom.kinds", "errors.errorType"], apart := false, laid := [("errors.errorType", laid_errors_errorType), ("vennhouse/atom.kinds", laid_vennhouse_atom_kinds)], narrowed := true }
def CoreTellsUptoSaid : Prop := coreTellsUptoRow.holds Tryd.pinned (OpenSpec.upto coreTellsSpec)

/-- 'vennlaw2.CoreEnough', WHERE WHAT IT READS IS OF BULK AT MOST 1048576: true; the input reads as it did. -/
def coreEnoughUptoRow : OpenClaim := { program := "ytjaedfjfcghgcaadoor", sum := "2c5c84f14d01bb202ef834aa0f3fba631c6f2b89af0d81c4b2222634f14b34e4", func := "vennhouse/vennlaw2.CoreEnough", spec := "coreEnough", inPlace := ["internal/reflectlite.ValueOf", "(internal/reflectlite.Value).Type", "(internal/reflectlite.Value).IsNil", "internal/reflectlite.TypeOf", "(internal/reflectlite.Value).Elem", "(internal/reflectlite.Value).Set"], unfollowed := true, recurses := true, named := ["vennhouse/atom.kinds", "errors.errorType"], apart := false, laid := [("errors.errorType", laid_errors_errorType), ("vennhouse/atom.kinds", laid_vennhouse_atom_kinds)], narrowed := true }
def CoreEnoughUptoSaid : Prop := coreEnoughUptoRow.holds Tryd.pinned (OpenSpec.upto coreEnoughSpec)

/-- 'vennlaw4.CoreAlone', WHERE WHAT IT READS IS OF BULK AT MOST 1048576: true; the input reads as it did. -/
def coreAloneUptoRow : OpenClaim := { program := "ytjaedfjfcghgcaadoor", sum := "2c5c84f14d01bb202ef834aa0f3fba631c6f2b89af0d81c4b2222634f14b34e4", func := "vennhouse/vennlaw4.CoreAlone", spec := "coreAlone", unfollowed := true, recurses := true, named := ["vennhouse/atom.kinds"], apart := false, laid := [("vennhouse/atom.kinds", laid_vennhouse_atom_kinds)], narrowed := true }
def CoreAloneUptoSaid : Prop := coreAloneUptoRow.holds Tryd.pinned (OpenSpec.upto coreAloneSpec)

/-- 'vennlaw2.AskTells', WHERE WHAT IT READS IS OF BULK AT MOST 1048576: true; the input reads as it did. -/
def askTellsUptoRow : OpenClaim := { program := "ytjaedfjfcghgcaadoor", sum := "2c5c84f14d01bb202ef834aa0f3fba631c6f2b89af0d81c4b2222634f14b34e4", func := "vennhouse/vennlaw2.AskTells", spec := "askTells", inPlace := ["internal/reflectlite.ValueOf", "(internal/reflectlite.Value).Type", "(internal/reflectlite.Value).IsNil", "internal/reflectlite.TypeOf", "(internal/reflectlite.Value).Elem", "(internal/reflectlite.Value).Set"], unfollowed := true, recurses := true, named := ["vennhouse/atom.kinds", "errors.errorType"], apart := false, laid := [("errors.errorType", laid_errors_errorType), ("vennhouse/atom.kinds", laid_vennhouse_atom_kinds)], narrowed := true }
def AskTellsUptoSaid : Prop := askTellsUptoRow.holds Tryd.pinned (OpenSpec.upto askTellsSpec)

/-- 'vennlaw2.AskFollows', WHERE WHAT IT READS IS OF BULK AT MOST 1048576: true; the input reads as it did. -/
def askFollowsUptoRow : OpenClaim := { program := "ytjaedfjfcghgcaadoor", sum := "2c5c84f14d01bb202ef834aa0f3fba631c6f2b89af0d81c4b2222634f14b34e4", func := "vennhouse/vennlaw2.AskFollows", spec := "askFollows", unfollowed := true, recurses := true, named := ["vennhouse/atom.kinds"], apart := false, laid := [("vennhouse/atom.kinds", laid_vennhouse_atom_kinds)], narrowed := true }
def AskFollowsUptoSaid : Prop := askFollowsUptoRow.holds Tryd.pinned (OpenSpec.upto askFollowsSpec)

/-- 'vennlaw4.AskMany', WHERE WHAT IT READS IS OF BULK AT MOST 1048576: true; the input reads as it did. -/
def askManyUptoRow : OpenClaim := { program := "ytjaedfjfcghgcaadoor", sum := "2c5c84f14d01bb202ef834aa0f3fba631c6f2b89af0d81c4b2222634f14b34e4", func := "vennhouse/vennlaw4.AskMany", spec := "askMany", unfollowed := true, recurses := true, named := ["vennhouse/atom.kinds"], apart := false, laid := [("vennhouse/atom.kinds", laid_vennhouse_atom_kinds)], narrowed := true }
def AskManyUptoSaid : Prop := askManyUptoRow.holds Tryd.pinned (OpenSpec.upto askManySpec)

end Rows
end Go.Proofs.YtjaedfjfcghgcaaDoor
