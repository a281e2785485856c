/-
  NARROWER THAN 'FOR EVERY INPUT', by the rows' own cells (each row's printed sentence says how): FnExactNameOfEnd: laid · FnRunGraph: laid.
  DERIVED. THE GIVEN ROWS OF THIS SEAT. 2 by the template 'for every input the law returns true; each argument reads behind the call as it read before'; 0 by the template 'total and deterministic' (their statements: YteodlcgmncchpaaDoorTotals.lean).
  GIVEN WITH THE SEED: the statements are not yours to turn. If you find one false, say at which input.
  Laid BY PROGRAM, IN A SANDBOX (cutbox-rows.mjs): the forced cells as the released guide's own fill.sh prints them over the translation 0bd2fbfd50794048… (all of the seat's roots in one cut). By AI agents, Wed Nov 11 2026. No macro, syntax, notation, axiom, sorry.
-/
import Derived.Test.YteodlcgmncchpaaDoorChecked
import GoSem.Claim
import GoSem.ClaimJoined
import GoSem.ClaimMapViews
import Derived.JoinedTies
import Derived.KernelRfl
namespace Go.Proofs.YteodlcgmncchpaaDoor
/- THE CELL 'sum', in the pinned program and in every row, IS THE sha256 OF THE DUMP (.gsa) THAT YteodlcgmncchpaaDoorProg.lean LOADS. Nothing in Lean hashes anything: it is a label: what it is worth is what the hold of that sum in a sandbox is worth. -/
noncomputable def Tryd.pinned : Pinned := { name := "yteodlcgmncchpaadoor", sum := "0bd2fbfd50794048c070ade4072f5094df884bda80eb74141c3fd38e4f3247cf", checked := Tryd.checked }
namespace Rows
def none {H : Type} : Left H := { results := [], args := [] }

/- WHAT THE LISTED PACKAGE-LEVEL VARIABLES READ AS WHEN THE CALL BEGINS. Each datum BY PROGRAM (the guide's laid-datum.mjs) off the statement by which the dump's own 'gosem.cut.vars' lays the variable. In a bare row this is a premise. The card (YteodlcgmncchpaaDoorCards.lean) ties it to the program's text. -/
def laid_loop_example_structuredjumps_impl_endNames {H : Type} : DataW H := .agg [.lit (.string [115, 116, 111, 112]), .lit (.string [97, 115, 107]), .lit (.string [108, 111, 110, 103])]

/-- 'laws.FnExactNameOfEnd': WHATEVER THE INPUT: true; the input reads as it did. -/
def fnExactNameOfEndSpec : ChangeSpec := { name := "fnExactNameOfEnd", vars := ["loop.example/structuredjumps/impl.endNames"], fn := fun _ => fun
  | [d, g1] => { results := [.lit (.bool true)], args := [d], vars := [g1] }
  | _ => none }
def fnExactNameOfEndRow : OpenClaim := { program := "yteodlcgmncchpaadoor", sum := "0bd2fbfd50794048c070ade4072f5094df884bda80eb74141c3fd38e4f3247cf", func := "loop.example/structuredjumps/laws.FnExactNameOfEnd", spec := "fnExactNameOfEnd", named := ["loop.example/structuredjumps/impl.endNames"], apart := false, laid := [("loop.example/structuredjumps/impl.endNames", laid_loop_example_structuredjumps_impl_endNames)] }
def FnExactNameOfEndSaid : Prop := fnExactNameOfEndRow.holds Tryd.pinned (OpenSpec.ofChange fnExactNameOfEndSpec)

/-- ITS FALSE NEIGHBOUR: 'it returns false'. Refute it at one input. -/
def fnExactNameOfEndWrong : ChangeSpec := { name := "fnExactNameOfEnd", vars := ["loop.example/structuredjumps/impl.endNames"], fn := fun _ => fun
  | [d, g1] => { results := [.lit (.bool false)], args := [d], vars := [g1] }
  | _ => none }
def FnExactNameOfEndWrongFalsely : Prop := fnExactNameOfEndRow.holds Tryd.pinned (OpenSpec.ofChange fnExactNameOfEndWrong)

/-- 'laws.FnRunGraph': WHATEVER THE INPUT: true; the input reads as it did. -/
def fnRunGraphSpec : ChangeSpec := { name := "fnRunGraph", vars := ["loop.example/structuredjumps/impl.endNames"], fn := fun _ => fun
  | [d1, d2, g1] => { results := [.lit (.bool true)], args := [d1, d2], vars := [g1] }
  | _ => none }
def fnRunGraphRow : OpenClaim := { program := "yteodlcgmncchpaadoor", sum := "0bd2fbfd50794048c070ade4072f5094df884bda80eb74141c3fd38e4f3247cf", func := "loop.example/structuredjumps/laws.FnRunGraph", spec := "fnRunGraph", inPlace := ["internal/bytealg.IndexByteString", "internal/bytealg.IndexString", "internal/abi.NoEscape"], unfollowed := true, recurses := true, named := ["internal/bytealg.MaxLen", "loop.example/structuredjumps/impl.endNames"], apart := false, laid := [("loop.example/structuredjumps/impl.endNames", laid_loop_example_structuredjumps_impl_endNames)] }
def FnRunGraphSaid : Prop := fnRunGraphRow.holds Tryd.pinned (OpenSpec.ofChange fnRunGraphSpec)

/-- ITS FALSE NEIGHBOUR: 'it returns false'. Refute it at one input. -/
def fnRunGraphWrong : ChangeSpec := { name := "fnRunGraph", vars := ["loop.example/structuredjumps/impl.endNames"], fn := fun _ => fun
  | [d1, d2, g1] => { results := [.lit (.bool false)], args := [d1, d2], vars := [g1] }
  | _ => none }
def FnRunGraphWrongFalsely : Prop := fnRunGraphRow.holds Tryd.pinned (OpenSpec.ofChange fnRunGraphWrong)

/- THE SECOND FORM. 'bulk': how many values and letters a reading holds, each counted each time it is reached (what is shared counts as often as it is met; a slice's spare places count too). A statement '..UptoSaid' is the law's where the arguments, and the package variables that the reading takes, are together of bulk at most 1048576: NARROWER than '..Said'. Prove '..Said' where nothing that the law and all that it calls make is longer than what came in: it says more and counts as full. Else prove '..UptoSaid'. A law counts once. -/
mutual
def uptoBulk {H : Type} : DataW H → Nat
  | .lit (.string bytes) => bytes.length + 1
  | .lit _ => 1
  | .nil => 1
  | .ptr d => uptoBulk d + 1
  | .slice elems spare => uptoBulkAll elems + uptoBulkAll spare + 1
  | .agg parts => uptoBulkAll parts + 1
  | .iface _ d => uptoBulk d + 1
  | .map entries => uptoBulkEntries entries + 1
  | .held _ => 1
def uptoBulkAll {H : Type} : List (DataW H) → Nat
  | [] => 0
  | d :: r => uptoBulk d + uptoBulkAll r
def uptoBulkEntries {H : Type} : List (Lit × DataW H) → Nat
  | [] => 0
  | x :: r => uptoBulkEntry x + uptoBulkEntries r
def uptoBulkEntry {H : Type} : Lit × DataW H → Nat
  | (.string bytes, d) => bytes.length + uptoBulk d + 1
  | (_, d) => uptoBulk d + 1
 end
def uptoSmall : (H : Type) → List (DataW H) → Bool := fun _ ds => decide (uptoBulkAll ds ≤ 1048576)
def OpenSpec.upto (s : _root_.Go.ChangeSpec) : _root_.Go.OpenSpec := { _root_.Go.OpenSpec.ofChange s with cond := some uptoSmall }

/-- 'laws.FnExactNameOfEnd', WHERE WHAT IT READS IS OF BULK AT MOST 1048576: true; the input reads as it did. -/
def fnExactNameOfEndUptoRow : OpenClaim := { program := "yteodlcgmncchpaadoor", sum := "0bd2fbfd50794048c070ade4072f5094df884bda80eb74141c3fd38e4f3247cf", func := "loop.example/structuredjumps/laws.FnExactNameOfEnd", spec := "fnExactNameOfEnd", named := ["loop.example/structuredjumps/impl.endNames"], apart := false, laid := [("loop.example/structuredjumps/impl.endNames", laid_loop_example_structuredjumps_impl_endNames)], narrowed := true }
def FnExactNameOfEndUptoSaid : Prop := fnExactNameOfEndUptoRow.holds Tryd.pinned (OpenSpec.upto fnExactNameOfEndSpec)

/-- 'laws.FnRunGraph', WHERE WHAT IT READS IS OF BULK AT MOST 1048576: true; the input reads as it did. -/
def fnRunGraphUptoRow : OpenClaim := { program := "yteodlcgmncchpaadoor", sum := "0bd2fbfd50794048c070ade4072f5094df884bda80eb74141c3fd38e4f3247cf", func := "loop.example/structuredjumps/laws.FnRunGraph", spec := "fnRunGraph", inPlace := ["internal/bytealg.IndexByteString", "internal/bytealg.IndexString", "internal/abi.NoEscape"], unfollowed := true, recurses := true, named := ["internal/bytealg.MaxLen", "loop.example/structuredjumps/impl.endNames"], apart := false, laid := [("loop.example/structuredjumps/impl.endNames", laid_loop_example_structuredjumps_impl_endNames)], narrowed := true }
def FnRunGraphUptoSaid : Prop := fnRunGraphUptoRow.holds Tryd.pinned (OpenSpec.upto fnRunGraphSpec)

end Rows
end Go.Proofs.YteodlcgmncchpaaDoor
