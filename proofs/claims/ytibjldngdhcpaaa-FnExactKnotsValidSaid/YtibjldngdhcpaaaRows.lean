/-
  No cell of these rows narrows 'for every input' (looked for: loops, veiled, ifaces, maps, wideKeys, modest, calm, conditions, laid).
  DERIVED. THE GIVEN ROWS OF THIS SEAT. 8 by the template 'for every input the law returns true; each argument reads behind the call as it read before'; 0 by the template 'total and deterministic' (their statements: YtibjldngdhcpaaaTotals.lean).
  GIVEN WITH THE SEED: the statements are not yours to turn. If you find one false, say at which input.
  Laid BY PROGRAM, IN A SANDBOX (cutbox-rows.mjs): the forced cells as the released guide's own fill.sh prints them over the translation 88e006ed2d856db1… (all of the seat's roots in one cut). By AI agents, Wed Nov 11 2026. No macro, syntax, notation, axiom, sorry.
-/
import Derived.Test.YtibjldngdhcpaaaChecked
import GoSem.Claim
import GoSem.ClaimJoined
import GoSem.ClaimMapViews
import Derived.JoinedTies
import Derived.KernelRfl
namespace Go.Proofs.Ytibjldngdhcpaaa
/- THE CELL 'sum', in the pinned program and in every row, IS THE sha256 OF THE DUMP (.gsa) THAT YtibjldngdhcpaaaProg.lean LOADS. Nothing in Lean hashes anything: it is a label: what it is worth is what the hold of that sum in a sandbox is worth. -/
noncomputable def Try.pinned : Pinned := { name := "ytibjldngdhcpaaa", sum := "88e006ed2d856db152120390fc1123c319aeafa95aaf0b7d299d6c4c1b9b4454", checked := Try.checked }
namespace Rows
def none {H : Type} : Left H := { results := [], args := [] }

/-- 'laws.FnExactKnotsValid': WHATEVER THE INPUT: true; the input reads as it did. -/
def fnExactKnotsValidSpec : ChangeSpec := { name := "fnExactKnotsValid", fn := fun _ => fun
  | [d] => { results := [.lit (.bool true)], args := [d] }
  | _ => none }
def fnExactKnotsValidRow : OpenClaim := { program := "ytibjldngdhcpaaa", sum := "88e006ed2d856db152120390fc1123c319aeafa95aaf0b7d299d6c4c1b9b4454", func := "loop.example/structuredjumps/laws.FnExactKnotsValid", spec := "fnExactKnotsValid", inPlace := ["internal/bytealg.IndexByteString", "internal/bytealg.IndexString"], named := ["internal/bytealg.MaxLen"], apart := false }
def FnExactKnotsValidSaid : Prop := fnExactKnotsValidRow.holds Try.pinned (OpenSpec.ofChange fnExactKnotsValidSpec)

/-- ITS FALSE NEIGHBOUR: 'it returns false'. Refute it at one input. -/
def fnExactKnotsValidWrong : ChangeSpec := { name := "fnExactKnotsValid", fn := fun _ => fun
  | [d] => { results := [.lit (.bool false)], args := [d] }
  | _ => none }
def FnExactKnotsValidWrongFalsely : Prop := fnExactKnotsValidRow.holds Try.pinned (OpenSpec.ofChange fnExactKnotsValidWrong)

/-- 'laws.FnExactKnotsOf': WHATEVER THE INPUT: true; the input reads as it did. -/
def fnExactKnotsOfSpec : ChangeSpec := { name := "fnExactKnotsOf", fn := fun _ => fun
  | [d] => { results := [.lit (.bool true)], args := [d] }
  | _ => none }
def fnExactKnotsOfRow : OpenClaim := { program := "ytibjldngdhcpaaa", sum := "88e006ed2d856db152120390fc1123c319aeafa95aaf0b7d299d6c4c1b9b4454", func := "loop.example/structuredjumps/laws.FnExactKnotsOf", spec := "fnExactKnotsOf", inPlace := ["internal/bytealg.IndexByteString", "internal/bytealg.IndexString"], unfollowed := true, recurses := true, named := ["internal/bytealg.MaxLen"], apart := false }
def FnExactKnotsOfSaid : Prop := fnExactKnotsOfRow.holds Try.pinned (OpenSpec.ofChange fnExactKnotsOfSpec)

/-- ITS FALSE NEIGHBOUR: 'it returns false'. Refute it at one input. -/
def fnExactKnotsOfWrong : ChangeSpec := { name := "fnExactKnotsOf", fn := fun _ => fun
  | [d] => { results := [.lit (.bool false)], args := [d] }
  | _ => none }
def FnExactKnotsOfWrongFalsely : Prop := fnExactKnotsOfRow.holds Try.pinned (OpenSpec.ofChange fnExactKnotsOfWrong)

/-- 'laws.FnExactFormatKnots': WHATEVER THE INPUT: true; the input reads as it did. -/
def fnExactFormatKnotsSpec : ChangeSpec := { name := "fnExactFormatKnots", fn := fun _ => fun
  | [d] => { results := [.lit (.bool true)], args := [d] }
  | _ => none }
def fnExactFormatKnotsRow : OpenClaim := { program := "ytibjldngdhcpaaa", sum := "88e006ed2d856db152120390fc1123c319aeafa95aaf0b7d299d6c4c1b9b4454", func := "loop.example/structuredjumps/laws.FnExactFormatKnots", spec := "fnExactFormatKnots", inPlace := ["internal/abi.NoEscape", "internal/bytealg.MakeNoZero"], apart := false }
def FnExactFormatKnotsSaid : Prop := fnExactFormatKnotsRow.holds Try.pinned (OpenSpec.ofChange fnExactFormatKnotsSpec)

/-- ITS FALSE NEIGHBOUR: 'it returns false'. Refute it at one input. -/
def fnExactFormatKnotsWrong : ChangeSpec := { name := "fnExactFormatKnots", fn := fun _ => fun
  | [d] => { results := [.lit (.bool false)], args := [d] }
  | _ => none }
def FnExactFormatKnotsWrongFalsely : Prop := fnExactFormatKnotsRow.holds Try.pinned (OpenSpec.ofChange fnExactFormatKnotsWrong)

/-- 'laws.FnExactStepsOf': WHATEVER THE INPUT: true; the input reads as it did. -/
def fnExactStepsOfSpec : ChangeSpec := { name := "fnExactStepsOf", fn := fun _ => fun
  | [d] => { results := [.lit (.bool true)], args := [d] }
  | _ => none }
def fnExactStepsOfRow : OpenClaim := { program := "ytibjldngdhcpaaa", sum := "88e006ed2d856db152120390fc1123c319aeafa95aaf0b7d299d6c4c1b9b4454", func := "loop.example/structuredjumps/laws.FnExactStepsOf", spec := "fnExactStepsOf", inPlace := ["internal/bytealg.IndexByteString", "internal/bytealg.IndexString"], unfollowed := true, recurses := true, named := ["internal/bytealg.MaxLen"], apart := false }
def FnExactStepsOfSaid : Prop := fnExactStepsOfRow.holds Try.pinned (OpenSpec.ofChange fnExactStepsOfSpec)

/-- ITS FALSE NEIGHBOUR: 'it returns false'. Refute it at one input. -/
def fnExactStepsOfWrong : ChangeSpec := { name := "fnExactStepsOf", fn := fun _ => fun
  | [d] => { results := [.lit (.bool false)], args := [d] }
  | _ => none }
def FnExactStepsOfWrongFalsely : Prop := fnExactStepsOfRow.holds Try.pinned (OpenSpec.ofChange fnExactStepsOfWrong)

/-- 'laws.FnExactDoStep': WHATEVER THE INPUT: true; the input reads as it did. -/
def fnExactDoStepSpec : ChangeSpec := { name := "fnExactDoStep", fn := fun _ => fun
  | [d1, d2] => { results := [.lit (.bool true)], args := [d1, d2] }
  | _ => none }
def fnExactDoStepRow : OpenClaim := { program := "ytibjldngdhcpaaa", sum := "88e006ed2d856db152120390fc1123c319aeafa95aaf0b7d299d6c4c1b9b4454", func := "loop.example/structuredjumps/laws.FnExactDoStep", spec := "fnExactDoStep", inPlace := ["internal/bytealg.IndexByteString", "internal/bytealg.IndexString"], unfollowed := true, recurses := true, named := ["internal/bytealg.MaxLen"], apart := false }
def FnExactDoStepSaid : Prop := fnExactDoStepRow.holds Try.pinned (OpenSpec.ofChange fnExactDoStepSpec)

/-- ITS FALSE NEIGHBOUR: 'it returns false'. Refute it at one input. -/
def fnExactDoStepWrong : ChangeSpec := { name := "fnExactDoStep", fn := fun _ => fun
  | [d1, d2] => { results := [.lit (.bool false)], args := [d1, d2] }
  | _ => none }
def FnExactDoStepWrongFalsely : Prop := fnExactDoStepRow.holds Try.pinned (OpenSpec.ofChange fnExactDoStepWrong)

/-- 'laws.FnExactCollapse': WHATEVER THE INPUT: true; the input reads as it did. -/
def fnExactCollapseSpec : ChangeSpec := { name := "fnExactCollapse", fn := fun _ => fun
  | [d] => { results := [.lit (.bool true)], args := [d] }
  | _ => none }
def fnExactCollapseRow : OpenClaim := { program := "ytibjldngdhcpaaa", sum := "88e006ed2d856db152120390fc1123c319aeafa95aaf0b7d299d6c4c1b9b4454", func := "loop.example/structuredjumps/laws.FnExactCollapse", spec := "fnExactCollapse", inPlace := ["internal/bytealg.IndexByteString", "internal/bytealg.IndexString"], unfollowed := true, recurses := true, named := ["internal/bytealg.MaxLen"], apart := false }
def FnExactCollapseSaid : Prop := fnExactCollapseRow.holds Try.pinned (OpenSpec.ofChange fnExactCollapseSpec)

/-- ITS FALSE NEIGHBOUR: 'it returns false'. Refute it at one input. -/
def fnExactCollapseWrong : ChangeSpec := { name := "fnExactCollapse", fn := fun _ => fun
  | [d] => { results := [.lit (.bool false)], args := [d] }
  | _ => none }
def FnExactCollapseWrongFalsely : Prop := fnExactCollapseRow.holds Try.pinned (OpenSpec.ofChange fnExactCollapseWrong)

/-- 'laws.FnExactCollapseBy': WHATEVER THE INPUT: true; the input reads as it did. -/
def fnExactCollapseBySpec : ChangeSpec := { name := "fnExactCollapseBy", fn := fun _ => fun
  | [d1, d2] => { results := [.lit (.bool true)], args := [d1, d2] }
  | _ => none }
def fnExactCollapseByRow : OpenClaim := { program := "ytibjldngdhcpaaa", sum := "88e006ed2d856db152120390fc1123c319aeafa95aaf0b7d299d6c4c1b9b4454", func := "loop.example/structuredjumps/laws.FnExactCollapseBy", spec := "fnExactCollapseBy", inPlace := ["internal/bytealg.IndexByteString", "internal/bytealg.IndexString"], unfollowed := true, recurses := true, named := ["internal/bytealg.MaxLen"], apart := false }
def FnExactCollapseBySaid : Prop := fnExactCollapseByRow.holds Try.pinned (OpenSpec.ofChange fnExactCollapseBySpec)

/-- ITS FALSE NEIGHBOUR: 'it returns false'. Refute it at one input. -/
def fnExactCollapseByWrong : ChangeSpec := { name := "fnExactCollapseBy", fn := fun _ => fun
  | [d1, d2] => { results := [.lit (.bool false)], args := [d1, d2] }
  | _ => none }
def FnExactCollapseByWrongFalsely : Prop := fnExactCollapseByRow.holds Try.pinned (OpenSpec.ofChange fnExactCollapseByWrong)

/-- 'laws.FnExactCountSteps': WHATEVER THE INPUT: true; the input reads as it did. -/
def fnExactCountStepsSpec : ChangeSpec := { name := "fnExactCountSteps", fn := fun _ => fun
  | [d] => { results := [.lit (.bool true)], args := [d] }
  | _ => none }
def fnExactCountStepsRow : OpenClaim := { program := "ytibjldngdhcpaaa", sum := "88e006ed2d856db152120390fc1123c319aeafa95aaf0b7d299d6c4c1b9b4454", func := "loop.example/structuredjumps/laws.FnExactCountSteps", spec := "fnExactCountSteps", inPlace := ["internal/bytealg.IndexByteString", "internal/bytealg.IndexString"], unfollowed := true, recurses := true, named := ["internal/bytealg.MaxLen"], apart := false }
def FnExactCountStepsSaid : Prop := fnExactCountStepsRow.holds Try.pinned (OpenSpec.ofChange fnExactCountStepsSpec)

/-- ITS FALSE NEIGHBOUR: 'it returns false'. Refute it at one input. -/
def fnExactCountStepsWrong : ChangeSpec := { name := "fnExactCountSteps", fn := fun _ => fun
  | [d] => { results := [.lit (.bool false)], args := [d] }
  | _ => none }
def FnExactCountStepsWrongFalsely : Prop := fnExactCountStepsRow.holds Try.pinned (OpenSpec.ofChange fnExactCountStepsWrong)

/- THE SECOND FORM. 'bulk': how many values and letters a reading holds, each counted each time it is reached (what is shared counts as often as it is met; a slice's spare places count too). A statement '..UptoSaid' is the law's where the arguments, and the package variables that the reading takes, are together of bulk at most 1048576: NARROWER than '..Said'. Prove '..Said' where nothing that the law and all that it calls make is longer than what came in: it says more and counts as full. Else prove '..UptoSaid'. A law counts once. -/
mutual
def uptoBulk {H : Type} : DataW H → Nat
  | .lit (.string bytes) => bytes.length + 1
  | .lit _ => 1
  | .nil => 1
  | .ptr d => uptoBulk d + 1
  | .slice elems spare => uptoBulkAll elems + uptoBulkAll spare + 1
  | .agg parts => uptoBulkAll parts + 1
  | .iface _ d => uptoBulk d + 1
  | .map entries => uptoBulkEntries entries + 1
  | .held _ => 1
def uptoBulkAll {H : Type} : List (DataW H) → Nat
  | [] => 0
  | d :: r => uptoBulk d + uptoBulkAll r
def uptoBulkEntries {H : Type} : List (Lit × DataW H) → Nat
  | [] => 0
  | x :: r => uptoBulkEntry x + uptoBulkEntries r
def uptoBulkEntry {H : Type} : Lit × DataW H → Nat
  | (.string bytes, d) => bytes.length + uptoBulk d + 1
  | (_, d) => uptoBulk d + 1
 end
def uptoSmall : (H : Type) → List (DataW H) → Bool := fun _ ds => decide (uptoBulkAll ds ≤ 1048576)
def OpenSpec.upto (s : _root_.Go.ChangeSpec) : _root_.Go.OpenSpec := { _root_.Go.OpenSpec.ofChange s with cond := some uptoSmall }

/-- 'laws.FnExactKnotsValid', WHERE WHAT IT READS IS OF BULK AT MOST 1048576: true; the input reads as it did. -/
def fnExactKnotsValidUptoRow : OpenClaim := { program := "ytibjldngdhcpaaa", sum := "88e006ed2d856db152120390fc1123c319aeafa95aaf0b7d299d6c4c1b9b4454", func := "loop.example/structuredjumps/laws.FnExactKnotsValid", spec := "fnExactKnotsValid", inPlace := ["internal/bytealg.IndexByteString", "internal/bytealg.IndexString"], named := ["internal/bytealg.MaxLen"], apart := false, narrowed := true }
def FnExactKnotsValidUptoSaid : Prop := fnExactKnotsValidUptoRow.holds Try.pinned (OpenSpec.upto fnExactKnotsValidSpec)

/-- 'laws.FnExactKnotsOf', WHERE WHAT IT READS IS OF BULK AT MOST 1048576: true; the input reads as it did. -/
def fnExactKnotsOfUptoRow : OpenClaim := { program := "ytibjldngdhcpaaa", sum := "88e006ed2d856db152120390fc1123c319aeafa95aaf0b7d299d6c4c1b9b4454", func := "loop.example/structuredjumps/laws.FnExactKnotsOf", spec := "fnExactKnotsOf", inPlace := ["internal/bytealg.IndexByteString", "internal/bytealg.IndexString"], unfollowed := true, recurses := true, named := ["internal/bytealg.MaxLen"], apart := false, narrowed := true }
def FnExactKnotsOfUptoSaid : Prop := fnExactKnotsOfUptoRow.holds Try.pinned (OpenSpec.upto fnExactKnotsOfSpec)

/-- 'laws.FnExactFormatKnots', WHERE WHAT IT READS IS OF BULK AT MOST 1048576: true; the input reads as it did. -/
def fnExactFormatKnotsUptoRow : OpenClaim := { program := "ytibjldngdhcpaaa", sum := "88e006ed2d856db152120390fc1123c319aeafa95aaf0b7d299d6c4c1b9b4454", func := "loop.example/structuredjumps/laws.FnExactFormatKnots", spec := "fnExactFormatKnots", inPlace := ["internal/abi.NoEscape", "internal/bytealg.MakeNoZero"], apart := false, narrowed := true }
def FnExactFormatKnotsUptoSaid : Prop := fnExactFormatKnotsUptoRow.holds Try.pinned (OpenSpec.upto fnExactFormatKnotsSpec)

/-- 'laws.FnExactStepsOf', WHERE WHAT IT READS IS OF BULK AT MOST 1048576: true; the input reads as it did. -/
def fnExactStepsOfUptoRow : OpenClaim := { program := "ytibjldngdhcpaaa", sum := "88e006ed2d856db152120390fc1123c319aeafa95aaf0b7d299d6c4c1b9b4454", func := "loop.example/structuredjumps/laws.FnExactStepsOf", spec := "fnExactStepsOf", inPlace := ["internal/bytealg.IndexByteString", "internal/bytealg.IndexString"], unfollowed := true, recurses := true, named := ["internal/bytealg.MaxLen"], apart := false, narrowed := true }
def FnExactStepsOfUptoSaid : Prop := fnExactStepsOfUptoRow.holds Try.pinned (OpenSpec.upto fnExactStepsOfSpec)

/-- 'laws.FnExactDoStep', WHERE WHAT IT READS IS OF BULK AT MOST 1048576: true; the input reads as it did. -/
def fnExactDoStepUptoRow : OpenClaim := { program := "ytibjldngdhcpaaa", sum := "88e006ed2d856db152120390fc1123c319aeafa95aaf0b7d299d6c4c1b9b4454", func := "loop.example/structuredjumps/laws.FnExactDoStep", spec := "fnExactDoStep", inPlace := ["internal/bytealg.IndexByteString", "internal/bytealg.IndexString"], unfollowed := true, recurses := true, named := ["internal/bytealg.MaxLen"], apart := false, narrowed := true }
def FnExactDoStepUptoSaid : Prop := fnExactDoStepUptoRow.holds Try.pinned (OpenSpec.upto fnExactDoStepSpec)

/-- 'laws.FnExactCollapse', WHERE WHAT IT READS IS OF BULK AT MOST 1048576: true; the input reads as it did. -/
def fnExactCollapseUptoRow : OpenClaim := { program := "ytibjldngdhcpaaa", sum := "88e006ed2d856db152120390fc1123c319aeafa95aaf0b7d299d6c4c1b9b4454", func := "loop.example/structuredjumps/laws.FnExactCollapse", spec := "fnExactCollapse", inPlace := ["internal/bytealg.IndexByteString", "internal/bytealg.IndexString"], unfollowed := true, recurses := true, named := ["internal/bytealg.MaxLen"], apart := false, narrowed := true }
def FnExactCollapseUptoSaid : Prop := fnExactCollapseUptoRow.holds Try.pinned (OpenSpec.upto fnExactCollapseSpec)

/-- 'laws.FnExactCollapseBy', WHERE WHAT IT READS IS OF BULK AT MOST 1048576: true; the input reads as it did. -/
def fnExactCollapseByUptoRow : OpenClaim := { program := "ytibjldngdhcpaaa", sum := "88e006ed2d856db152120390fc1123c319aeafa95aaf0b7d299d6c4c1b9b4454", func := "loop.example/structuredjumps/laws.FnExactCollapseBy", spec := "fnExactCollapseBy", inPlace := ["internal/bytealg.IndexByteString", "internal/bytealg.IndexString"], unfollowed := true, recurses := true, named := ["internal/bytealg.MaxLen"], apart := false, narrowed := true }
def FnExactCollapseByUptoSaid : Prop := fnExactCollapseByUptoRow.holds Try.pinned (OpenSpec.upto fnExactCollapseBySpec)

/-- 'laws.FnExactCountSteps', WHERE WHAT IT READS IS OF BULK AT MOST 1048576: true; the input reads as it did. -/
def fnExactCountStepsUptoRow : OpenClaim := { program := "ytibjldngdhcpaaa", sum := "88e006ed2d856db152120390fc1123c319aeafa95aaf0b7d299d6c4c1b9b4454", func := "loop.example/structuredjumps/laws.FnExactCountSteps", spec := "fnExactCountSteps", inPlace := ["internal/bytealg.IndexByteString", "internal/bytealg.IndexString"], unfollowed := true, recurses := true, named := ["internal/bytealg.MaxLen"], apart := false, narrowed := true }
def FnExactCountStepsUptoSaid : Prop := fnExactCountStepsUptoRow.holds Try.pinned (OpenSpec.upto fnExactCountStepsSpec)

end Rows
end Go.Proofs.Ytibjldngdhcpaaa
