/-
  No cell of these rows narrows 'for every input' (looked for: loops, veiled, ifaces, maps, wideKeys, modest, calm, conditions, laid).
  DERIVED. THE GIVEN ROWS OF THIS SEAT. 10 by the template 'for every input the law returns true; each argument reads behind the call as it read before'; 0 by the template 'total and deterministic' (their statements: YtdgomlbllpjboaaTotals.lean).
  GIVEN WITH THE SEED: the statements are not yours to turn. If you find one false, say at which input.
  Laid BY PROGRAM, IN A SANDBOX (cutbox-rows.mjs): the forced cells as the released guide's own fill.sh prints them over the translation b094bc26b8731cf6… (all of the seat's roots in one cut). By AI agents, Wed Nov 11 2026. No macro, syntax, notation, axiom, sorry.
-/
import Derived.Test.YtdgomlbllpjboaaChecked
import GoSem.Claim
import GoSem.ClaimJoined
import GoSem.ClaimMapViews
import Derived.JoinedTies
import Derived.KernelRfl
namespace Go.Proofs.Ytdgomlbllpjboaa
/- THE CELL 'sum', in the pinned program and in every row, IS THE sha256 OF THE DUMP (.gsa) THAT YtdgomlbllpjboaaProg.lean LOADS. Nothing in Lean hashes anything: it is a label: what it is worth is what the hold of that sum in a sandbox is worth. -/
noncomputable def Try.pinned : Pinned := { name := "ytdgomlbllpjboaa", sum := "b094bc26b8731cf67a7a2c3c1ae1122a16acb4ad78ec15d3225ac7677c339719", checked := Try.checked }
namespace Rows
def none {H : Type} : Left H := { results := [], args := [] }

/-- 'laws.FnNextPrev': WHATEVER THE INPUT: true; the input reads as it did. -/
def fnNextPrevSpec : ChangeSpec := { name := "fnNextPrev", fn := fun _ => fun
  | [d] => { results := [.lit (.bool true)], args := [d] }
  | _ => none }
def fnNextPrevRow : OpenClaim := { program := "ytdgomlbllpjboaa", sum := "b094bc26b8731cf67a7a2c3c1ae1122a16acb4ad78ec15d3225ac7677c339719", func := "loop.example/structuredjumps/laws.FnNextPrev", spec := "fnNextPrev", inPlace := ["internal/bytealg.IndexByteString", "internal/bytealg.IndexString", "internal/abi.NoEscape"], unfollowed := true, recurses := true, named := ["internal/bytealg.MaxLen"], apart := false }
def FnNextPrevSaid : Prop := fnNextPrevRow.holds Try.pinned (OpenSpec.ofChange fnNextPrevSpec)

/-- ITS FALSE NEIGHBOUR: 'it returns false'. Refute it at one input. -/
def fnNextPrevWrong : ChangeSpec := { name := "fnNextPrev", fn := fun _ => fun
  | [d] => { results := [.lit (.bool false)], args := [d] }
  | _ => none }
def FnNextPrevWrongFalsely : Prop := fnNextPrevRow.holds Try.pinned (OpenSpec.ofChange fnNextPrevWrong)

/-- 'laws.FnReached': WHATEVER THE INPUT: true; the input reads as it did. -/
def fnReachedSpec : ChangeSpec := { name := "fnReached", fn := fun _ => fun
  | [d] => { results := [.lit (.bool true)], args := [d] }
  | _ => none }
def fnReachedRow : OpenClaim := { program := "ytdgomlbllpjboaa", sum := "b094bc26b8731cf67a7a2c3c1ae1122a16acb4ad78ec15d3225ac7677c339719", func := "loop.example/structuredjumps/laws.FnReached", spec := "fnReached", inPlace := ["internal/bytealg.IndexByteString", "internal/bytealg.IndexString", "internal/abi.NoEscape"], unfollowed := true, recurses := true, named := ["internal/bytealg.MaxLen"], apart := false }
def FnReachedSaid : Prop := fnReachedRow.holds Try.pinned (OpenSpec.ofChange fnReachedSpec)

/-- ITS FALSE NEIGHBOUR: 'it returns false'. Refute it at one input. -/
def fnReachedWrong : ChangeSpec := { name := "fnReached", fn := fun _ => fun
  | [d] => { results := [.lit (.bool false)], args := [d] }
  | _ => none }
def FnReachedWrongFalsely : Prop := fnReachedRow.holds Try.pinned (OpenSpec.ofChange fnReachedWrong)

/-- 'laws.FnPruneTwice': WHATEVER THE INPUT: true; the input reads as it did. -/
def fnPruneTwiceSpec : ChangeSpec := { name := "fnPruneTwice", fn := fun _ => fun
  | [d] => { results := [.lit (.bool true)], args := [d] }
  | _ => none }
def fnPruneTwiceRow : OpenClaim := { program := "ytdgomlbllpjboaa", sum := "b094bc26b8731cf67a7a2c3c1ae1122a16acb4ad78ec15d3225ac7677c339719", func := "loop.example/structuredjumps/laws.FnPruneTwice", spec := "fnPruneTwice", inPlace := ["internal/bytealg.IndexByteString", "internal/bytealg.IndexString", "internal/abi.NoEscape"], unfollowed := true, recurses := true, named := ["internal/bytealg.MaxLen"], apart := false }
def FnPruneTwiceSaid : Prop := fnPruneTwiceRow.holds Try.pinned (OpenSpec.ofChange fnPruneTwiceSpec)

/-- ITS FALSE NEIGHBOUR: 'it returns false'. Refute it at one input. -/
def fnPruneTwiceWrong : ChangeSpec := { name := "fnPruneTwice", fn := fun _ => fun
  | [d] => { results := [.lit (.bool false)], args := [d] }
  | _ => none }
def FnPruneTwiceWrongFalsely : Prop := fnPruneTwiceRow.holds Try.pinned (OpenSpec.ofChange fnPruneTwiceWrong)

/-- 'laws.FnCountJumps': WHATEVER THE INPUT: true; the input reads as it did. -/
def fnCountJumpsSpec : ChangeSpec := { name := "fnCountJumps", fn := fun _ => fun
  | [d] => { results := [.lit (.bool true)], args := [d] }
  | _ => none }
def fnCountJumpsRow : OpenClaim := { program := "ytdgomlbllpjboaa", sum := "b094bc26b8731cf67a7a2c3c1ae1122a16acb4ad78ec15d3225ac7677c339719", func := "loop.example/structuredjumps/laws.FnCountJumps", spec := "fnCountJumps", inPlace := ["internal/bytealg.IndexByteString", "internal/bytealg.IndexString", "internal/abi.NoEscape"], unfollowed := true, recurses := true, named := ["internal/bytealg.MaxLen"], apart := false }
def FnCountJumpsSaid : Prop := fnCountJumpsRow.holds Try.pinned (OpenSpec.ofChange fnCountJumpsSpec)

/-- ITS FALSE NEIGHBOUR: 'it returns false'. Refute it at one input. -/
def fnCountJumpsWrong : ChangeSpec := { name := "fnCountJumps", fn := fun _ => fun
  | [d] => { results := [.lit (.bool false)], args := [d] }
  | _ => none }
def FnCountJumpsWrongFalsely : Prop := fnCountJumpsRow.holds Try.pinned (OpenSpec.ofChange fnCountJumpsWrong)

/-- 'laws.FnLeastReached': WHATEVER THE INPUT: true; the input reads as it did. -/
def fnLeastReachedSpec : ChangeSpec := { name := "fnLeastReached", fn := fun _ => fun
  | [d1, d2] => { results := [.lit (.bool true)], args := [d1, d2] }
  | _ => none }
def fnLeastReachedRow : OpenClaim := { program := "ytdgomlbllpjboaa", sum := "b094bc26b8731cf67a7a2c3c1ae1122a16acb4ad78ec15d3225ac7677c339719", func := "loop.example/structuredjumps/laws.FnLeastReached", spec := "fnLeastReached", inPlace := ["internal/bytealg.IndexByteString", "internal/bytealg.IndexString", "internal/abi.NoEscape"], unfollowed := true, recurses := true, named := ["internal/bytealg.MaxLen"], apart := false }
def FnLeastReachedSaid : Prop := fnLeastReachedRow.holds Try.pinned (OpenSpec.ofChange fnLeastReachedSpec)

/-- ITS FALSE NEIGHBOUR: 'it returns false'. Refute it at one input. -/
def fnLeastReachedWrong : ChangeSpec := { name := "fnLeastReached", fn := fun _ => fun
  | [d1, d2] => { results := [.lit (.bool false)], args := [d1, d2] }
  | _ => none }
def FnLeastReachedWrongFalsely : Prop := fnLeastReachedRow.holds Try.pinned (OpenSpec.ofChange fnLeastReachedWrong)

/-- 'laws.FnTextsDiffer': WHATEVER THE INPUT: true; the input reads as it did. -/
def fnTextsDifferSpec : ChangeSpec := { name := "fnTextsDiffer", fn := fun _ => fun
  | [d1, d2] => { results := [.lit (.bool true)], args := [d1, d2] }
  | _ => none }
def fnTextsDifferRow : OpenClaim := { program := "ytdgomlbllpjboaa", sum := "b094bc26b8731cf67a7a2c3c1ae1122a16acb4ad78ec15d3225ac7677c339719", func := "loop.example/structuredjumps/laws.FnTextsDiffer", spec := "fnTextsDiffer", inPlace := ["internal/bytealg.IndexByteString", "internal/bytealg.IndexString", "internal/abi.NoEscape", "internal/bytealg.MakeNoZero"], unfollowed := true, recurses := true, named := ["internal/bytealg.MaxLen"], apart := false }
def FnTextsDifferSaid : Prop := fnTextsDifferRow.holds Try.pinned (OpenSpec.ofChange fnTextsDifferSpec)

/-- ITS FALSE NEIGHBOUR: 'it returns false'. Refute it at one input. -/
def fnTextsDifferWrong : ChangeSpec := { name := "fnTextsDiffer", fn := fun _ => fun
  | [d1, d2] => { results := [.lit (.bool false)], args := [d1, d2] }
  | _ => none }
def FnTextsDifferWrongFalsely : Prop := fnTextsDifferRow.holds Try.pinned (OpenSpec.ofChange fnTextsDifferWrong)

/-- 'laws.FnExactGraphValid': WHATEVER THE INPUT: true; the input reads as it did. -/
def fnExactGraphValidSpec : ChangeSpec := { name := "fnExactGraphValid", fn := fun _ => fun
  | [d] => { results := [.lit (.bool true)], args := [d] }
  | _ => none }
def fnExactGraphValidRow : OpenClaim := { program := "ytdgomlbllpjboaa", sum := "b094bc26b8731cf67a7a2c3c1ae1122a16acb4ad78ec15d3225ac7677c339719", func := "loop.example/structuredjumps/laws.FnExactGraphValid", spec := "fnExactGraphValid", inPlace := ["internal/bytealg.IndexByteString", "internal/bytealg.IndexString"], named := ["internal/bytealg.MaxLen"], apart := false }
def FnExactGraphValidSaid : Prop := fnExactGraphValidRow.holds Try.pinned (OpenSpec.ofChange fnExactGraphValidSpec)

/-- ITS FALSE NEIGHBOUR: 'it returns false'. Refute it at one input. -/
def fnExactGraphValidWrong : ChangeSpec := { name := "fnExactGraphValid", fn := fun _ => fun
  | [d] => { results := [.lit (.bool false)], args := [d] }
  | _ => none }
def FnExactGraphValidWrongFalsely : Prop := fnExactGraphValidRow.holds Try.pinned (OpenSpec.ofChange fnExactGraphValidWrong)

/-- 'laws.FnExactFormatGraph': WHATEVER THE INPUT: true; the input reads as it did. -/
def fnExactFormatGraphSpec : ChangeSpec := { name := "fnExactFormatGraph", fn := fun _ => fun
  | [d] => { results := [.lit (.bool true)], args := [d] }
  | _ => none }
def fnExactFormatGraphRow : OpenClaim := { program := "ytdgomlbllpjboaa", sum := "b094bc26b8731cf67a7a2c3c1ae1122a16acb4ad78ec15d3225ac7677c339719", func := "loop.example/structuredjumps/laws.FnExactFormatGraph", spec := "fnExactFormatGraph", inPlace := ["internal/bytealg.IndexByteString", "internal/bytealg.IndexString", "internal/abi.NoEscape", "internal/bytealg.MakeNoZero"], unfollowed := true, recurses := true, named := ["internal/bytealg.MaxLen"], apart := false }
def FnExactFormatGraphSaid : Prop := fnExactFormatGraphRow.holds Try.pinned (OpenSpec.ofChange fnExactFormatGraphSpec)

/-- ITS FALSE NEIGHBOUR: 'it returns false'. Refute it at one input. -/
def fnExactFormatGraphWrong : ChangeSpec := { name := "fnExactFormatGraph", fn := fun _ => fun
  | [d] => { results := [.lit (.bool false)], args := [d] }
  | _ => none }
def FnExactFormatGraphWrongFalsely : Prop := fnExactFormatGraphRow.holds Try.pinned (OpenSpec.ofChange fnExactFormatGraphWrong)

/-- 'laws.FnExactNamesOf': WHATEVER THE INPUT: true; the input reads as it did. -/
def fnExactNamesOfSpec : ChangeSpec := { name := "fnExactNamesOf", fn := fun _ => fun
  | [d] => { results := [.lit (.bool true)], args := [d] }
  | _ => none }
def fnExactNamesOfRow : OpenClaim := { program := "ytdgomlbllpjboaa", sum := "b094bc26b8731cf67a7a2c3c1ae1122a16acb4ad78ec15d3225ac7677c339719", func := "loop.example/structuredjumps/laws.FnExactNamesOf", spec := "fnExactNamesOf", inPlace := ["internal/bytealg.IndexByteString", "internal/bytealg.IndexString", "internal/abi.NoEscape"], named := ["internal/bytealg.MaxLen"], apart := false }
def FnExactNamesOfSaid : Prop := fnExactNamesOfRow.holds Try.pinned (OpenSpec.ofChange fnExactNamesOfSpec)

/-- ITS FALSE NEIGHBOUR: 'it returns false'. Refute it at one input. -/
def fnExactNamesOfWrong : ChangeSpec := { name := "fnExactNamesOf", fn := fun _ => fun
  | [d] => { results := [.lit (.bool false)], args := [d] }
  | _ => none }
def FnExactNamesOfWrongFalsely : Prop := fnExactNamesOfRow.holds Try.pinned (OpenSpec.ofChange fnExactNamesOfWrong)

/-- 'laws.FnExactNextOf': WHATEVER THE INPUT: true; the input reads as it did. -/
def fnExactNextOfSpec : ChangeSpec := { name := "fnExactNextOf", fn := fun _ => fun
  | [d1, d2] => { results := [.lit (.bool true)], args := [d1, d2] }
  | _ => none }
def fnExactNextOfRow : OpenClaim := { program := "ytdgomlbllpjboaa", sum := "b094bc26b8731cf67a7a2c3c1ae1122a16acb4ad78ec15d3225ac7677c339719", func := "loop.example/structuredjumps/laws.FnExactNextOf", spec := "fnExactNextOf", inPlace := ["internal/bytealg.IndexByteString", "internal/bytealg.IndexString", "internal/abi.NoEscape"], unfollowed := true, recurses := true, named := ["internal/bytealg.MaxLen"], apart := false }
def FnExactNextOfSaid : Prop := fnExactNextOfRow.holds Try.pinned (OpenSpec.ofChange fnExactNextOfSpec)

/-- ITS FALSE NEIGHBOUR: 'it returns false'. Refute it at one input. -/
def fnExactNextOfWrong : ChangeSpec := { name := "fnExactNextOf", fn := fun _ => fun
  | [d1, d2] => { results := [.lit (.bool false)], args := [d1, d2] }
  | _ => none }
def FnExactNextOfWrongFalsely : Prop := fnExactNextOfRow.holds Try.pinned (OpenSpec.ofChange fnExactNextOfWrong)

/- THE SECOND FORM. 'bulk': how many values and letters a reading holds, each counted each time it is reached (what is shared counts as often as it is met; a slice's spare places count too). A statement '..UptoSaid' is the law's where the arguments, and the package variables that the reading takes, are together of bulk at most 1048576: NARROWER than '..Said'. Prove '..Said' where nothing that the law and all that it calls make is longer than what came in: it says more and counts as full. Else prove '..UptoSaid'. A law counts once. -/
mutual
def uptoBulk {H : Type} : DataW H → Nat
  | .lit (.string bytes) => bytes.length + 1
  | .lit _ => 1
  | .nil => 1
  | .ptr d => uptoBulk d + 1
  | .slice elems spare => uptoBulkAll elems + uptoBulkAll spare + 1
  | .agg parts => uptoBulkAll parts + 1
  | .iface _ d => uptoBulk d + 1
  | .map entries => uptoBulkEntries entries + 1
  | .held _ => 1
def uptoBulkAll {H : Type} : List (DataW H) → Nat
  | [] => 0
  | d :: r => uptoBulk d + uptoBulkAll r
def uptoBulkEntries {H : Type} : List (Lit × DataW H) → Nat
  | [] => 0
  | x :: r => uptoBulkEntry x + uptoBulkEntries r
def uptoBulkEntry {H : Type} : Lit × DataW H → Nat
  | (.string bytes, d) => bytes.length + uptoBulk d + 1
  | (_, d) => uptoBulk d + 1
 end
def uptoSmall : (H : Type) → List (DataW H) → Bool := fun _ ds => decide (uptoBulkAll ds ≤ 1048576)
def OpenSpec.upto (s : _root_.Go.ChangeSpec) : _root_.Go.OpenSpec := { _root_.Go.OpenSpec.ofChange s with cond := some uptoSmall }

/-- 'laws.FnNextPrev', WHERE WHAT IT READS IS OF BULK AT MOST 1048576: true; the input reads as it did. -/
def fnNextPrevUptoRow : OpenClaim := { program := "ytdgomlbllpjboaa", sum := "b094bc26b8731cf67a7a2c3c1ae1122a16acb4ad78ec15d3225ac7677c339719", func := "loop.example/structuredjumps/laws.FnNextPrev", spec := "fnNextPrev", inPlace := ["internal/bytealg.IndexByteString", "internal/bytealg.IndexString", "internal/abi.NoEscape"], unfollowed := true, recurses := true, named := ["internal/bytealg.MaxLen"], apart := false, narrowed := true }
def FnNextPrevUptoSaid : Prop := fnNextPrevUptoRow.holds Try.pinned (OpenSpec.upto fnNextPrevSpec)

/-- 'laws.FnReached', WHERE WHAT IT READS IS OF BULK AT MOST 1048576: true; the input reads as it did. -/
def fnReachedUptoRow : OpenClaim := { program := "ytdgomlbllpjboaa", sum := "b094bc26b8731cf67a7a2c3c1ae1122a16acb4ad78ec15d3225ac7677c339719", func := "loop.example/structuredjumps/laws.FnReached", spec := "fnReached", inPlace := ["internal/bytealg.IndexByteString", "internal/bytealg.IndexString", "internal/abi.NoEscape"], unfollowed := true, recurses := true, named := ["internal/bytealg.MaxLen"], apart := false, narrowed := true }
def FnReachedUptoSaid : Prop := fnReachedUptoRow.holds Try.pinned (OpenSpec.upto fnReachedSpec)

/-- 'laws.FnPruneTwice', WHERE WHAT IT READS IS OF BULK AT MOST 1048576: true; the input reads as it did. -/
def fnPruneTwiceUptoRow : OpenClaim := { program := "ytdgomlbllpjboaa", sum := "b094bc26b8731cf67a7a2c3c1ae1122a16acb4ad78ec15d3225ac7677c339719", func := "loop.example/structuredjumps/laws.FnPruneTwice", spec := "fnPruneTwice", inPlace := ["internal/bytealg.IndexByteString", "internal/bytealg.IndexString", "internal/abi.NoEscape"], unfollowed := true, recurses := true, named := ["internal/bytealg.MaxLen"], apart := false, narrowed := true }
def FnPruneTwiceUptoSaid : Prop := fnPruneTwiceUptoRow.holds Try.pinned (OpenSpec.upto fnPruneTwiceSpec)

/-- 'laws.FnCountJumps', WHERE WHAT IT READS IS OF BULK AT MOST 1048576: true; the input reads as it did. -/
def fnCountJumpsUptoRow : OpenClaim := { program := "ytdgomlbllpjboaa", sum := "b094bc26b8731cf67a7a2c3c1ae1122a16acb4ad78ec15d3225ac7677c339719", func := "loop.example/structuredjumps/laws.FnCountJumps", spec := "fnCountJumps", inPlace := ["internal/bytealg.IndexByteString", "internal/bytealg.IndexString", "internal/abi.NoEscape"], unfollowed := true, recurses := true, named := ["internal/bytealg.MaxLen"], apart := false, narrowed := true }
def FnCountJumpsUptoSaid : Prop := fnCountJumpsUptoRow.holds Try.pinned (OpenSpec.upto fnCountJumpsSpec)

/-- 'laws.FnLeastReached', WHERE WHAT IT READS IS OF BULK AT MOST 1048576: true; the input reads as it did. -/
def fnLeastReachedUptoRow : OpenClaim := { program := "ytdgomlbllpjboaa", sum := "b094bc26b8731cf67a7a2c3c1ae1122a16acb4ad78ec15d3225ac7677c339719", func := "loop.example/structuredjumps/laws.FnLeastReached", spec := "fnLeastReached", inPlace := ["internal/bytealg.IndexByteString", "internal/bytealg.IndexString", "internal/abi.NoEscape"], unfollowed := true, recurses := true, named := ["internal/bytealg.MaxLen"], apart := false, narrowed := true }
def FnLeastReachedUptoSaid : Prop := fnLeastReachedUptoRow.holds Try.pinned (OpenSpec.upto fnLeastReachedSpec)

/-- 'laws.FnTextsDiffer', WHERE WHAT IT READS IS OF BULK AT MOST 1048576: true; the input reads as it did. -/
def fnTextsDifferUptoRow : OpenClaim := { program := "ytdgomlbllpjboaa", sum := "b094bc26b8731cf67a7a2c3c1ae1122a16acb4ad78ec15d3225ac7677c339719", func := "loop.example/structuredjumps/laws.FnTextsDiffer", spec := "fnTextsDiffer", inPlace := ["internal/bytealg.IndexByteString", "internal/bytealg.IndexString", "internal/abi.NoEscape", "internal/bytealg.MakeNoZero"], unfollowed := true, recurses := true, named := ["internal/bytealg.MaxLen"], apart := false, narrowed := true }
def FnTextsDifferUptoSaid : Prop := fnTextsDifferUptoRow.holds Try.pinned (OpenSpec.upto fnTextsDifferSpec)

/-- 'laws.FnExactGraphValid', WHERE WHAT IT READS IS OF BULK AT MOST 1048576: true; the input reads as it did. -/
def fnExactGraphValidUptoRow : OpenClaim := { program := "ytdgomlbllpjboaa", sum := "b094bc26b8731cf67a7a2c3c1ae1122a16acb4ad78ec15d3225ac7677c339719", func := "loop.example/structuredjumps/laws.FnExactGraphValid", spec := "fnExactGraphValid", inPlace := ["internal/bytealg.IndexByteString", "internal/bytealg.IndexString"], named := ["internal/bytealg.MaxLen"], apart := false, narrowed := true }
def FnExactGraphValidUptoSaid : Prop := fnExactGraphValidUptoRow.holds Try.pinned (OpenSpec.upto fnExactGraphValidSpec)

/-- 'laws.FnExactFormatGraph', WHERE WHAT IT READS IS OF BULK AT MOST 1048576: true; the input reads as it did. -/
def fnExactFormatGraphUptoRow : OpenClaim := { program := "ytdgomlbllpjboaa", sum := "b094bc26b8731cf67a7a2c3c1ae1122a16acb4ad78ec15d3225ac7677c339719", func := "loop.example/structuredjumps/laws.FnExactFormatGraph", spec := "fnExactFormatGraph", inPlace := ["internal/bytealg.IndexByteString", "internal/bytealg.IndexString", "internal/abi.NoEscape", "internal/bytealg.MakeNoZero"], unfollowed := true, recurses := true, named := ["internal/bytealg.MaxLen"], apart := false, narrowed := true }
def FnExactFormatGraphUptoSaid : Prop := fnExactFormatGraphUptoRow.holds Try.pinned (OpenSpec.upto fnExactFormatGraphSpec)

/-- 'laws.FnExactNamesOf', WHERE WHAT IT READS IS OF BULK AT MOST 1048576: true; the input reads as it did. -/
def fnExactNamesOfUptoRow : OpenClaim := { program := "ytdgomlbllpjboaa", sum := "b094bc26b8731cf67a7a2c3c1ae1122a16acb4ad78ec15d3225ac7677c339719", func := "loop.example/structuredjumps/laws.FnExactNamesOf", spec := "fnExactNamesOf", inPlace := ["internal/bytealg.IndexByteString", "internal/bytealg.IndexString", "internal/abi.NoEscape"], named := ["internal/bytealg.MaxLen"], apart := false, narrowed := true }
def FnExactNamesOfUptoSaid : Prop := fnExactNamesOfUptoRow.holds Try.pinned (OpenSpec.upto fnExactNamesOfSpec)

/-- 'laws.FnExactNextOf', WHERE WHAT IT READS IS OF BULK AT MOST 1048576: true; the input reads as it did. -/
def fnExactNextOfUptoRow : OpenClaim := { program := "ytdgomlbllpjboaa", sum := "b094bc26b8731cf67a7a2c3c1ae1122a16acb4ad78ec15d3225ac7677c339719", func := "loop.example/structuredjumps/laws.FnExactNextOf", spec := "fnExactNextOf", inPlace := ["internal/bytealg.IndexByteString", "internal/bytealg.IndexString", "internal/abi.NoEscape"], unfollowed := true, recurses := true, named := ["internal/bytealg.MaxLen"], apart := false, narrowed := true }
def FnExactNextOfUptoSaid : Prop := fnExactNextOfUptoRow.holds Try.pinned (OpenSpec.upto fnExactNextOfSpec)

end Rows
end Go.Proofs.Ytdgomlbllpjboaa
