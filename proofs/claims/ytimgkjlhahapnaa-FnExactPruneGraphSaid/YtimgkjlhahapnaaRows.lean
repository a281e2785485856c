/-
  No cell of these rows narrows 'for every input' (looked for: loops, veiled, ifaces, maps, wideKeys, modest, calm, conditions, laid).
  DERIVED. THE GIVEN ROWS OF THIS SEAT. 11 by the template 'for every input the law returns true; each argument reads behind the call as it read before'; 0 by the template 'total and deterministic' (their statements: YtimgkjlhahapnaaTotals.lean).
  GIVEN WITH THE SEED: the statements are not yours to turn. If you find one false, say at which input.
  Laid BY PROGRAM, IN A SANDBOX (cutbox-rows.mjs): the forced cells as the released guide's own fill.sh prints them over the translation f1e8a3cd2f3d8dcd… (all of the seat's roots in one cut). By AI agents, Wed Nov 11 2026. No macro, syntax, notation, axiom, sorry.
-/
import Derived.Test.YtimgkjlhahapnaaChecked
import GoSem.Claim
import GoSem.ClaimJoined
import GoSem.ClaimMapViews
import Derived.JoinedTies
import Derived.KernelRfl
namespace Go.Proofs.Ytimgkjlhahapnaa
/- THE CELL 'sum', in the pinned program and in every row, IS THE sha256 OF THE DUMP (.gsa) THAT YtimgkjlhahapnaaProg.lean LOADS. Nothing in Lean hashes anything: it is a label: what it is worth is what the hold of that sum in a sandbox is worth. -/
noncomputable def Try.pinned : Pinned := { name := "ytimgkjlhahapnaa", sum := "f1e8a3cd2f3d8dcd7c565e166ca7ba86156e814c1b01567e55815de846614fea", checked := Try.checked }
namespace Rows
def none {H : Type} : Left H := { results := [], args := [] }

/-- 'laws.FnExactChoicesValid': WHATEVER THE INPUT: true; the input reads as it did. -/
def fnExactChoicesValidSpec : ChangeSpec := { name := "fnExactChoicesValid", fn := fun _ => fun
  | [d] => { results := [.lit (.bool true)], args := [d] }
  | _ => none }
def fnExactChoicesValidRow : OpenClaim := { program := "ytimgkjlhahapnaa", sum := "f1e8a3cd2f3d8dcd7c565e166ca7ba86156e814c1b01567e55815de846614fea", func := "loop.example/structuredjumps/laws.FnExactChoicesValid", spec := "fnExactChoicesValid", apart := false }
def FnExactChoicesValidSaid : Prop := fnExactChoicesValidRow.holds Try.pinned (OpenSpec.ofChange fnExactChoicesValidSpec)

/-- ITS FALSE NEIGHBOUR: 'it returns false'. Refute it at one input. -/
def fnExactChoicesValidWrong : ChangeSpec := { name := "fnExactChoicesValid", fn := fun _ => fun
  | [d] => { results := [.lit (.bool false)], args := [d] }
  | _ => none }
def FnExactChoicesValidWrongFalsely : Prop := fnExactChoicesValidRow.holds Try.pinned (OpenSpec.ofChange fnExactChoicesValidWrong)

/-- 'laws.FnExactIsTrace': WHATEVER THE INPUT: true; the input reads as it did. -/
def fnExactIsTraceSpec : ChangeSpec := { name := "fnExactIsTrace", fn := fun _ => fun
  | [d1, d2] => { results := [.lit (.bool true)], args := [d1, d2] }
  | _ => none }
def fnExactIsTraceRow : OpenClaim := { program := "ytimgkjlhahapnaa", sum := "f1e8a3cd2f3d8dcd7c565e166ca7ba86156e814c1b01567e55815de846614fea", func := "loop.example/structuredjumps/laws.FnExactIsTrace", spec := "fnExactIsTrace", inPlace := ["internal/bytealg.IndexByteString", "internal/bytealg.IndexString"], unfollowed := true, recurses := true, named := ["internal/bytealg.MaxLen"], apart := false }
def FnExactIsTraceSaid : Prop := fnExactIsTraceRow.holds Try.pinned (OpenSpec.ofChange fnExactIsTraceSpec)

/-- ITS FALSE NEIGHBOUR: 'it returns false'. Refute it at one input. -/
def fnExactIsTraceWrong : ChangeSpec := { name := "fnExactIsTrace", fn := fun _ => fun
  | [d1, d2] => { results := [.lit (.bool false)], args := [d1, d2] }
  | _ => none }
def FnExactIsTraceWrongFalsely : Prop := fnExactIsTraceRow.holds Try.pinned (OpenSpec.ofChange fnExactIsTraceWrong)

/-- 'laws.FnExactRunGraph': WHATEVER THE INPUT: true; the input reads as it did. -/
def fnExactRunGraphSpec : ChangeSpec := { name := "fnExactRunGraph", fn := fun _ => fun
  | [d1, d2] => { results := [.lit (.bool true)], args := [d1, d2] }
  | _ => none }
def fnExactRunGraphRow : OpenClaim := { program := "ytimgkjlhahapnaa", sum := "f1e8a3cd2f3d8dcd7c565e166ca7ba86156e814c1b01567e55815de846614fea", func := "loop.example/structuredjumps/laws.FnExactRunGraph", spec := "fnExactRunGraph", inPlace := ["internal/bytealg.IndexByteString", "internal/bytealg.IndexString"], unfollowed := true, recurses := true, named := ["internal/bytealg.MaxLen"], apart := false }
def FnExactRunGraphSaid : Prop := fnExactRunGraphRow.holds Try.pinned (OpenSpec.ofChange fnExactRunGraphSpec)

/-- ITS FALSE NEIGHBOUR: 'it returns false'. Refute it at one input. -/
def fnExactRunGraphWrong : ChangeSpec := { name := "fnExactRunGraph", fn := fun _ => fun
  | [d1, d2] => { results := [.lit (.bool false)], args := [d1, d2] }
  | _ => none }
def FnExactRunGraphWrongFalsely : Prop := fnExactRunGraphRow.holds Try.pinned (OpenSpec.ofChange fnExactRunGraphWrong)

/-- 'laws.FnExactReachedOf': WHATEVER THE INPUT: true; the input reads as it did. -/
def fnExactReachedOfSpec : ChangeSpec := { name := "fnExactReachedOf", fn := fun _ => fun
  | [d] => { results := [.lit (.bool true)], args := [d] }
  | _ => none }
def fnExactReachedOfRow : OpenClaim := { program := "ytimgkjlhahapnaa", sum := "f1e8a3cd2f3d8dcd7c565e166ca7ba86156e814c1b01567e55815de846614fea", func := "loop.example/structuredjumps/laws.FnExactReachedOf", spec := "fnExactReachedOf", inPlace := ["internal/bytealg.IndexByteString", "internal/bytealg.IndexString", "internal/abi.NoEscape"], unfollowed := true, recurses := true, named := ["internal/bytealg.MaxLen"], apart := false }
def FnExactReachedOfSaid : Prop := fnExactReachedOfRow.holds Try.pinned (OpenSpec.ofChange fnExactReachedOfSpec)

/-- ITS FALSE NEIGHBOUR: 'it returns false'. Refute it at one input. -/
def fnExactReachedOfWrong : ChangeSpec := { name := "fnExactReachedOf", fn := fun _ => fun
  | [d] => { results := [.lit (.bool false)], args := [d] }
  | _ => none }
def FnExactReachedOfWrongFalsely : Prop := fnExactReachedOfRow.holds Try.pinned (OpenSpec.ofChange fnExactReachedOfWrong)

/-- 'laws.FnExactPruneGraph': WHATEVER THE INPUT: true; the input reads as it did. -/
def fnExactPruneGraphSpec : ChangeSpec := { name := "fnExactPruneGraph", fn := fun _ => fun
  | [d] => { results := [.lit (.bool true)], args := [d] }
  | _ => none }
def fnExactPruneGraphRow : OpenClaim := { program := "ytimgkjlhahapnaa", sum := "f1e8a3cd2f3d8dcd7c565e166ca7ba86156e814c1b01567e55815de846614fea", func := "loop.example/structuredjumps/laws.FnExactPruneGraph", spec := "fnExactPruneGraph", inPlace := ["internal/bytealg.IndexByteString", "internal/bytealg.IndexString"], unfollowed := true, recurses := true, named := ["internal/bytealg.MaxLen"], apart := false }
def FnExactPruneGraphSaid : Prop := fnExactPruneGraphRow.holds Try.pinned (OpenSpec.ofChange fnExactPruneGraphSpec)

/-- ITS FALSE NEIGHBOUR: 'it returns false'. Refute it at one input. -/
def fnExactPruneGraphWrong : ChangeSpec := { name := "fnExactPruneGraph", fn := fun _ => fun
  | [d] => { results := [.lit (.bool false)], args := [d] }
  | _ => none }
def FnExactPruneGraphWrongFalsely : Prop := fnExactPruneGraphRow.holds Try.pinned (OpenSpec.ofChange fnExactPruneGraphWrong)

/-- 'laws.FnExactStopsWith': WHATEVER THE INPUT: true; the input reads as it did. -/
def fnExactStopsWithSpec : ChangeSpec := { name := "fnExactStopsWith", fn := fun _ => fun
  | [d] => { results := [.lit (.bool true)], args := [d] }
  | _ => none }
def fnExactStopsWithRow : OpenClaim := { program := "ytimgkjlhahapnaa", sum := "f1e8a3cd2f3d8dcd7c565e166ca7ba86156e814c1b01567e55815de846614fea", func := "loop.example/structuredjumps/laws.FnExactStopsWith", spec := "fnExactStopsWith", inPlace := ["internal/bytealg.IndexByteString", "internal/bytealg.IndexString"], unfollowed := true, recurses := true, named := ["internal/bytealg.MaxLen"], apart := false }
def FnExactStopsWithSaid : Prop := fnExactStopsWithRow.holds Try.pinned (OpenSpec.ofChange fnExactStopsWithSpec)

/-- ITS FALSE NEIGHBOUR: 'it returns false'. Refute it at one input. -/
def fnExactStopsWithWrong : ChangeSpec := { name := "fnExactStopsWith", fn := fun _ => fun
  | [d] => { results := [.lit (.bool false)], args := [d] }
  | _ => none }
def FnExactStopsWithWrongFalsely : Prop := fnExactStopsWithRow.holds Try.pinned (OpenSpec.ofChange fnExactStopsWithWrong)

/-- 'laws.FnExactCanStop': WHATEVER THE INPUT: true; the input reads as it did. -/
def fnExactCanStopSpec : ChangeSpec := { name := "fnExactCanStop", fn := fun _ => fun
  | [d] => { results := [.lit (.bool true)], args := [d] }
  | _ => none }
def fnExactCanStopRow : OpenClaim := { program := "ytimgkjlhahapnaa", sum := "f1e8a3cd2f3d8dcd7c565e166ca7ba86156e814c1b01567e55815de846614fea", func := "loop.example/structuredjumps/laws.FnExactCanStop", spec := "fnExactCanStop", inPlace := ["internal/bytealg.IndexByteString", "internal/bytealg.IndexString"], unfollowed := true, recurses := true, named := ["internal/bytealg.MaxLen"], apart := false }
def FnExactCanStopSaid : Prop := fnExactCanStopRow.holds Try.pinned (OpenSpec.ofChange fnExactCanStopSpec)

/-- ITS FALSE NEIGHBOUR: 'it returns false'. Refute it at one input. -/
def fnExactCanStopWrong : ChangeSpec := { name := "fnExactCanStop", fn := fun _ => fun
  | [d] => { results := [.lit (.bool false)], args := [d] }
  | _ => none }
def FnExactCanStopWrongFalsely : Prop := fnExactCanStopRow.holds Try.pinned (OpenSpec.ofChange fnExactCanStopWrong)

/-- 'laws.FnExactWayTo': WHATEVER THE INPUT: true; the input reads as it did. -/
def fnExactWayToSpec : ChangeSpec := { name := "fnExactWayTo", fn := fun _ => fun
  | [d1, d2] => { results := [.lit (.bool true)], args := [d1, d2] }
  | _ => none }
def fnExactWayToRow : OpenClaim := { program := "ytimgkjlhahapnaa", sum := "f1e8a3cd2f3d8dcd7c565e166ca7ba86156e814c1b01567e55815de846614fea", func := "loop.example/structuredjumps/laws.FnExactWayTo", spec := "fnExactWayTo", inPlace := ["internal/bytealg.IndexByteString", "internal/bytealg.IndexString"], unfollowed := true, recurses := true, named := ["internal/bytealg.MaxLen"], apart := false }
def FnExactWayToSaid : Prop := fnExactWayToRow.holds Try.pinned (OpenSpec.ofChange fnExactWayToSpec)

/-- ITS FALSE NEIGHBOUR: 'it returns false'. Refute it at one input. -/
def fnExactWayToWrong : ChangeSpec := { name := "fnExactWayTo", fn := fun _ => fun
  | [d1, d2] => { results := [.lit (.bool false)], args := [d1, d2] }
  | _ => none }
def FnExactWayToWrongFalsely : Prop := fnExactWayToRow.holds Try.pinned (OpenSpec.ofChange fnExactWayToWrong)

/-- 'laws.FnTextsDiffer': WHATEVER THE INPUT: true; the input reads as it did. -/
def fnTextsDifferSpec : ChangeSpec := { name := "fnTextsDiffer", fn := fun _ => fun
  | [d1, d2] => { results := [.lit (.bool true)], args := [d1, d2] }
  | _ => none }
def fnTextsDifferRow : OpenClaim := { program := "ytimgkjlhahapnaa", sum := "f1e8a3cd2f3d8dcd7c565e166ca7ba86156e814c1b01567e55815de846614fea", func := "loop.example/structuredjumps/laws.FnTextsDiffer", spec := "fnTextsDiffer", inPlace := ["internal/bytealg.IndexByteString", "internal/bytealg.IndexString", "internal/abi.NoEscape", "internal/bytealg.MakeNoZero"], unfollowed := true, recurses := true, named := ["internal/bytealg.MaxLen"], apart := false }
def FnTextsDifferSaid : Prop := fnTextsDifferRow.holds Try.pinned (OpenSpec.ofChange fnTextsDifferSpec)

/-- ITS FALSE NEIGHBOUR: 'it returns false'. Refute it at one input. -/
def fnTextsDifferWrong : ChangeSpec := { name := "fnTextsDiffer", fn := fun _ => fun
  | [d1, d2] => { results := [.lit (.bool false)], args := [d1, d2] }
  | _ => none }
def FnTextsDifferWrongFalsely : Prop := fnTextsDifferRow.holds Try.pinned (OpenSpec.ofChange fnTextsDifferWrong)

/-- 'laws.FnNextPrev': WHATEVER THE INPUT: true; the input reads as it did. -/
def fnNextPrevSpec : ChangeSpec := { name := "fnNextPrev", fn := fun _ => fun
  | [d] => { results := [.lit (.bool true)], args := [d] }
  | _ => none }
def fnNextPrevRow : OpenClaim := { program := "ytimgkjlhahapnaa", sum := "f1e8a3cd2f3d8dcd7c565e166ca7ba86156e814c1b01567e55815de846614fea", func := "loop.example/structuredjumps/laws.FnNextPrev", spec := "fnNextPrev", inPlace := ["internal/bytealg.IndexByteString", "internal/bytealg.IndexString", "internal/abi.NoEscape"], unfollowed := true, recurses := true, named := ["internal/bytealg.MaxLen"], apart := false }
def FnNextPrevSaid : Prop := fnNextPrevRow.holds Try.pinned (OpenSpec.ofChange fnNextPrevSpec)

/-- ITS FALSE NEIGHBOUR: 'it returns false'. Refute it at one input. -/
def fnNextPrevWrong : ChangeSpec := { name := "fnNextPrev", fn := fun _ => fun
  | [d] => { results := [.lit (.bool false)], args := [d] }
  | _ => none }
def FnNextPrevWrongFalsely : Prop := fnNextPrevRow.holds Try.pinned (OpenSpec.ofChange fnNextPrevWrong)

/-- 'laws.FnCountJumps': WHATEVER THE INPUT: true; the input reads as it did. -/
def fnCountJumpsSpec : ChangeSpec := { name := "fnCountJumps", fn := fun _ => fun
  | [d] => { results := [.lit (.bool true)], args := [d] }
  | _ => none }
def fnCountJumpsRow : OpenClaim := { program := "ytimgkjlhahapnaa", sum := "f1e8a3cd2f3d8dcd7c565e166ca7ba86156e814c1b01567e55815de846614fea", func := "loop.example/structuredjumps/laws.FnCountJumps", spec := "fnCountJumps", inPlace := ["internal/bytealg.IndexByteString", "internal/bytealg.IndexString", "internal/abi.NoEscape"], unfollowed := true, recurses := true, named := ["internal/bytealg.MaxLen"], apart := false }
def FnCountJumpsSaid : Prop := fnCountJumpsRow.holds Try.pinned (OpenSpec.ofChange fnCountJumpsSpec)

/-- ITS FALSE NEIGHBOUR: 'it returns false'. Refute it at one input. -/
def fnCountJumpsWrong : ChangeSpec := { name := "fnCountJumps", fn := fun _ => fun
  | [d] => { results := [.lit (.bool false)], args := [d] }
  | _ => none }
def FnCountJumpsWrongFalsely : Prop := fnCountJumpsRow.holds Try.pinned (OpenSpec.ofChange fnCountJumpsWrong)

/- THE SECOND FORM. 'bulk': how many values and letters a reading holds, each counted each time it is reached (what is shared counts as often as it is met; a slice's spare places count too). A statement '..UptoSaid' is the law's where the arguments, and the package variables that the reading takes, are together of bulk at most 1048576: NARROWER than '..Said'. Prove '..Said' where nothing that the law and all that it calls make is longer than what came in: it says more and counts as full. Else prove '..UptoSaid'. A law counts once. -/
mutual
def uptoBulk {H : Type} : DataW H → Nat
  | .lit (.string bytes) => bytes.length + 1
  | .lit _ => 1
  | .nil => 1
  | .ptr d => uptoBulk d + 1
  | .slice elems spare => uptoBulkAll elems + uptoBulkAll spare + 1
  | .agg parts => uptoBulkAll parts + 1
  | .iface _ d => uptoBulk d + 1
  | .map entries => uptoBulkEntries entries + 1
  | .held _ => 1
def uptoBulkAll {H : Type} : List (DataW H) → Nat
  | [] => 0
  | d :: r => uptoBulk d + uptoBulkAll r
def uptoBulkEntries {H : Type} : List (Lit × DataW H) → Nat
  | [] => 0
  | x :: r => uptoBulkEntry x + uptoBulkEntries r
def uptoBulkEntry {H : Type} : Lit × DataW H → Nat
  | (.string bytes, d) => bytes.length + uptoBulk d + 1
  | (_, d) => uptoBulk d + 1
 end
def uptoSmall : (H : Type) → List (DataW H) → Bool := fun _ ds => decide (uptoBulkAll ds ≤ 1048576)
def OpenSpec.upto (s : _root_.Go.ChangeSpec) : _root_.Go.OpenSpec := { _root_.Go.OpenSpec.ofChange s with cond := some uptoSmall }

/-- 'laws.FnExactChoicesValid', WHERE WHAT IT READS IS OF BULK AT MOST 1048576: true; the input reads as it did. -/
def fnExactChoicesValidUptoRow : OpenClaim := { program := "ytimgkjlhahapnaa", sum := "f1e8a3cd2f3d8dcd7c565e166ca7ba86156e814c1b01567e55815de846614fea", func := "loop.example/structuredjumps/laws.FnExactChoicesValid", spec := "fnExactChoicesValid", apart := false, narrowed := true }
def FnExactChoicesValidUptoSaid : Prop := fnExactChoicesValidUptoRow.holds Try.pinned (OpenSpec.upto fnExactChoicesValidSpec)

/-- 'laws.FnExactIsTrace', WHERE WHAT IT READS IS OF BULK AT MOST 1048576: true; the input reads as it did. -/
def fnExactIsTraceUptoRow : OpenClaim := { program := "ytimgkjlhahapnaa", sum := "f1e8a3cd2f3d8dcd7c565e166ca7ba86156e814c1b01567e55815de846614fea", func := "loop.example/structuredjumps/laws.FnExactIsTrace", spec := "fnExactIsTrace", inPlace := ["internal/bytealg.IndexByteString", "internal/bytealg.IndexString"], unfollowed := true, recurses := true, named := ["internal/bytealg.MaxLen"], apart := false, narrowed := true }
def FnExactIsTraceUptoSaid : Prop := fnExactIsTraceUptoRow.holds Try.pinned (OpenSpec.upto fnExactIsTraceSpec)

/-- 'laws.FnExactRunGraph', WHERE WHAT IT READS IS OF BULK AT MOST 1048576: true; the input reads as it did. -/
def fnExactRunGraphUptoRow : OpenClaim := { program := "ytimgkjlhahapnaa", sum := "f1e8a3cd2f3d8dcd7c565e166ca7ba86156e814c1b01567e55815de846614fea", func := "loop.example/structuredjumps/laws.FnExactRunGraph", spec := "fnExactRunGraph", inPlace := ["internal/bytealg.IndexByteString", "internal/bytealg.IndexString"], unfollowed := true, recurses := true, named := ["internal/bytealg.MaxLen"], apart := false, narrowed := true }
def FnExactRunGraphUptoSaid : Prop := fnExactRunGraphUptoRow.holds Try.pinned (OpenSpec.upto fnExactRunGraphSpec)

/-- 'laws.FnExactReachedOf', WHERE WHAT IT READS IS OF BULK AT MOST 1048576: true; the input reads as it did. -/
def fnExactReachedOfUptoRow : OpenClaim := { program := "ytimgkjlhahapnaa", sum := "f1e8a3cd2f3d8dcd7c565e166ca7ba86156e814c1b01567e55815de846614fea", func := "loop.example/structuredjumps/laws.FnExactReachedOf", spec := "fnExactReachedOf", inPlace := ["internal/bytealg.IndexByteString", "internal/bytealg.IndexString", "internal/abi.NoEscape"], unfollowed := true, recurses := true, named := ["internal/bytealg.MaxLen"], apart := false, narrowed := true }
def FnExactReachedOfUptoSaid : Prop := fnExactReachedOfUptoRow.holds Try.pinned (OpenSpec.upto fnExactReachedOfSpec)

/-- 'laws.FnExactPruneGraph', WHERE WHAT IT READS IS OF BULK AT MOST 1048576: true; the input reads as it did. -/
def fnExactPruneGraphUptoRow : OpenClaim := { program := "ytimgkjlhahapnaa", sum := "f1e8a3cd2f3d8dcd7c565e166ca7ba86156e814c1b01567e55815de846614fea", func := "loop.example/structuredjumps/laws.FnExactPruneGraph", spec := "fnExactPruneGraph", inPlace := ["internal/bytealg.IndexByteString", "internal/bytealg.IndexString"], unfollowed := true, recurses := true, named := ["internal/bytealg.MaxLen"], apart := false, narrowed := true }
def FnExactPruneGraphUptoSaid : Prop := fnExactPruneGraphUptoRow.holds Try.pinned (OpenSpec.upto fnExactPruneGraphSpec)

/-- 'laws.FnExactStopsWith', WHERE WHAT IT READS IS OF BULK AT MOST 1048576: true; the input reads as it did. -/
def fnExactStopsWithUptoRow : OpenClaim := { program := "ytimgkjlhahapnaa", sum := "f1e8a3cd2f3d8dcd7c565e166ca7ba86156e814c1b01567e55815de846614fea", func := "loop.example/structuredjumps/laws.FnExactStopsWith", spec := "fnExactStopsWith", inPlace := ["internal/bytealg.IndexByteString", "internal/bytealg.IndexString"], unfollowed := true, recurses := true, named := ["internal/bytealg.MaxLen"], apart := false, narrowed := true }
def FnExactStopsWithUptoSaid : Prop := fnExactStopsWithUptoRow.holds Try.pinned (OpenSpec.upto fnExactStopsWithSpec)

/-- 'laws.FnExactCanStop', WHERE WHAT IT READS IS OF BULK AT MOST 1048576: true; the input reads as it did. -/
def fnExactCanStopUptoRow : OpenClaim := { program := "ytimgkjlhahapnaa", sum := "f1e8a3cd2f3d8dcd7c565e166ca7ba86156e814c1b01567e55815de846614fea", func := "loop.example/structuredjumps/laws.FnExactCanStop", spec := "fnExactCanStop", inPlace := ["internal/bytealg.IndexByteString", "internal/bytealg.IndexString"], unfollowed := true, recurses := true, named := ["internal/bytealg.MaxLen"], apart := false, narrowed := true }
def FnExactCanStopUptoSaid : Prop := fnExactCanStopUptoRow.holds Try.pinned (OpenSpec.upto fnExactCanStopSpec)

/-- 'laws.FnExactWayTo', WHERE WHAT IT READS IS OF BULK AT MOST 1048576: true; the input reads as it did. -/
def fnExactWayToUptoRow : OpenClaim := { program := "ytimgkjlhahapnaa", sum := "f1e8a3cd2f3d8dcd7c565e166ca7ba86156e814c1b01567e55815de846614fea", func := "loop.example/structuredjumps/laws.FnExactWayTo", spec := "fnExactWayTo", inPlace := ["internal/bytealg.IndexByteString", "internal/bytealg.IndexString"], unfollowed := true, recurses := true, named := ["internal/bytealg.MaxLen"], apart := false, narrowed := true }
def FnExactWayToUptoSaid : Prop := fnExactWayToUptoRow.holds Try.pinned (OpenSpec.upto fnExactWayToSpec)

/-- 'laws.FnTextsDiffer', WHERE WHAT IT READS IS OF BULK AT MOST 1048576: true; the input reads as it did. -/
def fnTextsDifferUptoRow : OpenClaim := { program := "ytimgkjlhahapnaa", sum := "f1e8a3cd2f3d8dcd7c565e166ca7ba86156e814c1b01567e55815de846614fea", func := "loop.example/structuredjumps/laws.FnTextsDiffer", spec := "fnTextsDiffer", inPlace := ["internal/bytealg.IndexByteString", "internal/bytealg.IndexString", "internal/abi.NoEscape", "internal/bytealg.MakeNoZero"], unfollowed := true, recurses := true, named := ["internal/bytealg.MaxLen"], apart := false, narrowed := true }
def FnTextsDifferUptoSaid : Prop := fnTextsDifferUptoRow.holds Try.pinned (OpenSpec.upto fnTextsDifferSpec)

/-- 'laws.FnNextPrev', WHERE WHAT IT READS IS OF BULK AT MOST 1048576: true; the input reads as it did. -/
def fnNextPrevUptoRow : OpenClaim := { program := "ytimgkjlhahapnaa", sum := "f1e8a3cd2f3d8dcd7c565e166ca7ba86156e814c1b01567e55815de846614fea", func := "loop.example/structuredjumps/laws.FnNextPrev", spec := "fnNextPrev", inPlace := ["internal/bytealg.IndexByteString", "internal/bytealg.IndexString", "internal/abi.NoEscape"], unfollowed := true, recurses := true, named := ["internal/bytealg.MaxLen"], apart := false, narrowed := true }
def FnNextPrevUptoSaid : Prop := fnNextPrevUptoRow.holds Try.pinned (OpenSpec.upto fnNextPrevSpec)

/-- 'laws.FnCountJumps', WHERE WHAT IT READS IS OF BULK AT MOST 1048576: true; the input reads as it did. -/
def fnCountJumpsUptoRow : OpenClaim := { program := "ytimgkjlhahapnaa", sum := "f1e8a3cd2f3d8dcd7c565e166ca7ba86156e814c1b01567e55815de846614fea", func := "loop.example/structuredjumps/laws.FnCountJumps", spec := "fnCountJumps", inPlace := ["internal/bytealg.IndexByteString", "internal/bytealg.IndexString", "internal/abi.NoEscape"], unfollowed := true, recurses := true, named := ["internal/bytealg.MaxLen"], apart := false, narrowed := true }
def FnCountJumpsUptoSaid : Prop := fnCountJumpsUptoRow.holds Try.pinned (OpenSpec.upto fnCountJumpsSpec)

end Rows
end Go.Proofs.Ytimgkjlhahapnaa
