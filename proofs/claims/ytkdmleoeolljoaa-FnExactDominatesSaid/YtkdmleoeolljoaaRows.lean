/-
  No cell of these rows narrows 'for every input' (looked for: loops, veiled, ifaces, maps, wideKeys, modest, calm, conditions, laid).
  DERIVED. THE GIVEN ROWS OF THIS SEAT. 9 by the template 'for every input the law returns true; each argument reads behind the call as it read before'; 0 by the template 'total and deterministic' (their statements: YtkdmleoeolljoaaTotals.lean).
  GIVEN WITH THE SEED: the statements are not yours to turn. If you find one false, say at which input.
  Laid BY PROGRAM, IN A SANDBOX (cutbox-rows.mjs): the forced cells as the released guide's own fill.sh prints them over the translation d279194d260611b4… (all of the seat's roots in one cut). By AI agents, Wed Nov 11 2026. No macro, syntax, notation, axiom, sorry.
-/
import Derived.Test.YtkdmleoeolljoaaChecked
import GoSem.Claim
import GoSem.ClaimJoined
import GoSem.ClaimMapViews
import Derived.JoinedTies
import Derived.KernelRfl
namespace Go.Proofs.Ytkdmleoeolljoaa
/- THE CELL 'sum', in the pinned program and in every row, IS THE sha256 OF THE DUMP (.gsa) THAT YtkdmleoeolljoaaProg.lean LOADS. Nothing in Lean hashes anything: it is a label: what it is worth is what the hold of that sum in a sandbox is worth. -/
noncomputable def Try.pinned : Pinned := { name := "ytkdmleoeolljoaa", sum := "d279194d260611b41372371b4ca78b2a5fa177d829c0703aa88b79b479b6bdf2", checked := Try.checked }
namespace Rows
def none {H : Type} : Left H := { results := [], args := [] }

/-- 'laws.FnExactDominatorsOf': WHATEVER THE INPUT: true; the input reads as it did. -/
def fnExactDominatorsOfSpec : ChangeSpec := { name := "fnExactDominatorsOf", fn := fun _ => fun
  | [d1, d2] => { results := [.lit (.bool true)], args := [d1, d2] }
  | _ => none }
def fnExactDominatorsOfRow : OpenClaim := { program := "ytkdmleoeolljoaa", sum := "d279194d260611b41372371b4ca78b2a5fa177d829c0703aa88b79b479b6bdf2", func := "loop.example/structuredjumps/laws.FnExactDominatorsOf", spec := "fnExactDominatorsOf", inPlace := ["internal/bytealg.IndexByteString", "internal/bytealg.IndexString", "internal/abi.NoEscape"], unfollowed := true, recurses := true, named := ["internal/bytealg.MaxLen"], apart := false }
def FnExactDominatorsOfSaid : Prop := fnExactDominatorsOfRow.holds Try.pinned (OpenSpec.ofChange fnExactDominatorsOfSpec)

/-- ITS FALSE NEIGHBOUR: 'it returns false'. Refute it at one input. -/
def fnExactDominatorsOfWrong : ChangeSpec := { name := "fnExactDominatorsOf", fn := fun _ => fun
  | [d1, d2] => { results := [.lit (.bool false)], args := [d1, d2] }
  | _ => none }
def FnExactDominatorsOfWrongFalsely : Prop := fnExactDominatorsOfRow.holds Try.pinned (OpenSpec.ofChange fnExactDominatorsOfWrong)

/-- 'laws.FnExactDominates': WHATEVER THE INPUT: true; the input reads as it did. -/
def fnExactDominatesSpec : ChangeSpec := { name := "fnExactDominates", fn := fun _ => fun
  | [d1, d2, d3] => { results := [.lit (.bool true)], args := [d1, d2, d3] }
  | _ => none }
def fnExactDominatesRow : OpenClaim := { program := "ytkdmleoeolljoaa", sum := "d279194d260611b41372371b4ca78b2a5fa177d829c0703aa88b79b479b6bdf2", func := "loop.example/structuredjumps/laws.FnExactDominates", spec := "fnExactDominates", inPlace := ["internal/bytealg.IndexByteString", "internal/bytealg.IndexString"], unfollowed := true, recurses := true, named := ["internal/bytealg.MaxLen"], apart := false }
def FnExactDominatesSaid : Prop := fnExactDominatesRow.holds Try.pinned (OpenSpec.ofChange fnExactDominatesSpec)

/-- ITS FALSE NEIGHBOUR: 'it returns false'. Refute it at one input. -/
def fnExactDominatesWrong : ChangeSpec := { name := "fnExactDominates", fn := fun _ => fun
  | [d1, d2, d3] => { results := [.lit (.bool false)], args := [d1, d2, d3] }
  | _ => none }
def FnExactDominatesWrongFalsely : Prop := fnExactDominatesRow.holds Try.pinned (OpenSpec.ofChange fnExactDominatesWrong)

/-- 'laws.FnExactParentOf': WHATEVER THE INPUT: true; the input reads as it did. -/
def fnExactParentOfSpec : ChangeSpec := { name := "fnExactParentOf", fn := fun _ => fun
  | [d1, d2] => { results := [.lit (.bool true)], args := [d1, d2] }
  | _ => none }
def fnExactParentOfRow : OpenClaim := { program := "ytkdmleoeolljoaa", sum := "d279194d260611b41372371b4ca78b2a5fa177d829c0703aa88b79b479b6bdf2", func := "loop.example/structuredjumps/laws.FnExactParentOf", spec := "fnExactParentOf", inPlace := ["internal/bytealg.IndexByteString", "internal/bytealg.IndexString"], unfollowed := true, recurses := true, named := ["internal/bytealg.MaxLen"], apart := false }
def FnExactParentOfSaid : Prop := fnExactParentOfRow.holds Try.pinned (OpenSpec.ofChange fnExactParentOfSpec)

/-- ITS FALSE NEIGHBOUR: 'it returns false'. Refute it at one input. -/
def fnExactParentOfWrong : ChangeSpec := { name := "fnExactParentOf", fn := fun _ => fun
  | [d1, d2] => { results := [.lit (.bool false)], args := [d1, d2] }
  | _ => none }
def FnExactParentOfWrongFalsely : Prop := fnExactParentOfRow.holds Try.pinned (OpenSpec.ofChange fnExactParentOfWrong)

/-- 'laws.FnExactChildrenOf': WHATEVER THE INPUT: true; the input reads as it did. -/
def fnExactChildrenOfSpec : ChangeSpec := { name := "fnExactChildrenOf", fn := fun _ => fun
  | [d1, d2] => { results := [.lit (.bool true)], args := [d1, d2] }
  | _ => none }
def fnExactChildrenOfRow : OpenClaim := { program := "ytkdmleoeolljoaa", sum := "d279194d260611b41372371b4ca78b2a5fa177d829c0703aa88b79b479b6bdf2", func := "loop.example/structuredjumps/laws.FnExactChildrenOf", spec := "fnExactChildrenOf", inPlace := ["internal/bytealg.IndexByteString", "internal/bytealg.IndexString", "internal/abi.NoEscape"], unfollowed := true, recurses := true, named := ["internal/bytealg.MaxLen"], apart := false }
def FnExactChildrenOfSaid : Prop := fnExactChildrenOfRow.holds Try.pinned (OpenSpec.ofChange fnExactChildrenOfSpec)

/-- ITS FALSE NEIGHBOUR: 'it returns false'. Refute it at one input. -/
def fnExactChildrenOfWrong : ChangeSpec := { name := "fnExactChildrenOf", fn := fun _ => fun
  | [d1, d2] => { results := [.lit (.bool false)], args := [d1, d2] }
  | _ => none }
def FnExactChildrenOfWrongFalsely : Prop := fnExactChildrenOfRow.holds Try.pinned (OpenSpec.ofChange fnExactChildrenOfWrong)

/-- 'laws.FnExactDominatorTree': WHATEVER THE INPUT: true; the input reads as it did. -/
def fnExactDominatorTreeSpec : ChangeSpec := { name := "fnExactDominatorTree", fn := fun _ => fun
  | [d] => { results := [.lit (.bool true)], args := [d] }
  | _ => none }
def fnExactDominatorTreeRow : OpenClaim := { program := "ytkdmleoeolljoaa", sum := "d279194d260611b41372371b4ca78b2a5fa177d829c0703aa88b79b479b6bdf2", func := "loop.example/structuredjumps/laws.FnExactDominatorTree", spec := "fnExactDominatorTree", inPlace := ["internal/bytealg.IndexByteString", "internal/bytealg.IndexString", "internal/abi.NoEscape"], unfollowed := true, recurses := true, named := ["internal/bytealg.MaxLen"], apart := false }
def FnExactDominatorTreeSaid : Prop := fnExactDominatorTreeRow.holds Try.pinned (OpenSpec.ofChange fnExactDominatorTreeSpec)

/-- ITS FALSE NEIGHBOUR: 'it returns false'. Refute it at one input. -/
def fnExactDominatorTreeWrong : ChangeSpec := { name := "fnExactDominatorTree", fn := fun _ => fun
  | [d] => { results := [.lit (.bool false)], args := [d] }
  | _ => none }
def FnExactDominatorTreeWrongFalsely : Prop := fnExactDominatorTreeRow.holds Try.pinned (OpenSpec.ofChange fnExactDominatorTreeWrong)

/-- 'laws.FnExactFrontierOf': WHATEVER THE INPUT: true; the input reads as it did. -/
def fnExactFrontierOfSpec : ChangeSpec := { name := "fnExactFrontierOf", fn := fun _ => fun
  | [d1, d2] => { results := [.lit (.bool true)], args := [d1, d2] }
  | _ => none }
def fnExactFrontierOfRow : OpenClaim := { program := "ytkdmleoeolljoaa", sum := "d279194d260611b41372371b4ca78b2a5fa177d829c0703aa88b79b479b6bdf2", func := "loop.example/structuredjumps/laws.FnExactFrontierOf", spec := "fnExactFrontierOf", inPlace := ["internal/bytealg.IndexByteString", "internal/bytealg.IndexString", "internal/abi.NoEscape"], unfollowed := true, recurses := true, named := ["internal/bytealg.MaxLen"], apart := false }
def FnExactFrontierOfSaid : Prop := fnExactFrontierOfRow.holds Try.pinned (OpenSpec.ofChange fnExactFrontierOfSpec)

/-- ITS FALSE NEIGHBOUR: 'it returns false'. Refute it at one input. -/
def fnExactFrontierOfWrong : ChangeSpec := { name := "fnExactFrontierOf", fn := fun _ => fun
  | [d1, d2] => { results := [.lit (.bool false)], args := [d1, d2] }
  | _ => none }
def FnExactFrontierOfWrongFalsely : Prop := fnExactFrontierOfRow.holds Try.pinned (OpenSpec.ofChange fnExactFrontierOfWrong)

/-- 'laws.FnExactMeetOf': WHATEVER THE INPUT: true; the input reads as it did. -/
def fnExactMeetOfSpec : ChangeSpec := { name := "fnExactMeetOf", fn := fun _ => fun
  | [d1, d2, d3] => { results := [.lit (.bool true)], args := [d1, d2, d3] }
  | _ => none }
def fnExactMeetOfRow : OpenClaim := { program := "ytkdmleoeolljoaa", sum := "d279194d260611b41372371b4ca78b2a5fa177d829c0703aa88b79b479b6bdf2", func := "loop.example/structuredjumps/laws.FnExactMeetOf", spec := "fnExactMeetOf", inPlace := ["internal/bytealg.IndexByteString", "internal/bytealg.IndexString"], unfollowed := true, recurses := true, named := ["internal/bytealg.MaxLen"], apart := false }
def FnExactMeetOfSaid : Prop := fnExactMeetOfRow.holds Try.pinned (OpenSpec.ofChange fnExactMeetOfSpec)

/-- ITS FALSE NEIGHBOUR: 'it returns false'. Refute it at one input. -/
def fnExactMeetOfWrong : ChangeSpec := { name := "fnExactMeetOf", fn := fun _ => fun
  | [d1, d2, d3] => { results := [.lit (.bool false)], args := [d1, d2, d3] }
  | _ => none }
def FnExactMeetOfWrongFalsely : Prop := fnExactMeetOfRow.holds Try.pinned (OpenSpec.ofChange fnExactMeetOfWrong)

/-- 'laws.FnDomOrder': WHATEVER THE INPUT: true; the input reads as it did. -/
def fnDomOrderSpec : ChangeSpec := { name := "fnDomOrder", fn := fun _ => fun
  | [d1, d2] => { results := [.lit (.bool true)], args := [d1, d2] }
  | _ => none }
def fnDomOrderRow : OpenClaim := { program := "ytkdmleoeolljoaa", sum := "d279194d260611b41372371b4ca78b2a5fa177d829c0703aa88b79b479b6bdf2", func := "loop.example/structuredjumps/laws.FnDomOrder", spec := "fnDomOrder", inPlace := ["internal/bytealg.IndexByteString", "internal/bytealg.IndexString", "internal/abi.NoEscape"], unfollowed := true, recurses := true, named := ["internal/bytealg.MaxLen"], apart := false }
def FnDomOrderSaid : Prop := fnDomOrderRow.holds Try.pinned (OpenSpec.ofChange fnDomOrderSpec)

/-- ITS FALSE NEIGHBOUR: 'it returns false'. Refute it at one input. -/
def fnDomOrderWrong : ChangeSpec := { name := "fnDomOrder", fn := fun _ => fun
  | [d1, d2] => { results := [.lit (.bool false)], args := [d1, d2] }
  | _ => none }
def FnDomOrderWrongFalsely : Prop := fnDomOrderRow.holds Try.pinned (OpenSpec.ofChange fnDomOrderWrong)

/-- 'laws.FnParentMeet': WHATEVER THE INPUT: true; the input reads as it did. -/
def fnParentMeetSpec : ChangeSpec := { name := "fnParentMeet", fn := fun _ => fun
  | [d] => { results := [.lit (.bool true)], args := [d] }
  | _ => none }
def fnParentMeetRow : OpenClaim := { program := "ytkdmleoeolljoaa", sum := "d279194d260611b41372371b4ca78b2a5fa177d829c0703aa88b79b479b6bdf2", func := "loop.example/structuredjumps/laws.FnParentMeet", spec := "fnParentMeet", inPlace := ["internal/bytealg.IndexByteString", "internal/bytealg.IndexString", "internal/abi.NoEscape"], unfollowed := true, recurses := true, named := ["internal/bytealg.MaxLen"], apart := false }
def FnParentMeetSaid : Prop := fnParentMeetRow.holds Try.pinned (OpenSpec.ofChange fnParentMeetSpec)

/-- ITS FALSE NEIGHBOUR: 'it returns false'. Refute it at one input. -/
def fnParentMeetWrong : ChangeSpec := { name := "fnParentMeet", fn := fun _ => fun
  | [d] => { results := [.lit (.bool false)], args := [d] }
  | _ => none }
def FnParentMeetWrongFalsely : Prop := fnParentMeetRow.holds Try.pinned (OpenSpec.ofChange fnParentMeetWrong)

/- THE SECOND FORM. 'bulk': how many values and letters a reading holds, each counted each time it is reached (what is shared counts as often as it is met; a slice's spare places count too). A statement '..UptoSaid' is the law's where the arguments, and the package variables that the reading takes, are together of bulk at most 1048576: NARROWER than '..Said'. Prove '..Said' where nothing that the law and all that it calls make is longer than what came in: it says more and counts as full. Else prove '..UptoSaid'. A law counts once. -/
mutual
def uptoBulk {H : Type} : DataW H → Nat
  | .lit (.string bytes) => bytes.length + 1
  | .lit _ => 1
  | .nil => 1
  | .ptr d => uptoBulk d + 1
  | .slice elems spare => uptoBulkAll elems + uptoBulkAll spare + 1
  | .agg parts => uptoBulkAll parts + 1
  | .iface _ d => uptoBulk d + 1
  | .map entries => uptoBulkEntries entries + 1
  | .held _ => 1
def uptoBulkAll {H : Type} : List (DataW H) → Nat
  | [] => 0
  | d :: r => uptoBulk d + uptoBulkAll r
def uptoBulkEntries {H : Type} : List (Lit × DataW H) → Nat
  | [] => 0
  | x :: r => uptoBulkEntry x + uptoBulkEntries r
def uptoBulkEntry {H : Type} : Lit × DataW H → Nat
  | (.string bytes, d) => bytes.length + uptoBulk d + 1
  | (_, d) => uptoBulk d + 1
 end
def uptoSmall : (H : Type) → List (DataW H) → Bool := fun _ ds => decide (uptoBulkAll ds ≤ 1048576)
def OpenSpec.upto (s : _root_.Go.ChangeSpec) : _root_.Go.OpenSpec := { _root_.Go.OpenSpec.ofChange s with cond := some uptoSmall }

/-- 'laws.FnExactDominatorsOf', WHERE WHAT IT READS IS OF BULK AT MOST 1048576: true; the input reads as it did. -/
def fnExactDominatorsOfUptoRow : OpenClaim := { program := "ytkdmleoeolljoaa", sum := "d279194d260611b41372371b4ca78b2a5fa177d829c0703aa88b79b479b6bdf2", func := "loop.example/structuredjumps/laws.FnExactDominatorsOf", spec := "fnExactDominatorsOf", inPlace := ["internal/bytealg.IndexByteString", "internal/bytealg.IndexString", "internal/abi.NoEscape"], unfollowed := true, recurses := true, named := ["internal/bytealg.MaxLen"], apart := false, narrowed := true }
def FnExactDominatorsOfUptoSaid : Prop := fnExactDominatorsOfUptoRow.holds Try.pinned (OpenSpec.upto fnExactDominatorsOfSpec)

/-- 'laws.FnExactDominates', WHERE WHAT IT READS IS OF BULK AT MOST 1048576: true; the input reads as it did. -/
def fnExactDominatesUptoRow : OpenClaim := { program := "ytkdmleoeolljoaa", sum := "d279194d260611b41372371b4ca78b2a5fa177d829c0703aa88b79b479b6bdf2", func := "loop.example/structuredjumps/laws.FnExactDominates", spec := "fnExactDominates", inPlace := ["internal/bytealg.IndexByteString", "internal/bytealg.IndexString"], unfollowed := true, recurses := true, named := ["internal/bytealg.MaxLen"], apart := false, narrowed := true }
def FnExactDominatesUptoSaid : Prop := fnExactDominatesUptoRow.holds Try.pinned (OpenSpec.upto fnExactDominatesSpec)

/-- 'laws.FnExactParentOf', WHERE WHAT IT READS IS OF BULK AT MOST 1048576: true; the input reads as it did. -/
def fnExactParentOfUptoRow : OpenClaim := { program := "ytkdmleoeolljoaa", sum := "d279194d260611b41372371b4ca78b2a5fa177d829c0703aa88b79b479b6bdf2", func := "loop.example/structuredjumps/laws.FnExactParentOf", spec := "fnExactParentOf", inPlace := ["internal/bytealg.IndexByteString", "internal/bytealg.IndexString"], unfollowed := true, recurses := true, named := ["internal/bytealg.MaxLen"], apart := false, narrowed := true }
def FnExactParentOfUptoSaid : Prop := fnExactParentOfUptoRow.holds Try.pinned (OpenSpec.upto fnExactParentOfSpec)

/-- 'laws.FnExactChildrenOf', WHERE WHAT IT READS IS OF BULK AT MOST 1048576: true; the input reads as it did. -/
def fnExactChildrenOfUptoRow : OpenClaim := { program := "ytkdmleoeolljoaa", sum := "d279194d260611b41372371b4ca78b2a5fa177d829c0703aa88b79b479b6bdf2", func := "loop.example/structuredjumps/laws.FnExactChildrenOf", spec := "fnExactChildrenOf", inPlace := ["internal/bytealg.IndexByteString", "internal/bytealg.IndexString", "internal/abi.NoEscape"], unfollowed := true, recurses := true, named := ["internal/bytealg.MaxLen"], apart := false, narrowed := true }
def FnExactChildrenOfUptoSaid : Prop := fnExactChildrenOfUptoRow.holds Try.pinned (OpenSpec.upto fnExactChildrenOfSpec)

/-- 'laws.FnExactDominatorTree', WHERE WHAT IT READS IS OF BULK AT MOST 1048576: true; the input reads as it did. -/
def fnExactDominatorTreeUptoRow : OpenClaim := { program := "ytkdmleoeolljoaa", sum := "d279194d260611b41372371b4ca78b2a5fa177d829c0703aa88b79b479b6bdf2", func := "loop.example/structuredjumps/laws.FnExactDominatorTree", spec := "fnExactDominatorTree", inPlace := ["internal/bytealg.IndexByteString", "internal/bytealg.IndexString", "internal/abi.NoEscape"], unfollowed := true, recurses := true, named := ["internal/bytealg.MaxLen"], apart := false, narrowed := true }
def FnExactDominatorTreeUptoSaid : Prop := fnExactDominatorTreeUptoRow.holds Try.pinned (OpenSpec.upto fnExactDominatorTreeSpec)

/-- 'laws.FnExactFrontierOf', WHERE WHAT IT READS IS OF BULK AT MOST 1048576: true; the input reads as it did. -/
def fnExactFrontierOfUptoRow : OpenClaim := { program := "ytkdmleoeolljoaa", sum := "d279194d260611b41372371b4ca78b2a5fa177d829c0703aa88b79b479b6bdf2", func := "loop.example/structuredjumps/laws.FnExactFrontierOf", spec := "fnExactFrontierOf", inPlace := ["internal/bytealg.IndexByteString", "internal/bytealg.IndexString", "internal/abi.NoEscape"], unfollowed := true, recurses := true, named := ["internal/bytealg.MaxLen"], apart := false, narrowed := true }
def FnExactFrontierOfUptoSaid : Prop := fnExactFrontierOfUptoRow.holds Try.pinned (OpenSpec.upto fnExactFrontierOfSpec)

/-- 'laws.FnExactMeetOf', WHERE WHAT IT READS IS OF BULK AT MOST 1048576: true; the input reads as it did. -/
def fnExactMeetOfUptoRow : OpenClaim := { program := "ytkdmleoeolljoaa", sum := "d279194d260611b41372371b4ca78b2a5fa177d829c0703aa88b79b479b6bdf2", func := "loop.example/structuredjumps/laws.FnExactMeetOf", spec := "fnExactMeetOf", inPlace := ["internal/bytealg.IndexByteString", "internal/bytealg.IndexString"], unfollowed := true, recurses := true, named := ["internal/bytealg.MaxLen"], apart := false, narrowed := true }
def FnExactMeetOfUptoSaid : Prop := fnExactMeetOfUptoRow.holds Try.pinned (OpenSpec.upto fnExactMeetOfSpec)

/-- 'laws.FnDomOrder', WHERE WHAT IT READS IS OF BULK AT MOST 1048576: true; the input reads as it did. -/
def fnDomOrderUptoRow : OpenClaim := { program := "ytkdmleoeolljoaa", sum := "d279194d260611b41372371b4ca78b2a5fa177d829c0703aa88b79b479b6bdf2", func := "loop.example/structuredjumps/laws.FnDomOrder", spec := "fnDomOrder", inPlace := ["internal/bytealg.IndexByteString", "internal/bytealg.IndexString", "internal/abi.NoEscape"], unfollowed := true, recurses := true, named := ["internal/bytealg.MaxLen"], apart := false, narrowed := true }
def FnDomOrderUptoSaid : Prop := fnDomOrderUptoRow.holds Try.pinned (OpenSpec.upto fnDomOrderSpec)

/-- 'laws.FnParentMeet', WHERE WHAT IT READS IS OF BULK AT MOST 1048576: true; the input reads as it did. -/
def fnParentMeetUptoRow : OpenClaim := { program := "ytkdmleoeolljoaa", sum := "d279194d260611b41372371b4ca78b2a5fa177d829c0703aa88b79b479b6bdf2", func := "loop.example/structuredjumps/laws.FnParentMeet", spec := "fnParentMeet", inPlace := ["internal/bytealg.IndexByteString", "internal/bytealg.IndexString", "internal/abi.NoEscape"], unfollowed := true, recurses := true, named := ["internal/bytealg.MaxLen"], apart := false, narrowed := true }
def FnParentMeetUptoSaid : Prop := fnParentMeetUptoRow.holds Try.pinned (OpenSpec.upto fnParentMeetSpec)

end Rows
end Go.Proofs.Ytkdmleoeolljoaa
