/-
  No cell of these rows narrows 'for every input' (looked for: loops, veiled, ifaces, maps, wideKeys, modest, calm, conditions, laid).
  DERIVED. THE GIVEN ROWS OF THIS SEAT. 4 by the template 'for every input the law returns true; each argument reads behind the call as it read before'; 0 by the template 'total and deterministic' (their statements: YtklnhbfpmmdhjaaGreatTotals.lean).
  GIVEN WITH THE SEED: the statements are not yours to turn. If you find one false, say at which input.
  Laid BY PROGRAM, IN A SANDBOX (cutbox-rows.mjs): the forced cells as the released guide's own fill.sh prints them over the translation ac3da4cec849ff88… (all of the seat's roots in one cut). By AI agents, Wed Nov 11 2026. No macro, syntax, notation, axiom, sorry.
-/
import Derived.Test.YtklnhbfpmmdhjaaGreatChecked
import GoSem.Claim
import GoSem.ClaimJoined
import GoSem.ClaimMapViews
import Derived.JoinedTies
import Derived.KernelRfl
namespace Go.Proofs.YtklnhbfpmmdhjaaGreat
/- THE CELL 'sum', in the pinned program and in every row, IS THE sha256 OF THE DUMP (.gsa) THAT YtklnhbfpmmdhjaaGreatProg.lean LOADS. Nothing in Lean hashes anything: it is a label: what it is worth is what the hold of that sum in a sandbox is worth. -/
noncomputable def Tryz.pinned : Pinned := { name := "ytklnhbfpmmdhjaagreat", sum := "ac3da4cec849ff885ad462fdb939299c05f2c46e3174c48b120c78522ba5cfba", checked := Tryz.checked }
namespace Rows
def none {H : Type} : Left H := { results := [], args := [] }

/-- 'laws.FnExactLoopOf': WHATEVER THE INPUT: true; the input reads as it did. -/
def fnExactLoopOfSpec : ChangeSpec := { name := "fnExactLoopOf", fn := fun _ => fun
  | [d1, d2] => { results := [.lit (.bool true)], args := [d1, d2] }
  | _ => none }
def fnExactLoopOfRow : OpenClaim := { program := "ytklnhbfpmmdhjaagreat", sum := "ac3da4cec849ff885ad462fdb939299c05f2c46e3174c48b120c78522ba5cfba", func := "loop.example/structuredjumps/laws.FnExactLoopOf", spec := "fnExactLoopOf", inPlace := ["internal/bytealg.IndexByteString", "internal/bytealg.IndexString", "internal/abi.NoEscape"], unfollowed := true, recurses := true, named := ["internal/bytealg.MaxLen"], plainKeys := false, apart := false }
def FnExactLoopOfSaid : Prop := fnExactLoopOfRow.holds Tryz.pinned (OpenSpec.ofChange fnExactLoopOfSpec)

/-- ITS FALSE NEIGHBOUR: 'it returns false'. Refute it at one input. -/
def fnExactLoopOfWrong : ChangeSpec := { name := "fnExactLoopOf", fn := fun _ => fun
  | [d1, d2] => { results := [.lit (.bool false)], args := [d1, d2] }
  | _ => none }
def FnExactLoopOfWrongFalsely : Prop := fnExactLoopOfRow.holds Tryz.pinned (OpenSpec.ofChange fnExactLoopOfWrong)

/-- 'laws.FnExactDepthIn': WHATEVER THE INPUT: true; the input reads as it did. -/
def fnExactDepthInSpec : ChangeSpec := { name := "fnExactDepthIn", fn := fun _ => fun
  | [d1, d2] => { results := [.lit (.bool true)], args := [d1, d2] }
  | _ => none }
def fnExactDepthInRow : OpenClaim := { program := "ytklnhbfpmmdhjaagreat", sum := "ac3da4cec849ff885ad462fdb939299c05f2c46e3174c48b120c78522ba5cfba", func := "loop.example/structuredjumps/laws.FnExactDepthIn", spec := "fnExactDepthIn", inPlace := ["internal/bytealg.IndexByteString", "internal/bytealg.IndexString"], unfollowed := true, recurses := true, named := ["internal/bytealg.MaxLen"], plainKeys := false, apart := false }
def FnExactDepthInSaid : Prop := fnExactDepthInRow.holds Tryz.pinned (OpenSpec.ofChange fnExactDepthInSpec)

/-- ITS FALSE NEIGHBOUR: 'it returns false'. Refute it at one input. -/
def fnExactDepthInWrong : ChangeSpec := { name := "fnExactDepthIn", fn := fun _ => fun
  | [d1, d2] => { results := [.lit (.bool false)], args := [d1, d2] }
  | _ => none }
def FnExactDepthInWrongFalsely : Prop := fnExactDepthInRow.holds Tryz.pinned (OpenSpec.ofChange fnExactDepthInWrong)

/-- 'laws.FnPruneTree': WHATEVER THE INPUT: true; the input reads as it did. -/
def fnPruneTreeSpec : ChangeSpec := { name := "fnPruneTree", fn := fun _ => fun
  | [d] => { results := [.lit (.bool true)], args := [d] }
  | _ => none }
def fnPruneTreeRow : OpenClaim := { program := "ytklnhbfpmmdhjaagreat", sum := "ac3da4cec849ff885ad462fdb939299c05f2c46e3174c48b120c78522ba5cfba", func := "loop.example/structuredjumps/laws.FnPruneTree", spec := "fnPruneTree", inPlace := ["internal/bytealg.IndexByteString", "internal/bytealg.IndexString", "internal/abi.NoEscape"], unfollowed := true, recurses := true, named := ["internal/bytealg.MaxLen"], plainKeys := false, apart := false }
def FnPruneTreeSaid : Prop := fnPruneTreeRow.holds Tryz.pinned (OpenSpec.ofChange fnPruneTreeSpec)

/-- ITS FALSE NEIGHBOUR: 'it returns false'. Refute it at one input. -/
def fnPruneTreeWrong : ChangeSpec := { name := "fnPruneTree", fn := fun _ => fun
  | [d] => { results := [.lit (.bool false)], args := [d] }
  | _ => none }
def FnPruneTreeWrongFalsely : Prop := fnPruneTreeRow.holds Tryz.pinned (OpenSpec.ofChange fnPruneTreeWrong)

/-- 'laws.FnRemoved': WHATEVER THE INPUT: true; the input reads as it did. -/
def fnRemovedSpec : ChangeSpec := { name := "fnRemoved", fn := fun _ => fun
  | [d] => { results := [.lit (.bool true)], args := [d] }
  | _ => none }
def fnRemovedRow : OpenClaim := { program := "ytklnhbfpmmdhjaagreat", sum := "ac3da4cec849ff885ad462fdb939299c05f2c46e3174c48b120c78522ba5cfba", func := "loop.example/structuredjumps/laws.FnRemoved", spec := "fnRemoved", inPlace := ["internal/bytealg.IndexByteString", "internal/bytealg.IndexString", "internal/abi.NoEscape"], unfollowed := true, recurses := true, named := ["internal/bytealg.MaxLen"], plainKeys := false, apart := false }
def FnRemovedSaid : Prop := fnRemovedRow.holds Tryz.pinned (OpenSpec.ofChange fnRemovedSpec)

/-- ITS FALSE NEIGHBOUR: 'it returns false'. Refute it at one input. -/
def fnRemovedWrong : ChangeSpec := { name := "fnRemoved", fn := fun _ => fun
  | [d] => { results := [.lit (.bool false)], args := [d] }
  | _ => none }
def FnRemovedWrongFalsely : Prop := fnRemovedRow.holds Tryz.pinned (OpenSpec.ofChange fnRemovedWrong)

/- THE SECOND FORM. 'bulk': how many values and letters a reading holds, each counted each time it is reached (what is shared counts as often as it is met; a slice's spare places count too). A statement '..UptoSaid' is the law's where the arguments, and the package variables that the reading takes, are together of bulk at most 1048576: NARROWER than '..Said'. Prove '..Said' where nothing that the law and all that it calls make is longer than what came in: it says more and counts as full. Else prove '..UptoSaid'. A law counts once. -/
mutual
def uptoBulk {H : Type} : DataW H → Nat
  | .lit (.string bytes) => bytes.length + 1
  | .lit _ => 1
  | .nil => 1
  | .ptr d => uptoBulk d + 1
  | .slice elems spare => uptoBulkAll elems + uptoBulkAll spare + 1
  | .agg parts => uptoBulkAll parts + 1
  | .iface _ d => uptoBulk d + 1
  | .map entries => uptoBulkEntries entries + 1
  | .held _ => 1
def uptoBulkAll {H : Type} : List (DataW H) → Nat
  | [] => 0
  | d :: r => uptoBulk d + uptoBulkAll r
def uptoBulkEntries {H : Type} : List (Lit × DataW H) → Nat
  | [] => 0
  | x :: r => uptoBulkEntry x + uptoBulkEntries r
def uptoBulkEntry {H : Type} : Lit × DataW H → Nat
  | (.string bytes, d) => bytes.length + uptoBulk d + 1
  | (_, d) => uptoBulk d + 1
 end
def uptoSmall : (H : Type) → List (DataW H) → Bool := fun _ ds => decide (uptoBulkAll ds ≤ 1048576)
def OpenSpec.upto (s : _root_.Go.ChangeSpec) : _root_.Go.OpenSpec := { _root_.Go.OpenSpec.ofChange s with cond := some uptoSmall }

/-- 'laws.FnExactLoopOf', WHERE WHAT IT READS IS OF BULK AT MOST 1048576: true; the input reads as it did. -/
def fnExactLoopOfUptoRow : OpenClaim := { program := "ytklnhbfpmmdhjaagreat", sum := "ac3da4cec849ff885ad462fdb939299c05f2c46e3174c48b120c78522ba5cfba", func := "loop.example/structuredjumps/laws.FnExactLoopOf", spec := "fnExactLoopOf", inPlace := ["internal/bytealg.IndexByteString", "internal/bytealg.IndexString", "internal/abi.NoEscape"], unfollowed := true, recurses := true, named := ["internal/bytealg.MaxLen"], plainKeys := false, apart := false, narrowed := true }
def FnExactLoopOfUptoSaid : Prop := fnExactLoopOfUptoRow.holds Tryz.pinned (OpenSpec.upto fnExactLoopOfSpec)

/-- 'laws.FnExactDepthIn', WHERE WHAT IT READS IS OF BULK AT MOST 1048576: true; the input reads as it did. -/
def fnExactDepthInUptoRow : OpenClaim := { program := "ytklnhbfpmmdhjaagreat", sum := "ac3da4cec849ff885ad462fdb939299c05f2c46e3174c48b120c78522ba5cfba", func := "loop.example/structuredjumps/laws.FnExactDepthIn", spec := "fnExactDepthIn", inPlace := ["internal/bytealg.IndexByteString", "internal/bytealg.IndexString"], unfollowed := true, recurses := true, named := ["internal/bytealg.MaxLen"], plainKeys := false, apart := false, narrowed := true }
def FnExactDepthInUptoSaid : Prop := fnExactDepthInUptoRow.holds Tryz.pinned (OpenSpec.upto fnExactDepthInSpec)

/-- 'laws.FnPruneTree', WHERE WHAT IT READS IS OF BULK AT MOST 1048576: true; the input reads as it did. -/
def fnPruneTreeUptoRow : OpenClaim := { program := "ytklnhbfpmmdhjaagreat", sum := "ac3da4cec849ff885ad462fdb939299c05f2c46e3174c48b120c78522ba5cfba", func := "loop.example/structuredjumps/laws.FnPruneTree", spec := "fnPruneTree", inPlace := ["internal/bytealg.IndexByteString", "internal/bytealg.IndexString", "internal/abi.NoEscape"], unfollowed := true, recurses := true, named := ["internal/bytealg.MaxLen"], plainKeys := false, apart := false, narrowed := true }
def FnPruneTreeUptoSaid : Prop := fnPruneTreeUptoRow.holds Tryz.pinned (OpenSpec.upto fnPruneTreeSpec)

/-- 'laws.FnRemoved', WHERE WHAT IT READS IS OF BULK AT MOST 1048576: true; the input reads as it did. -/
def fnRemovedUptoRow : OpenClaim := { program := "ytklnhbfpmmdhjaagreat", sum := "ac3da4cec849ff885ad462fdb939299c05f2c46e3174c48b120c78522ba5cfba", func := "loop.example/structuredjumps/laws.FnRemoved", spec := "fnRemoved", inPlace := ["internal/bytealg.IndexByteString", "internal/bytealg.IndexString", "internal/abi.NoEscape"], unfollowed := true, recurses := true, named := ["internal/bytealg.MaxLen"], plainKeys := false, apart := false, narrowed := true }
def FnRemovedUptoSaid : Prop := fnRemovedUptoRow.holds Tryz.pinned (OpenSpec.upto fnRemovedSpec)

end Rows
end Go.Proofs.YtklnhbfpmmdhjaaGreat
