/-
  No cell of these rows narrows 'for every input' (looked for: loops, veiled, ifaces, maps, wideKeys, modest, calm, conditions, laid).
  DERIVED. THE GIVEN ROWS OF THIS SEAT. 4 by the template 'for every input the law returns true; each argument reads behind the call as it read before'; 0 by the template 'total and deterministic' (their statements: YtdgomlbllpjboabTotals.lean).
  GIVEN WITH THE SEED: the statements are not yours to turn. If you find one false, say at which input.
  Laid BY PROGRAM, IN A SANDBOX (cutbox-rows.mjs): the forced cells as the released guide's own fill.sh prints them over the translation 5436b60a8bdf7bb0… (all of the seat's roots in one cut). By AI agents, Wed Nov 11 2026. No macro, syntax, notation, axiom, sorry.
-/
import Derived.Test.YtdgomlbllpjboabChecked
import GoSem.Claim
import GoSem.ClaimJoined
import GoSem.ClaimMapViews
import Derived.JoinedTies
import Derived.KernelRfl
namespace Go.Proofs.Ytdgomlbllpjboab
/- THE CELL 'sum', in the pinned program and in every row, IS THE sha256 OF THE DUMP (.gsa) THAT YtdgomlbllpjboabProg.lean LOADS. Nothing in Lean hashes anything: it is a label: what it is worth is what the hold of that sum in a sandbox is worth. -/
noncomputable def Try.pinned : Pinned := { name := "ytdgomlbllpjboab", sum := "5436b60a8bdf7bb0f1a82172e863ecaead73446d0e442c890ba0ea2def1af1bc", checked := Try.checked }
namespace Rows
def none {H : Type} : Left H := { results := [], args := [] }

/-- 'laws.FnExactPrevOf': WHATEVER THE INPUT: true; the input reads as it did. -/
def fnExactPrevOfSpec : ChangeSpec := { name := "fnExactPrevOf", fn := fun _ => fun
  | [d1, d2] => { results := [.lit (.bool true)], args := [d1, d2] }
  | _ => none }
def fnExactPrevOfRow : OpenClaim := { program := "ytdgomlbllpjboab", sum := "5436b60a8bdf7bb0f1a82172e863ecaead73446d0e442c890ba0ea2def1af1bc", func := "loop.example/structuredjumps/laws.FnExactPrevOf", spec := "fnExactPrevOf", inPlace := ["internal/bytealg.IndexByteString", "internal/bytealg.IndexString", "internal/abi.NoEscape"], unfollowed := true, recurses := true, named := ["internal/bytealg.MaxLen"], apart := false }
def FnExactPrevOfSaid : Prop := fnExactPrevOfRow.holds Try.pinned (OpenSpec.ofChange fnExactPrevOfSpec)

/-- ITS FALSE NEIGHBOUR: 'it returns false'. Refute it at one input. -/
def fnExactPrevOfWrong : ChangeSpec := { name := "fnExactPrevOf", fn := fun _ => fun
  | [d1, d2] => { results := [.lit (.bool false)], args := [d1, d2] }
  | _ => none }
def FnExactPrevOfWrongFalsely : Prop := fnExactPrevOfRow.holds Try.pinned (OpenSpec.ofChange fnExactPrevOfWrong)

/-- 'laws.FnExactReachedOf': WHATEVER THE INPUT: true; the input reads as it did. -/
def fnExactReachedOfSpec : ChangeSpec := { name := "fnExactReachedOf", fn := fun _ => fun
  | [d] => { results := [.lit (.bool true)], args := [d] }
  | _ => none }
def fnExactReachedOfRow : OpenClaim := { program := "ytdgomlbllpjboab", sum := "5436b60a8bdf7bb0f1a82172e863ecaead73446d0e442c890ba0ea2def1af1bc", func := "loop.example/structuredjumps/laws.FnExactReachedOf", spec := "fnExactReachedOf", inPlace := ["internal/bytealg.IndexByteString", "internal/bytealg.IndexString", "internal/abi.NoEscape"], unfollowed := true, recurses := true, named := ["internal/bytealg.MaxLen"], apart := false }
def FnExactReachedOfSaid : Prop := fnExactReachedOfRow.holds Try.pinned (OpenSpec.ofChange fnExactReachedOfSpec)

/-- ITS FALSE NEIGHBOUR: 'it returns false'. Refute it at one input. -/
def fnExactReachedOfWrong : ChangeSpec := { name := "fnExactReachedOf", fn := fun _ => fun
  | [d] => { results := [.lit (.bool false)], args := [d] }
  | _ => none }
def FnExactReachedOfWrongFalsely : Prop := fnExactReachedOfRow.holds Try.pinned (OpenSpec.ofChange fnExactReachedOfWrong)

/-- 'laws.FnExactPruneGraph': WHATEVER THE INPUT: true; the input reads as it did. -/
def fnExactPruneGraphSpec : ChangeSpec := { name := "fnExactPruneGraph", fn := fun _ => fun
  | [d] => { results := [.lit (.bool true)], args := [d] }
  | _ => none }
def fnExactPruneGraphRow : OpenClaim := { program := "ytdgomlbllpjboab", sum := "5436b60a8bdf7bb0f1a82172e863ecaead73446d0e442c890ba0ea2def1af1bc", func := "loop.example/structuredjumps/laws.FnExactPruneGraph", spec := "fnExactPruneGraph", inPlace := ["internal/bytealg.IndexByteString", "internal/bytealg.IndexString"], unfollowed := true, recurses := true, named := ["internal/bytealg.MaxLen"], apart := false }
def FnExactPruneGraphSaid : Prop := fnExactPruneGraphRow.holds Try.pinned (OpenSpec.ofChange fnExactPruneGraphSpec)

/-- ITS FALSE NEIGHBOUR: 'it returns false'. Refute it at one input. -/
def fnExactPruneGraphWrong : ChangeSpec := { name := "fnExactPruneGraph", fn := fun _ => fun
  | [d] => { results := [.lit (.bool false)], args := [d] }
  | _ => none }
def FnExactPruneGraphWrongFalsely : Prop := fnExactPruneGraphRow.holds Try.pinned (OpenSpec.ofChange fnExactPruneGraphWrong)

/-- 'laws.FnExactCountJumps': WHATEVER THE INPUT: true; the input reads as it did. -/
def fnExactCountJumpsSpec : ChangeSpec := { name := "fnExactCountJumps", fn := fun _ => fun
  | [d] => { results := [.lit (.bool true)], args := [d] }
  | _ => none }
def fnExactCountJumpsRow : OpenClaim := { program := "ytdgomlbllpjboab", sum := "5436b60a8bdf7bb0f1a82172e863ecaead73446d0e442c890ba0ea2def1af1bc", func := "loop.example/structuredjumps/laws.FnExactCountJumps", spec := "fnExactCountJumps", inPlace := ["internal/bytealg.IndexByteString", "internal/bytealg.IndexString"], unfollowed := true, recurses := true, named := ["internal/bytealg.MaxLen"], apart := false }
def FnExactCountJumpsSaid : Prop := fnExactCountJumpsRow.holds Try.pinned (OpenSpec.ofChange fnExactCountJumpsSpec)

/-- ITS FALSE NEIGHBOUR: 'it returns false'. Refute it at one input. -/
def fnExactCountJumpsWrong : ChangeSpec := { name := "fnExactCountJumps", fn := fun _ => fun
  | [d] => { results := [.lit (.bool false)], args := [d] }
  | _ => none }
def FnExactCountJumpsWrongFalsely : Prop := fnExactCountJumpsRow.holds Try.pinned (OpenSpec.ofChange fnExactCountJumpsWrong)

/- THE SECOND FORM. 'bulk': how many values and letters a reading holds, each counted each time it is reached (what is shared counts as often as it is met; a slice's spare places count too). A statement '..UptoSaid' is the law's where the arguments, and the package variables that the reading takes, are together of bulk at most 1048576: NARROWER than '..Said'. Prove '..Said' where nothing that the law and all that it calls make is longer than what came in: it says more and counts as full. Else prove '..UptoSaid'. A law counts once. -/
mutual
def uptoBulk {H : Type} : DataW H → Nat
  | .lit (.string bytes) => bytes.length + 1
  | .lit _ => 1
  | .nil => 1
  | .ptr d => uptoBulk d + 1
  | .slice elems spare => uptoBulkAll elems + uptoBulkAll spare + 1
  | .agg parts => uptoBulkAll parts + 1
  | .iface _ d => uptoBulk d + 1
  | .map entries => uptoBulkEntries entries + 1
  | .held _ => 1
def uptoBulkAll {H : Type} : List (DataW H) → Nat
  | [] => 0
  | d :: r => uptoBulk d + uptoBulkAll r
def uptoBulkEntries {H : Type} : List (Lit × DataW H) → Nat
  | [] => 0
  | x :: r => uptoBulkEntry x + uptoBulkEntries r
def uptoBulkEntry {H : Type} : Lit × DataW H → Nat
  | (.string bytes, d) => bytes.length + uptoBulk d + 1
  | (_, d) => uptoBulk d + 1
 end
def uptoSmall : (H : Type) → List (DataW H) → Bool := fun _ ds => decide (uptoBulkAll ds ≤ 1048576)
def OpenSpec.upto (s : _root_.Go.ChangeSpec) : _root_.Go.OpenSpec := { _root_.Go.OpenSpec.ofChange s with cond := some uptoSmall }

/-- 'laws.FnExactPrevOf', WHERE WHAT IT READS IS OF BULK AT MOST 1048576: true; the input reads as it did. -/
def fnExactPrevOfUptoRow : OpenClaim := { program := "ytdgomlbllpjboab", sum := "5436b60a8bdf7bb0f1a82172e863ecaead73446d0e442c890ba0ea2def1af1bc", func := "loop.example/structuredjumps/laws.FnExactPrevOf", spec := "fnExactPrevOf", inPlace := ["internal/bytealg.IndexByteString", "internal/bytealg.IndexString", "internal/abi.NoEscape"], unfollowed := true, recurses := true, named := ["internal/bytealg.MaxLen"], apart := false, narrowed := true }
def FnExactPrevOfUptoSaid : Prop := fnExactPrevOfUptoRow.holds Try.pinned (OpenSpec.upto fnExactPrevOfSpec)

/-- 'laws.FnExactReachedOf', WHERE WHAT IT READS IS OF BULK AT MOST 1048576: true; the input reads as it did. -/
def fnExactReachedOfUptoRow : OpenClaim := { program := "ytdgomlbllpjboab", sum := "5436b60a8bdf7bb0f1a82172e863ecaead73446d0e442c890ba0ea2def1af1bc", func := "loop.example/structuredjumps/laws.FnExactReachedOf", spec := "fnExactReachedOf", inPlace := ["internal/bytealg.IndexByteString", "internal/bytealg.IndexString", "internal/abi.NoEscape"], unfollowed := true, recurses := true, named := ["internal/bytealg.MaxLen"], apart := false, narrowed := true }
def FnExactReachedOfUptoSaid : Prop := fnExactReachedOfUptoRow.holds Try.pinned (OpenSpec.upto fnExactReachedOfSpec)

/-- 'laws.FnExactPruneGraph', WHERE WHAT IT READS IS OF BULK AT MOST 1048576: true; the input reads as it did. -/
def fnExactPruneGraphUptoRow : OpenClaim := { program := "ytdgomlbllpjboab", sum := "5436b60a8bdf7bb0f1a82172e863ecaead73446d0e442c890ba0ea2def1af1bc", func := "loop.example/structuredjumps/laws.FnExactPruneGraph", spec := "fnExactPruneGraph", inPlace := ["internal/bytealg.IndexByteString", "internal/bytealg.IndexString"], unfollowed := true, recurses := true, named := ["internal/bytealg.MaxLen"], apart := false, narrowed := true }
def FnExactPruneGraphUptoSaid : Prop := fnExactPruneGraphUptoRow.holds Try.pinned (OpenSpec.upto fnExactPruneGraphSpec)

/-- 'laws.FnExactCountJumps', WHERE WHAT IT READS IS OF BULK AT MOST 1048576: true; the input reads as it did. -/
def fnExactCountJumpsUptoRow : OpenClaim := { program := "ytdgomlbllpjboab", sum := "5436b60a8bdf7bb0f1a82172e863ecaead73446d0e442c890ba0ea2def1af1bc", func := "loop.example/structuredjumps/laws.FnExactCountJumps", spec := "fnExactCountJumps", inPlace := ["internal/bytealg.IndexByteString", "internal/bytealg.IndexString"], unfollowed := true, recurses := true, named := ["internal/bytealg.MaxLen"], apart := false, narrowed := true }
def FnExactCountJumpsUptoSaid : Prop := fnExactCountJumpsUptoRow.holds Try.pinned (OpenSpec.upto fnExactCountJumpsSpec)

end Rows
end Go.Proofs.Ytdgomlbllpjboab
