/-
  No cell of these rows narrows 'for every input' (looked for: loops, veiled, ifaces, maps, wideKeys, modest, calm, conditions, laid).
  DERIVED. THE GIVEN ROWS OF THIS SEAT. 12 by the template 'for every input the law returns true; each argument reads behind the call as it read before'; 0 by the template 'total and deterministic' (their statements: YtelhogeaobofpaaTotals.lean).
  GIVEN WITH THE SEED: the statements are not yours to turn. If you find one false, say at which input.
  Laid BY PROGRAM, IN A SANDBOX (cutbox-rows.mjs): the forced cells as the released guide's own fill.sh prints them over the translation 1e16327b840c4071… (all of the seat's roots in one cut). By AI agents, Wed Nov 11 2026. No macro, syntax, notation, axiom, sorry.
-/
import Derived.Test.YtelhogeaobofpaaChecked
import GoSem.Claim
import GoSem.ClaimJoined
import GoSem.ClaimMapViews
import Derived.JoinedTies
import Derived.KernelRfl
namespace Go.Proofs.Ytelhogeaobofpaa
/- THE CELL 'sum', in the pinned program and in every row, IS THE sha256 OF THE DUMP (.gsa) THAT YtelhogeaobofpaaProg.lean LOADS. Nothing in Lean hashes anything: it is a label: what it is worth is what the hold of that sum in a sandbox is worth. -/
noncomputable def Try.pinned : Pinned := { name := "ytelhogeaobofpaa", sum := "1e16327b840c4071d728694669d113875226494e1a32a56862138bbb72ecf4b2", checked := Try.checked }
namespace Rows
def none {H : Type} : Left H := { results := [], args := [] }

/-- 'laws.FnExactBlocksIn': WHATEVER THE INPUT: true; the input reads as it did. -/
def fnExactBlocksInSpec : ChangeSpec := { name := "fnExactBlocksIn", fn := fun _ => fun
  | [d] => { results := [.lit (.bool true)], args := [d] }
  | _ => none }
def fnExactBlocksInRow : OpenClaim := { program := "ytelhogeaobofpaa", sum := "1e16327b840c4071d728694669d113875226494e1a32a56862138bbb72ecf4b2", func := "loop.example/structuredjumps/laws.FnExactBlocksIn", spec := "fnExactBlocksIn", inPlace := ["internal/bytealg.IndexByteString", "internal/bytealg.IndexString", "internal/abi.NoEscape"], unfollowed := true, recurses := true, named := ["internal/bytealg.MaxLen"], apart := false }
def FnExactBlocksInSaid : Prop := fnExactBlocksInRow.holds Try.pinned (OpenSpec.ofChange fnExactBlocksInSpec)

/-- ITS FALSE NEIGHBOUR: 'it returns false'. Refute it at one input. -/
def fnExactBlocksInWrong : ChangeSpec := { name := "fnExactBlocksIn", fn := fun _ => fun
  | [d] => { results := [.lit (.bool false)], args := [d] }
  | _ => none }
def FnExactBlocksInWrongFalsely : Prop := fnExactBlocksInRow.holds Try.pinned (OpenSpec.ofChange fnExactBlocksInWrong)

/-- 'laws.FnExactCountLeaves': WHATEVER THE INPUT: true; the input reads as it did. -/
def fnExactCountLeavesSpec : ChangeSpec := { name := "fnExactCountLeaves", fn := fun _ => fun
  | [d] => { results := [.lit (.bool true)], args := [d] }
  | _ => none }
def fnExactCountLeavesRow : OpenClaim := { program := "ytelhogeaobofpaa", sum := "1e16327b840c4071d728694669d113875226494e1a32a56862138bbb72ecf4b2", func := "loop.example/structuredjumps/laws.FnExactCountLeaves", spec := "fnExactCountLeaves", inPlace := ["internal/bytealg.IndexByteString", "internal/bytealg.IndexString"], unfollowed := true, recurses := true, named := ["internal/bytealg.MaxLen"], apart := false }
def FnExactCountLeavesSaid : Prop := fnExactCountLeavesRow.holds Try.pinned (OpenSpec.ofChange fnExactCountLeavesSpec)

/-- ITS FALSE NEIGHBOUR: 'it returns false'. Refute it at one input. -/
def fnExactCountLeavesWrong : ChangeSpec := { name := "fnExactCountLeaves", fn := fun _ => fun
  | [d] => { results := [.lit (.bool false)], args := [d] }
  | _ => none }
def FnExactCountLeavesWrongFalsely : Prop := fnExactCountLeavesRow.holds Try.pinned (OpenSpec.ofChange fnExactCountLeavesWrong)

/-- 'laws.FnExactCountItems': WHATEVER THE INPUT: true; the input reads as it did. -/
def fnExactCountItemsSpec : ChangeSpec := { name := "fnExactCountItems", fn := fun _ => fun
  | [d1, d2] => { results := [.lit (.bool true)], args := [d1, d2] }
  | _ => none }
def fnExactCountItemsRow : OpenClaim := { program := "ytelhogeaobofpaa", sum := "1e16327b840c4071d728694669d113875226494e1a32a56862138bbb72ecf4b2", func := "loop.example/structuredjumps/laws.FnExactCountItems", spec := "fnExactCountItems", inPlace := ["internal/bytealg.IndexByteString", "internal/bytealg.IndexString"], unfollowed := true, recurses := true, named := ["internal/bytealg.MaxLen"], apart := false }
def FnExactCountItemsSaid : Prop := fnExactCountItemsRow.holds Try.pinned (OpenSpec.ofChange fnExactCountItemsSpec)

/-- ITS FALSE NEIGHBOUR: 'it returns false'. Refute it at one input. -/
def fnExactCountItemsWrong : ChangeSpec := { name := "fnExactCountItems", fn := fun _ => fun
  | [d1, d2] => { results := [.lit (.bool false)], args := [d1, d2] }
  | _ => none }
def FnExactCountItemsWrongFalsely : Prop := fnExactCountItemsRow.holds Try.pinned (OpenSpec.ofChange fnExactCountItemsWrong)

/-- 'laws.FnExactEachOnce': WHATEVER THE INPUT: true; the input reads as it did. -/
def fnExactEachOnceSpec : ChangeSpec := { name := "fnExactEachOnce", fn := fun _ => fun
  | [d] => { results := [.lit (.bool true)], args := [d] }
  | _ => none }
def fnExactEachOnceRow : OpenClaim := { program := "ytelhogeaobofpaa", sum := "1e16327b840c4071d728694669d113875226494e1a32a56862138bbb72ecf4b2", func := "loop.example/structuredjumps/laws.FnExactEachOnce", spec := "fnExactEachOnce", inPlace := ["internal/bytealg.IndexByteString", "internal/bytealg.IndexString", "internal/abi.NoEscape"], unfollowed := true, recurses := true, named := ["internal/bytealg.MaxLen"], apart := false }
def FnExactEachOnceSaid : Prop := fnExactEachOnceRow.holds Try.pinned (OpenSpec.ofChange fnExactEachOnceSpec)

/-- ITS FALSE NEIGHBOUR: 'it returns false'. Refute it at one input. -/
def fnExactEachOnceWrong : ChangeSpec := { name := "fnExactEachOnce", fn := fun _ => fun
  | [d] => { results := [.lit (.bool false)], args := [d] }
  | _ => none }
def FnExactEachOnceWrongFalsely : Prop := fnExactEachOnceRow.holds Try.pinned (OpenSpec.ofChange fnExactEachOnceWrong)

/-- 'laws.FnExactUsesNumber': WHATEVER THE INPUT: true; the input reads as it did. -/
def fnExactUsesNumberSpec : ChangeSpec := { name := "fnExactUsesNumber", fn := fun _ => fun
  | [d] => { results := [.lit (.bool true)], args := [d] }
  | _ => none }
def fnExactUsesNumberRow : OpenClaim := { program := "ytelhogeaobofpaa", sum := "1e16327b840c4071d728694669d113875226494e1a32a56862138bbb72ecf4b2", func := "loop.example/structuredjumps/laws.FnExactUsesNumber", spec := "fnExactUsesNumber", inPlace := ["internal/bytealg.IndexByteString", "internal/bytealg.IndexString"], unfollowed := true, recurses := true, named := ["internal/bytealg.MaxLen"], apart := false }
def FnExactUsesNumberSaid : Prop := fnExactUsesNumberRow.holds Try.pinned (OpenSpec.ofChange fnExactUsesNumberSpec)

/-- ITS FALSE NEIGHBOUR: 'it returns false'. Refute it at one input. -/
def fnExactUsesNumberWrong : ChangeSpec := { name := "fnExactUsesNumber", fn := fun _ => fun
  | [d] => { results := [.lit (.bool false)], args := [d] }
  | _ => none }
def FnExactUsesNumberWrongFalsely : Prop := fnExactUsesNumberRow.holds Try.pinned (OpenSpec.ofChange fnExactUsesNumberWrong)

/-- 'laws.FnTexts': WHATEVER THE INPUT: true; the input reads as it did. -/
def fnTextsSpec : ChangeSpec := { name := "fnTexts", fn := fun _ => fun
  | [d] => { results := [.lit (.bool true)], args := [d] }
  | _ => none }
def fnTextsRow : OpenClaim := { program := "ytelhogeaobofpaa", sum := "1e16327b840c4071d728694669d113875226494e1a32a56862138bbb72ecf4b2", func := "loop.example/structuredjumps/laws.FnTexts", spec := "fnTexts", inPlace := ["internal/bytealg.IndexByteString", "internal/bytealg.IndexString", "internal/abi.NoEscape"], unfollowed := true, recurses := true, named := ["internal/bytealg.MaxLen"], apart := false }
def FnTextsSaid : Prop := fnTextsRow.holds Try.pinned (OpenSpec.ofChange fnTextsSpec)

/-- ITS FALSE NEIGHBOUR: 'it returns false'. Refute it at one input. -/
def fnTextsWrong : ChangeSpec := { name := "fnTexts", fn := fun _ => fun
  | [d] => { results := [.lit (.bool false)], args := [d] }
  | _ => none }
def FnTextsWrongFalsely : Prop := fnTextsRow.holds Try.pinned (OpenSpec.ofChange fnTextsWrong)

/-- 'laws.FnItems': WHATEVER THE INPUT: true; the input reads as it did. -/
def fnItemsSpec : ChangeSpec := { name := "fnItems", fn := fun _ => fun
  | [d1, d2] => { results := [.lit (.bool true)], args := [d1, d2] }
  | _ => none }
def fnItemsRow : OpenClaim := { program := "ytelhogeaobofpaa", sum := "1e16327b840c4071d728694669d113875226494e1a32a56862138bbb72ecf4b2", func := "loop.example/structuredjumps/laws.FnItems", spec := "fnItems", inPlace := ["internal/bytealg.IndexByteString", "internal/bytealg.IndexString", "internal/abi.NoEscape"], unfollowed := true, recurses := true, named := ["internal/bytealg.MaxLen"], apart := false }
def FnItemsSaid : Prop := fnItemsRow.holds Try.pinned (OpenSpec.ofChange fnItemsSpec)

/-- ITS FALSE NEIGHBOUR: 'it returns false'. Refute it at one input. -/
def fnItemsWrong : ChangeSpec := { name := "fnItems", fn := fun _ => fun
  | [d1, d2] => { results := [.lit (.bool false)], args := [d1, d2] }
  | _ => none }
def FnItemsWrongFalsely : Prop := fnItemsRow.holds Try.pinned (OpenSpec.ofChange fnItemsWrong)

/-- 'laws.FnBehind': WHATEVER THE INPUT: true; the input reads as it did. -/
def fnBehindSpec : ChangeSpec := { name := "fnBehind", fn := fun _ => fun
  | [d1, d2] => { results := [.lit (.bool true)], args := [d1, d2] }
  | _ => none }
def fnBehindRow : OpenClaim := { program := "ytelhogeaobofpaa", sum := "1e16327b840c4071d728694669d113875226494e1a32a56862138bbb72ecf4b2", func := "loop.example/structuredjumps/laws.FnBehind", spec := "fnBehind", inPlace := ["internal/bytealg.IndexByteString", "internal/bytealg.IndexString", "internal/abi.NoEscape"], unfollowed := true, recurses := true, named := ["internal/bytealg.MaxLen"], apart := false }
def FnBehindSaid : Prop := fnBehindRow.holds Try.pinned (OpenSpec.ofChange fnBehindSpec)

/-- ITS FALSE NEIGHBOUR: 'it returns false'. Refute it at one input. -/
def fnBehindWrong : ChangeSpec := { name := "fnBehind", fn := fun _ => fun
  | [d1, d2] => { results := [.lit (.bool false)], args := [d1, d2] }
  | _ => none }
def FnBehindWrongFalsely : Prop := fnBehindRow.holds Try.pinned (OpenSpec.ofChange fnBehindWrong)

/-- 'laws.FnFramed': WHATEVER THE INPUT: true; the input reads as it did. -/
def fnFramedSpec : ChangeSpec := { name := "fnFramed", fn := fun _ => fun
  | [d] => { results := [.lit (.bool true)], args := [d] }
  | _ => none }
def fnFramedRow : OpenClaim := { program := "ytelhogeaobofpaa", sum := "1e16327b840c4071d728694669d113875226494e1a32a56862138bbb72ecf4b2", func := "loop.example/structuredjumps/laws.FnFramed", spec := "fnFramed", inPlace := ["internal/bytealg.IndexByteString", "internal/bytealg.IndexString"], unfollowed := true, recurses := true, named := ["internal/bytealg.MaxLen"], apart := false }
def FnFramedSaid : Prop := fnFramedRow.holds Try.pinned (OpenSpec.ofChange fnFramedSpec)

/-- ITS FALSE NEIGHBOUR: 'it returns false'. Refute it at one input. -/
def fnFramedWrong : ChangeSpec := { name := "fnFramed", fn := fun _ => fun
  | [d] => { results := [.lit (.bool false)], args := [d] }
  | _ => none }
def FnFramedWrongFalsely : Prop := fnFramedRow.holds Try.pinned (OpenSpec.ofChange fnFramedWrong)

/-- 'laws.FnLength': WHATEVER THE INPUT: true; the input reads as it did. -/
def fnLengthSpec : ChangeSpec := { name := "fnLength", fn := fun _ => fun
  | [d] => { results := [.lit (.bool true)], args := [d] }
  | _ => none }
def fnLengthRow : OpenClaim := { program := "ytelhogeaobofpaa", sum := "1e16327b840c4071d728694669d113875226494e1a32a56862138bbb72ecf4b2", func := "loop.example/structuredjumps/laws.FnLength", spec := "fnLength", inPlace := ["internal/bytealg.IndexByteString", "internal/bytealg.IndexString"], unfollowed := true, recurses := true, named := ["internal/bytealg.MaxLen"], apart := false }
def FnLengthSaid : Prop := fnLengthRow.holds Try.pinned (OpenSpec.ofChange fnLengthSpec)

/-- ITS FALSE NEIGHBOUR: 'it returns false'. Refute it at one input. -/
def fnLengthWrong : ChangeSpec := { name := "fnLength", fn := fun _ => fun
  | [d] => { results := [.lit (.bool false)], args := [d] }
  | _ => none }
def FnLengthWrongFalsely : Prop := fnLengthRow.holds Try.pinned (OpenSpec.ofChange fnLengthWrong)

/-- 'laws.FnOnce': WHATEVER THE INPUT: true; the input reads as it did. -/
def fnOnceSpec : ChangeSpec := { name := "fnOnce", fn := fun _ => fun
  | [d] => { results := [.lit (.bool true)], args := [d] }
  | _ => none }
def fnOnceRow : OpenClaim := { program := "ytelhogeaobofpaa", sum := "1e16327b840c4071d728694669d113875226494e1a32a56862138bbb72ecf4b2", func := "loop.example/structuredjumps/laws.FnOnce", spec := "fnOnce", inPlace := ["internal/bytealg.IndexByteString", "internal/bytealg.IndexString", "internal/abi.NoEscape"], unfollowed := true, recurses := true, named := ["internal/bytealg.MaxLen"], apart := false }
def FnOnceSaid : Prop := fnOnceRow.holds Try.pinned (OpenSpec.ofChange fnOnceSpec)

/-- ITS FALSE NEIGHBOUR: 'it returns false'. Refute it at one input. -/
def fnOnceWrong : ChangeSpec := { name := "fnOnce", fn := fun _ => fun
  | [d] => { results := [.lit (.bool false)], args := [d] }
  | _ => none }
def FnOnceWrongFalsely : Prop := fnOnceRow.holds Try.pinned (OpenSpec.ofChange fnOnceWrong)

/-- 'laws.FnExactShortChoices': WHATEVER THE INPUT: true; the input reads as it did. -/
def fnExactShortChoicesSpec : ChangeSpec := { name := "fnExactShortChoices", fn := fun _ => fun
  | [d] => { results := [.lit (.bool true)], args := [d] }
  | _ => none }
def fnExactShortChoicesRow : OpenClaim := { program := "ytelhogeaobofpaa", sum := "1e16327b840c4071d728694669d113875226494e1a32a56862138bbb72ecf4b2", func := "loop.example/structuredjumps/laws.FnExactShortChoices", spec := "fnExactShortChoices", unfollowed := true, recurses := true, apart := false }
def FnExactShortChoicesSaid : Prop := fnExactShortChoicesRow.holds Try.pinned (OpenSpec.ofChange fnExactShortChoicesSpec)

/-- ITS FALSE NEIGHBOUR: 'it returns false'. Refute it at one input. -/
def fnExactShortChoicesWrong : ChangeSpec := { name := "fnExactShortChoices", fn := fun _ => fun
  | [d] => { results := [.lit (.bool false)], args := [d] }
  | _ => none }
def FnExactShortChoicesWrongFalsely : Prop := fnExactShortChoicesRow.holds Try.pinned (OpenSpec.ofChange fnExactShortChoicesWrong)

/- THE SECOND FORM. 'bulk': how many values and letters a reading holds, each counted each time it is reached (what is shared counts as often as it is met; a slice's spare places count too). A statement '..UptoSaid' is the law's where the arguments, and the package variables that the reading takes, are together of bulk at most 1048576: NARROWER than '..Said'. Prove '..Said' where nothing that the law and all that it calls make is longer than what came in: it says more and counts as full. Else prove '..UptoSaid'. A law counts once. -/
mutual
def uptoBulk {H : Type} : DataW H → Nat
  | .lit (.string bytes) => bytes.length + 1
  | .lit _ => 1
  | .nil => 1
  | .ptr d => uptoBulk d + 1
  | .slice elems spare => uptoBulkAll elems + uptoBulkAll spare + 1
  | .agg parts => uptoBulkAll parts + 1
  | .iface _ d => uptoBulk d + 1
  | .map entries => uptoBulkEntries entries + 1
  | .held _ => 1
def uptoBulkAll {H : Type} : List (DataW H) → Nat
  | [] => 0
  | d :: r => uptoBulk d + uptoBulkAll r
def uptoBulkEntries {H : Type} : List (Lit × DataW H) → Nat
  | [] => 0
  | x :: r => uptoBulkEntry x + uptoBulkEntries r
def uptoBulkEntry {H : Type} : Lit × DataW H → Nat
  | (.string bytes, d) => bytes.length + uptoBulk d + 1
  | (_, d) => uptoBulk d + 1
 end
def uptoSmall : (H : Type) → List (DataW H) → Bool := fun _ ds => decide (uptoBulkAll ds ≤ 1048576)
def OpenSpec.upto (s : _root_.Go.ChangeSpec) : _root_.Go.OpenSpec := { _root_.Go.OpenSpec.ofChange s with cond := some uptoSmall }

/-- 'laws.FnExactBlocksIn', WHERE WHAT IT READS IS OF BULK AT MOST 1048576: true; the input reads as it did. -/
def fnExactBlocksInUptoRow : OpenClaim := { program := "ytelhogeaobofpaa", sum := "1e16327b840c4071d728694669d113875226494e1a32a56862138bbb72ecf4b2", func := "loop.example/structuredjumps/laws.FnExactBlocksIn", spec := "fnExactBlocksIn", inPlace := ["internal/bytealg.IndexByteString", "internal/bytealg.IndexString", "internal/abi.NoEscape"], unfollowed := true, recurses := true, named := ["internal/bytealg.MaxLen"], apart := false, narrowed := true }
def FnExactBlocksInUptoSaid : Prop := fnExactBlocksInUptoRow.holds Try.pinned (OpenSpec.upto fnExactBlocksInSpec)

/-- 'laws.FnExactCountLeaves', WHERE WHAT IT READS IS OF BULK AT MOST 1048576: true; the input reads as it did. -/
def fnExactCountLeavesUptoRow : OpenClaim := { program := "ytelhogeaobofpaa", sum := "1e16327b840c4071d728694669d113875226494e1a32a56862138bbb72ecf4b2", func := "loop.example/structuredjumps/laws.FnExactCountLeaves", spec := "fnExactCountLeaves", inPlace := ["internal/bytealg.IndexByteString", "internal/bytealg.IndexString"], unfollowed := true, recurses := true, named := ["internal/bytealg.MaxLen"], apart := false, narrowed := true }
def FnExactCountLeavesUptoSaid : Prop := fnExactCountLeavesUptoRow.holds Try.pinned (OpenSpec.upto fnExactCountLeavesSpec)

/-- 'laws.FnExactCountItems', WHERE WHAT IT READS IS OF BULK AT MOST 1048576: true; the input reads as it did. -/
def fnExactCountItemsUptoRow : OpenClaim := { program := "ytelhogeaobofpaa", sum := "1e16327b840c4071d728694669d113875226494e1a32a56862138bbb72ecf4b2", func := "loop.example/structuredjumps/laws.FnExactCountItems", spec := "fnExactCountItems", inPlace := ["internal/bytealg.IndexByteString", "internal/bytealg.IndexString"], unfollowed := true, recurses := true, named := ["internal/bytealg.MaxLen"], apart := false, narrowed := true }
def FnExactCountItemsUptoSaid : Prop := fnExactCountItemsUptoRow.holds Try.pinned (OpenSpec.upto fnExactCountItemsSpec)

/-- 'laws.FnExactEachOnce', WHERE WHAT IT READS IS OF BULK AT MOST 1048576: true; the input reads as it did. -/
def fnExactEachOnceUptoRow : OpenClaim := { program := "ytelhogeaobofpaa", sum := "1e16327b840c4071d728694669d113875226494e1a32a56862138bbb72ecf4b2", func := "loop.example/structuredjumps/laws.FnExactEachOnce", spec := "fnExactEachOnce", inPlace := ["internal/bytealg.IndexByteString", "internal/bytealg.IndexString", "internal/abi.NoEscape"], unfollowed := true, recurses := true, named := ["internal/bytealg.MaxLen"], apart := false, narrowed := true }
def FnExactEachOnceUptoSaid : Prop := fnExactEachOnceUptoRow.holds Try.pinned (OpenSpec.upto fnExactEachOnceSpec)

/-- 'laws.FnExactUsesNumber', WHERE WHAT IT READS IS OF BULK AT MOST 1048576: true; the input reads as it did. -/
def fnExactUsesNumberUptoRow : OpenClaim := { program := "ytelhogeaobofpaa", sum := "1e16327b840c4071d728694669d113875226494e1a32a56862138bbb72ecf4b2", func := "loop.example/structuredjumps/laws.FnExactUsesNumber", spec := "fnExactUsesNumber", inPlace := ["internal/bytealg.IndexByteString", "internal/bytealg.IndexString"], unfollowed := true, recurses := true, named := ["internal/bytealg.MaxLen"], apart := false, narrowed := true }
def FnExactUsesNumberUptoSaid : Prop := fnExactUsesNumberUptoRow.holds Try.pinned (OpenSpec.upto fnExactUsesNumberSpec)

/-- 'laws.FnTexts', WHERE WHAT IT READS IS OF BULK AT MOST 1048576: true; the input reads as it did. -/
def fnTextsUptoRow : OpenClaim := { program := "ytelhogeaobofpaa", sum := "1e16327b840c4071d728694669d113875226494e1a32a56862138bbb72ecf4b2", func := "loop.example/structuredjumps/laws.FnTexts", spec := "fnTexts", inPlace := ["internal/bytealg.IndexByteString", "internal/bytealg.IndexString", "internal/abi.NoEscape"], unfollowed := true, recurses := true, named := ["internal/bytealg.MaxLen"], apart := false, narrowed := true }
def FnTextsUptoSaid : Prop := fnTextsUptoRow.holds Try.pinned (OpenSpec.upto fnTextsSpec)

/-- 'laws.FnItems', WHERE WHAT IT READS IS OF BULK AT MOST 1048576: true; the input reads as it did. -/
def fnItemsUptoRow : OpenClaim := { program := "ytelhogeaobofpaa", sum := "1e16327b840c4071d728694669d113875226494e1a32a56862138bbb72ecf4b2", func := "loop.example/structuredjumps/laws.FnItems", spec := "fnItems", inPlace := ["internal/bytealg.IndexByteString", "internal/bytealg.IndexString", "internal/abi.NoEscape"], unfollowed := true, recurses := true, named := ["internal/bytealg.MaxLen"], apart := false, narrowed := true }
def FnItemsUptoSaid : Prop := fnItemsUptoRow.holds Try.pinned (OpenSpec.upto fnItemsSpec)

/-- 'laws.FnBehind', WHERE WHAT IT READS IS OF BULK AT MOST 1048576: true; the input reads as it did. -/
def fnBehindUptoRow : OpenClaim := { program := "ytelhogeaobofpaa", sum := "1e16327b840c4071d728694669d113875226494e1a32a56862138bbb72ecf4b2", func := "loop.example/structuredjumps/laws.FnBehind", spec := "fnBehind", inPlace := ["internal/bytealg.IndexByteString", "internal/bytealg.IndexString", "internal/abi.NoEscape"], unfollowed := true, recurses := true, named := ["internal/bytealg.MaxLen"], apart := false, narrowed := true }
def FnBehindUptoSaid : Prop := fnBehindUptoRow.holds Try.pinned (OpenSpec.upto fnBehindSpec)

/-- 'laws.FnFramed', WHERE WHAT IT READS IS OF BULK AT MOST 1048576: true; the input reads as it did. -/
def fnFramedUptoRow : OpenClaim := { program := "ytelhogeaobofpaa", sum := "1e16327b840c4071d728694669d113875226494e1a32a56862138bbb72ecf4b2", func := "loop.example/structuredjumps/laws.FnFramed", spec := "fnFramed", inPlace := ["internal/bytealg.IndexByteString", "internal/bytealg.IndexString"], unfollowed := true, recurses := true, named := ["internal/bytealg.MaxLen"], apart := false, narrowed := true }
def FnFramedUptoSaid : Prop := fnFramedUptoRow.holds Try.pinned (OpenSpec.upto fnFramedSpec)

/-- 'laws.FnLength', WHERE WHAT IT READS IS OF BULK AT MOST 1048576: true; the input reads as it did. -/
def fnLengthUptoRow : OpenClaim := { program := "ytelhogeaobofpaa", sum := "1e16327b840c4071d728694669d113875226494e1a32a56862138bbb72ecf4b2", func := "loop.example/structuredjumps/laws.FnLength", spec := "fnLength", inPlace := ["internal/bytealg.IndexByteString", "internal/bytealg.IndexString"], unfollowed := true, recurses := true, named := ["internal/bytealg.MaxLen"], apart := false, narrowed := true }
def FnLengthUptoSaid : Prop := fnLengthUptoRow.holds Try.pinned (OpenSpec.upto fnLengthSpec)

/-- 'laws.FnOnce', WHERE WHAT IT READS IS OF BULK AT MOST 1048576: true; the input reads as it did. -/
def fnOnceUptoRow : OpenClaim := { program := "ytelhogeaobofpaa", sum := "1e16327b840c4071d728694669d113875226494e1a32a56862138bbb72ecf4b2", func := "loop.example/structuredjumps/laws.FnOnce", spec := "fnOnce", inPlace := ["internal/bytealg.IndexByteString", "internal/bytealg.IndexString", "internal/abi.NoEscape"], unfollowed := true, recurses := true, named := ["internal/bytealg.MaxLen"], apart := false, narrowed := true }
def FnOnceUptoSaid : Prop := fnOnceUptoRow.holds Try.pinned (OpenSpec.upto fnOnceSpec)

/-- 'laws.FnExactShortChoices', WHERE WHAT IT READS IS OF BULK AT MOST 1048576: true; the input reads as it did. -/
def fnExactShortChoicesUptoRow : OpenClaim := { program := "ytelhogeaobofpaa", sum := "1e16327b840c4071d728694669d113875226494e1a32a56862138bbb72ecf4b2", func := "loop.example/structuredjumps/laws.FnExactShortChoices", spec := "fnExactShortChoices", unfollowed := true, recurses := true, apart := false, narrowed := true }
def FnExactShortChoicesUptoSaid : Prop := fnExactShortChoicesUptoRow.holds Try.pinned (OpenSpec.upto fnExactShortChoicesSpec)

end Rows
end Go.Proofs.Ytelhogeaobofpaa
