/-
  No cell of these rows narrows 'for every input' (looked for: loops, veiled, ifaces, maps, wideKeys, modest, calm, conditions, laid).
  DERIVED. THE GIVEN ROWS OF THIS SEAT. 7 by the template 'for every input the law returns true; each argument reads behind the call as it read before'; 0 by the template 'total and deterministic' (their statements: YtgkamcnbpiipoaaTotals.lean).
  GIVEN WITH THE SEED: the statements are not yours to turn. If you find one false, say at which input.
  Laid BY PROGRAM, IN A SANDBOX (cutbox-rows.mjs): the forced cells as the released guide's own fill.sh prints them over the translation 5acf086eb11df3f7… (all of the seat's roots in one cut). By AI agents, Wed Nov 11 2026. No macro, syntax, notation, axiom, sorry.
-/
import Derived.Test.YtgkamcnbpiipoaaChecked
import GoSem.Claim
import GoSem.ClaimJoined
import GoSem.ClaimMapViews
import Derived.JoinedTies
import Derived.KernelRfl
namespace Go.Proofs.Ytgkamcnbpiipoaa
/- THE CELL 'sum', in the pinned program and in every row, IS THE sha256 OF THE DUMP (.gsa) THAT YtgkamcnbpiipoaaProg.lean LOADS. Nothing in Lean hashes anything: it is a label: what it is worth is what the hold of that sum in a sandbox is worth. -/
noncomputable def Try.pinned : Pinned := { name := "ytgkamcnbpiipoaa", sum := "5acf086eb11df3f72000d76b9fe2bec61f7a39ea38bfadbd8a65e03ee5a3f8e8", checked := Try.checked }
namespace Rows
def none {H : Type} : Left H := { results := [], args := [] }

/-- 'laws.FnRunText': WHATEVER THE INPUT: true; the input reads as it did. -/
def fnRunTextSpec : ChangeSpec := { name := "fnRunText", fn := fun _ => fun
  | [d1, d2] => { results := [.lit (.bool true)], args := [d1, d2] }
  | _ => none }
def fnRunTextRow : OpenClaim := { program := "ytgkamcnbpiipoaa", sum := "5acf086eb11df3f72000d76b9fe2bec61f7a39ea38bfadbd8a65e03ee5a3f8e8", func := "loop.example/structuredjumps/laws.FnRunText", spec := "fnRunText", inPlace := ["internal/bytealg.IndexByteString", "internal/bytealg.IndexString", "internal/abi.NoEscape"], unfollowed := true, recurses := true, named := ["internal/bytealg.MaxLen"], leaving := true, apart := false }
def FnRunTextSaid : Prop := fnRunTextRow.holds Try.pinned (OpenSpec.ofChange fnRunTextSpec)

/-- ITS FALSE NEIGHBOUR: 'it returns false'. Refute it at one input. -/
def fnRunTextWrong : ChangeSpec := { name := "fnRunText", fn := fun _ => fun
  | [d1, d2] => { results := [.lit (.bool false)], args := [d1, d2] }
  | _ => none }
def FnRunTextWrongFalsely : Prop := fnRunTextRow.holds Try.pinned (OpenSpec.ofChange fnRunTextWrong)

/-- 'laws.FnDot': WHATEVER THE INPUT: true; the input reads as it did. -/
def fnDotSpec : ChangeSpec := { name := "fnDot", fn := fun _ => fun
  | [d] => { results := [.lit (.bool true)], args := [d] }
  | _ => none }
def fnDotRow : OpenClaim := { program := "ytgkamcnbpiipoaa", sum := "5acf086eb11df3f72000d76b9fe2bec61f7a39ea38bfadbd8a65e03ee5a3f8e8", func := "loop.example/structuredjumps/laws.FnDot", spec := "fnDot", inPlace := ["internal/bytealg.IndexByteString", "internal/bytealg.IndexString"], unfollowed := true, recurses := true, named := ["internal/bytealg.MaxLen"], leaving := true, apart := false }
def FnDotSaid : Prop := fnDotRow.holds Try.pinned (OpenSpec.ofChange fnDotSpec)

/-- ITS FALSE NEIGHBOUR: 'it returns false'. Refute it at one input. -/
def fnDotWrong : ChangeSpec := { name := "fnDot", fn := fun _ => fun
  | [d] => { results := [.lit (.bool false)], args := [d] }
  | _ => none }
def FnDotWrongFalsely : Prop := fnDotRow.holds Try.pinned (OpenSpec.ofChange fnDotWrong)

/-- 'laws.FnLoopOnce': WHATEVER THE INPUT: true; the input reads as it did. -/
def fnLoopOnceSpec : ChangeSpec := { name := "fnLoopOnce", fn := fun _ => fun
  | [d] => { results := [.lit (.bool true)], args := [d] }
  | _ => none }
def fnLoopOnceRow : OpenClaim := { program := "ytgkamcnbpiipoaa", sum := "5acf086eb11df3f72000d76b9fe2bec61f7a39ea38bfadbd8a65e03ee5a3f8e8", func := "loop.example/structuredjumps/laws.FnLoopOnce", spec := "fnLoopOnce", inPlace := ["internal/bytealg.IndexByteString", "internal/bytealg.IndexString"], unfollowed := true, recurses := true, named := ["internal/bytealg.MaxLen"], leaving := true, apart := false }
def FnLoopOnceSaid : Prop := fnLoopOnceRow.holds Try.pinned (OpenSpec.ofChange fnLoopOnceSpec)

/-- ITS FALSE NEIGHBOUR: 'it returns false'. Refute it at one input. -/
def fnLoopOnceWrong : ChangeSpec := { name := "fnLoopOnce", fn := fun _ => fun
  | [d] => { results := [.lit (.bool false)], args := [d] }
  | _ => none }
def FnLoopOnceWrongFalsely : Prop := fnLoopOnceRow.holds Try.pinned (OpenSpec.ofChange fnLoopOnceWrong)

/-- 'laws.FnExactSameRuns': WHATEVER THE INPUT: true; the input reads as it did. -/
def fnExactSameRunsSpec : ChangeSpec := { name := "fnExactSameRuns", fn := fun _ => fun
  | [d1, d2] => { results := [.lit (.bool true)], args := [d1, d2] }
  | _ => none }
def fnExactSameRunsRow : OpenClaim := { program := "ytgkamcnbpiipoaa", sum := "5acf086eb11df3f72000d76b9fe2bec61f7a39ea38bfadbd8a65e03ee5a3f8e8", func := "loop.example/structuredjumps/laws.FnExactSameRuns", spec := "fnExactSameRuns", inPlace := ["internal/bytealg.IndexByteString", "internal/bytealg.IndexString"], unfollowed := true, recurses := true, named := ["internal/bytealg.MaxLen"], leaving := true, apart := false }
def FnExactSameRunsSaid : Prop := fnExactSameRunsRow.holds Try.pinned (OpenSpec.ofChange fnExactSameRunsSpec)

/-- ITS FALSE NEIGHBOUR: 'it returns false'. Refute it at one input. -/
def fnExactSameRunsWrong : ChangeSpec := { name := "fnExactSameRuns", fn := fun _ => fun
  | [d1, d2] => { results := [.lit (.bool false)], args := [d1, d2] }
  | _ => none }
def FnExactSameRunsWrongFalsely : Prop := fnExactSameRunsRow.holds Try.pinned (OpenSpec.ofChange fnExactSameRunsWrong)

/-- 'laws.FnExactFirstOther': WHATEVER THE INPUT: true; the input reads as it did. -/
def fnExactFirstOtherSpec : ChangeSpec := { name := "fnExactFirstOther", fn := fun _ => fun
  | [d1, d2] => { results := [.lit (.bool true)], args := [d1, d2] }
  | _ => none }
def fnExactFirstOtherRow : OpenClaim := { program := "ytgkamcnbpiipoaa", sum := "5acf086eb11df3f72000d76b9fe2bec61f7a39ea38bfadbd8a65e03ee5a3f8e8", func := "loop.example/structuredjumps/laws.FnExactFirstOther", spec := "fnExactFirstOther", inPlace := ["internal/bytealg.IndexByteString", "internal/bytealg.IndexString"], unfollowed := true, recurses := true, named := ["internal/bytealg.MaxLen"], leaving := true, apart := false }
def FnExactFirstOtherSaid : Prop := fnExactFirstOtherRow.holds Try.pinned (OpenSpec.ofChange fnExactFirstOtherSpec)

/-- ITS FALSE NEIGHBOUR: 'it returns false'. Refute it at one input. -/
def fnExactFirstOtherWrong : ChangeSpec := { name := "fnExactFirstOther", fn := fun _ => fun
  | [d1, d2] => { results := [.lit (.bool false)], args := [d1, d2] }
  | _ => none }
def FnExactFirstOtherWrongFalsely : Prop := fnExactFirstOtherRow.holds Try.pinned (OpenSpec.ofChange fnExactFirstOtherWrong)

/-- 'laws.FnExactSameTexts': WHATEVER THE INPUT: true; the input reads as it did. -/
def fnExactSameTextsSpec : ChangeSpec := { name := "fnExactSameTexts", fn := fun _ => fun
  | [d1, d2] => { results := [.lit (.bool true)], args := [d1, d2] }
  | _ => none }
def fnExactSameTextsRow : OpenClaim := { program := "ytgkamcnbpiipoaa", sum := "5acf086eb11df3f72000d76b9fe2bec61f7a39ea38bfadbd8a65e03ee5a3f8e8", func := "loop.example/structuredjumps/laws.FnExactSameTexts", spec := "fnExactSameTexts", inPlace := ["internal/bytealg.IndexByteString", "internal/bytealg.IndexString"], unfollowed := true, recurses := true, named := ["internal/bytealg.MaxLen"], leaving := true, apart := false }
def FnExactSameTextsSaid : Prop := fnExactSameTextsRow.holds Try.pinned (OpenSpec.ofChange fnExactSameTextsSpec)

/-- ITS FALSE NEIGHBOUR: 'it returns false'. Refute it at one input. -/
def fnExactSameTextsWrong : ChangeSpec := { name := "fnExactSameTexts", fn := fun _ => fun
  | [d1, d2] => { results := [.lit (.bool false)], args := [d1, d2] }
  | _ => none }
def FnExactSameTextsWrongFalsely : Prop := fnExactSameTextsRow.holds Try.pinned (OpenSpec.ofChange fnExactSameTextsWrong)

/-- 'laws.FnSameTexts': WHATEVER THE INPUT: true; the input reads as it did. -/
def fnSameTextsSpec : ChangeSpec := { name := "fnSameTexts", fn := fun _ => fun
  | [d1, d2] => { results := [.lit (.bool true)], args := [d1, d2] }
  | _ => none }
def fnSameTextsRow : OpenClaim := { program := "ytgkamcnbpiipoaa", sum := "5acf086eb11df3f72000d76b9fe2bec61f7a39ea38bfadbd8a65e03ee5a3f8e8", func := "loop.example/structuredjumps/laws.FnSameTexts", spec := "fnSameTexts", inPlace := ["internal/bytealg.IndexByteString", "internal/bytealg.IndexString"], unfollowed := true, recurses := true, named := ["internal/bytealg.MaxLen"], leaving := true, apart := false }
def FnSameTextsSaid : Prop := fnSameTextsRow.holds Try.pinned (OpenSpec.ofChange fnSameTextsSpec)

/-- ITS FALSE NEIGHBOUR: 'it returns false'. Refute it at one input. -/
def fnSameTextsWrong : ChangeSpec := { name := "fnSameTexts", fn := fun _ => fun
  | [d1, d2] => { results := [.lit (.bool false)], args := [d1, d2] }
  | _ => none }
def FnSameTextsWrongFalsely : Prop := fnSameTextsRow.holds Try.pinned (OpenSpec.ofChange fnSameTextsWrong)

/- THE SECOND FORM. 'bulk': how many values and letters a reading holds, each counted each time it is reached (what is shared counts as often as it is met; a slice's spare places count too). A statement '..UptoSaid' is the law's where the arguments, and the package variables that the reading takes, are together of bulk at most 1048576: NARROWER than '..Said'. Prove '..Said' where nothing that the law and all that it calls make is longer than what came in: it says more and counts as full. Else prove '..UptoSaid'. A law counts once. -/
mutual
def uptoBulk {H : Type} : DataW H → Nat
  | .lit (.string bytes) => bytes.length + 1
  | .lit _ => 1
  | .nil => 1
  | .ptr d => uptoBulk d + 1
  | .slice elems spare => uptoBulkAll elems + uptoBulkAll spare + 1
  | .agg parts => uptoBulkAll parts + 1
  | .iface _ d => uptoBulk d + 1
  | .map entries => uptoBulkEntries entries + 1
  | .held _ => 1
def uptoBulkAll {H : Type} : List (DataW H) → Nat
  | [] => 0
  | d :: r => uptoBulk d + uptoBulkAll r
def uptoBulkEntries {H : Type} : List (Lit × DataW H) → Nat
  | [] => 0
  | x :: r => uptoBulkEntry x + uptoBulkEntries r
def uptoBulkEntry {H : Type} : Lit × DataW H → Nat
  | (.string bytes, d) => bytes.length + uptoBulk d + 1
  | (_, d) => uptoBulk d + 1
 end
def uptoSmall : (H : Type) → List (DataW H) → Bool := fun _ ds => decide (uptoBulkAll ds ≤ 1048576)
def OpenSpec.upto (s : _root_.Go.ChangeSpec) : _root_.Go.OpenSpec := { _root_.Go.OpenSpec.ofChange s with cond := some uptoSmall }

/-- 'laws.FnRunText', WHERE WHAT IT READS IS OF BULK AT MOST 1048576: true; the input reads as it did. -/
def fnRunTextUptoRow : OpenClaim := { program := "ytgkamcnbpiipoaa", sum := "5acf086eb11df3f72000d76b9fe2bec61f7a39ea38bfadbd8a65e03ee5a3f8e8", func := "loop.example/structuredjumps/laws.FnRunText", spec := "fnRunText", inPlace := ["internal/bytealg.IndexByteString", "internal/bytealg.IndexString", "internal/abi.NoEscape"], unfollowed := true, recurses := true, named := ["internal/bytealg.MaxLen"], leaving := true, apart := false, narrowed := true }
def FnRunTextUptoSaid : Prop := fnRunTextUptoRow.holds Try.pinned (OpenSpec.upto fnRunTextSpec)

/-- 'laws.FnDot', WHERE WHAT IT READS IS OF BULK AT MOST 1048576: true; the input reads as it did. -/
def fnDotUptoRow : OpenClaim := { program := "ytgkamcnbpiipoaa", sum := "5acf086eb11df3f72000d76b9fe2bec61f7a39ea38bfadbd8a65e03ee5a3f8e8", func := "loop.example/structuredjumps/laws.FnDot", spec := "fnDot", inPlace := ["internal/bytealg.IndexByteString", "internal/bytealg.IndexString"], unfollowed := true, recurses := true, named := ["internal/bytealg.MaxLen"], leaving := true, apart := false, narrowed := true }
def FnDotUptoSaid : Prop := fnDotUptoRow.holds Try.pinned (OpenSpec.upto fnDotSpec)

/-- 'laws.FnLoopOnce', WHERE WHAT IT READS IS OF BULK AT MOST 1048576: true; the input reads as it did. -/
def fnLoopOnceUptoRow : OpenClaim := { program := "ytgkamcnbpiipoaa", sum := "5acf086eb11df3f72000d76b9fe2bec61f7a39ea38bfadbd8a65e03ee5a3f8e8", func := "loop.example/structuredjumps/laws.FnLoopOnce", spec := "fnLoopOnce", inPlace := ["internal/bytealg.IndexByteString", "internal/bytealg.IndexString"], unfollowed := true, recurses := true, named := ["internal/bytealg.MaxLen"], leaving := true, apart := false, narrowed := true }
def FnLoopOnceUptoSaid : Prop := fnLoopOnceUptoRow.holds Try.pinned (OpenSpec.upto fnLoopOnceSpec)

/-- 'laws.FnExactSameRuns', WHERE WHAT IT READS IS OF BULK AT MOST 1048576: true; the input reads as it did. -/
def fnExactSameRunsUptoRow : OpenClaim := { program := "ytgkamcnbpiipoaa", sum := "5acf086eb11df3f72000d76b9fe2bec61f7a39ea38bfadbd8a65e03ee5a3f8e8", func := "loop.example/structuredjumps/laws.FnExactSameRuns", spec := "fnExactSameRuns", inPlace := ["internal/bytealg.IndexByteString", "internal/bytealg.IndexString"], unfollowed := true, recurses := true, named := ["internal/bytealg.MaxLen"], leaving := true, apart := false, narrowed := true }
def FnExactSameRunsUptoSaid : Prop := fnExactSameRunsUptoRow.holds Try.pinned (OpenSpec.upto fnExactSameRunsSpec)

/-- 'laws.FnExactFirstOther', WHERE WHAT IT READS IS OF BULK AT MOST 1048576: true; the input reads as it did. -/
def fnExactFirstOtherUptoRow : OpenClaim := { program := "ytgkamcnbpiipoaa", sum := "5acf086eb11df3f72000d76b9fe2bec61f7a39ea38bfadbd8a65e03ee5a3f8e8", func := "loop.example/structuredjumps/laws.FnExactFirstOther", spec := "fnExactFirstOther", inPlace := ["internal/bytealg.IndexByteString", "internal/bytealg.IndexString"], unfollowed := true, recurses := true, named := ["internal/bytealg.MaxLen"], leaving := true, apart := false, narrowed := true }
def FnExactFirstOtherUptoSaid : Prop := fnExactFirstOtherUptoRow.holds Try.pinned (OpenSpec.upto fnExactFirstOtherSpec)

/-- 'laws.FnExactSameTexts', WHERE WHAT IT READS IS OF BULK AT MOST 1048576: true; the input reads as it did. -/
def fnExactSameTextsUptoRow : OpenClaim := { program := "ytgkamcnbpiipoaa", sum := "5acf086eb11df3f72000d76b9fe2bec61f7a39ea38bfadbd8a65e03ee5a3f8e8", func := "loop.example/structuredjumps/laws.FnExactSameTexts", spec := "fnExactSameTexts", inPlace := ["internal/bytealg.IndexByteString", "internal/bytealg.IndexString"], unfollowed := true, recurses := true, named := ["internal/bytealg.MaxLen"], leaving := true, apart := false, narrowed := true }
def FnExactSameTextsUptoSaid : Prop := fnExactSameTextsUptoRow.holds Try.pinned (OpenSpec.upto fnExactSameTextsSpec)

/-- 'laws.FnSameTexts', WHERE WHAT IT READS IS OF BULK AT MOST 1048576: true; the input reads as it did. -/
def fnSameTextsUptoRow : OpenClaim := { program := "ytgkamcnbpiipoaa", sum := "5acf086eb11df3f72000d76b9fe2bec61f7a39ea38bfadbd8a65e03ee5a3f8e8", func := "loop.example/structuredjumps/laws.FnSameTexts", spec := "fnSameTexts", inPlace := ["internal/bytealg.IndexByteString", "internal/bytealg.IndexString"], unfollowed := true, recurses := true, named := ["internal/bytealg.MaxLen"], leaving := true, apart := false, narrowed := true }
def FnSameTextsUptoSaid : Prop := fnSameTextsUptoRow.holds Try.pinned (OpenSpec.upto fnSameTextsSpec)

end Rows
end Go.Proofs.Ytgkamcnbpiipoaa
