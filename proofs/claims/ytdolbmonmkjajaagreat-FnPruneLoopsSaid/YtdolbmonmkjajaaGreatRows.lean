/-
  No cell of these rows narrows 'for every input' (looked for: loops, veiled, ifaces, maps, wideKeys, modest, calm, conditions, laid).
  DERIVED. THE GIVEN ROWS OF THIS SEAT. 10 by the template 'for every input the law returns true; each argument reads behind the call as it read before'; 0 by the template 'total and deterministic' (their statements: YtdolbmonmkjajaaGreatTotals.lean).
  GIVEN WITH THE SEED: the statements are not yours to turn. If you find one false, say at which input.
  Laid BY PROGRAM, IN A SANDBOX (cutbox-rows.mjs): the forced cells as the released guide's own fill.sh prints them over the translation abf4d73ffbad2244… (all of the seat's roots in one cut). By AI agents, Wed Nov 11 2026. No macro, syntax, notation, axiom, sorry.
-/
import Derived.Test.YtdolbmonmkjajaaGreatChecked
import GoSem.Claim
import GoSem.ClaimJoined
import GoSem.ClaimMapViews
import Derived.JoinedTies
import Derived.KernelRfl
namespace Go.Proofs.YtdolbmonmkjajaaGreat
/- THE CELL 'sum', in the pinned program and in every row, IS THE sha256 OF THE DUMP (.gsa) THAT YtdolbmonmkjajaaGreatProg.lean LOADS. Nothing in Lean hashes anything: it is a label: what it is worth is what the hold of that sum in a sandbox is worth. -/
noncomputable def Tryz.pinned : Pinned := { name := "ytdolbmonmkjajaagreat", sum := "abf4d73ffbad22441d4458447187f7625304fa28ac683b6d98d31e25b5b62260", checked := Tryz.checked }
namespace Rows
def none {H : Type} : Left H := { results := [], args := [] }

/-- 'laws.FnExactLoopOf': WHATEVER THE INPUT: true; the input reads as it did. -/
def fnExactLoopOfSpec : ChangeSpec := { name := "fnExactLoopOf", fn := fun _ => fun
  | [d1, d2] => { results := [.lit (.bool true)], args := [d1, d2] }
  | _ => none }
def fnExactLoopOfRow : OpenClaim := { program := "ytdolbmonmkjajaagreat", sum := "abf4d73ffbad22441d4458447187f7625304fa28ac683b6d98d31e25b5b62260", func := "loop.example/structuredjumps/laws.FnExactLoopOf", spec := "fnExactLoopOf", inPlace := ["internal/bytealg.IndexByteString", "internal/bytealg.IndexString", "internal/abi.NoEscape"], unfollowed := true, recurses := true, named := ["internal/bytealg.MaxLen"], plainKeys := false, apart := false }
def FnExactLoopOfSaid : Prop := fnExactLoopOfRow.holds Tryz.pinned (OpenSpec.ofChange fnExactLoopOfSpec)

/-- ITS FALSE NEIGHBOUR: 'it returns false'. Refute it at one input. -/
def fnExactLoopOfWrong : ChangeSpec := { name := "fnExactLoopOf", fn := fun _ => fun
  | [d1, d2] => { results := [.lit (.bool false)], args := [d1, d2] }
  | _ => none }
def FnExactLoopOfWrongFalsely : Prop := fnExactLoopOfRow.holds Tryz.pinned (OpenSpec.ofChange fnExactLoopOfWrong)

/-- 'laws.FnExactDepthIn': WHATEVER THE INPUT: true; the input reads as it did. -/
def fnExactDepthInSpec : ChangeSpec := { name := "fnExactDepthIn", fn := fun _ => fun
  | [d1, d2] => { results := [.lit (.bool true)], args := [d1, d2] }
  | _ => none }
def fnExactDepthInRow : OpenClaim := { program := "ytdolbmonmkjajaagreat", sum := "abf4d73ffbad22441d4458447187f7625304fa28ac683b6d98d31e25b5b62260", func := "loop.example/structuredjumps/laws.FnExactDepthIn", spec := "fnExactDepthIn", inPlace := ["internal/bytealg.IndexByteString", "internal/bytealg.IndexString"], unfollowed := true, recurses := true, named := ["internal/bytealg.MaxLen"], plainKeys := false, apart := false }
def FnExactDepthInSaid : Prop := fnExactDepthInRow.holds Tryz.pinned (OpenSpec.ofChange fnExactDepthInSpec)

/-- ITS FALSE NEIGHBOUR: 'it returns false'. Refute it at one input. -/
def fnExactDepthInWrong : ChangeSpec := { name := "fnExactDepthIn", fn := fun _ => fun
  | [d1, d2] => { results := [.lit (.bool false)], args := [d1, d2] }
  | _ => none }
def FnExactDepthInWrongFalsely : Prop := fnExactDepthInRow.holds Tryz.pinned (OpenSpec.ofChange fnExactDepthInWrong)

/-- 'laws.FnOrder': WHATEVER THE INPUT: true; the input reads as it did. -/
def fnOrderSpec : ChangeSpec := { name := "fnOrder", fn := fun _ => fun
  | [d] => { results := [.lit (.bool true)], args := [d] }
  | _ => none }
def fnOrderRow : OpenClaim := { program := "ytdolbmonmkjajaagreat", sum := "abf4d73ffbad22441d4458447187f7625304fa28ac683b6d98d31e25b5b62260", func := "loop.example/structuredjumps/laws.FnOrder", spec := "fnOrder", inPlace := ["internal/bytealg.IndexByteString", "internal/bytealg.IndexString", "internal/abi.NoEscape"], unfollowed := true, recurses := true, named := ["internal/bytealg.MaxLen"], plainKeys := false, apart := false }
def FnOrderSaid : Prop := fnOrderRow.holds Tryz.pinned (OpenSpec.ofChange fnOrderSpec)

/-- ITS FALSE NEIGHBOUR: 'it returns false'. Refute it at one input. -/
def fnOrderWrong : ChangeSpec := { name := "fnOrder", fn := fun _ => fun
  | [d] => { results := [.lit (.bool false)], args := [d] }
  | _ => none }
def FnOrderWrongFalsely : Prop := fnOrderRow.holds Tryz.pinned (OpenSpec.ofChange fnOrderWrong)

/-- 'laws.FnTame': WHATEVER THE INPUT: true; the input reads as it did. -/
def fnTameSpec : ChangeSpec := { name := "fnTame", fn := fun _ => fun
  | [d] => { results := [.lit (.bool true)], args := [d] }
  | _ => none }
def fnTameRow : OpenClaim := { program := "ytdolbmonmkjajaagreat", sum := "abf4d73ffbad22441d4458447187f7625304fa28ac683b6d98d31e25b5b62260", func := "loop.example/structuredjumps/laws.FnTame", spec := "fnTame", inPlace := ["internal/bytealg.IndexByteString", "internal/bytealg.IndexString", "internal/abi.NoEscape"], unfollowed := true, recurses := true, named := ["internal/bytealg.MaxLen"], plainKeys := false, apart := false }
def FnTameSaid : Prop := fnTameRow.holds Tryz.pinned (OpenSpec.ofChange fnTameSpec)

/-- ITS FALSE NEIGHBOUR: 'it returns false'. Refute it at one input. -/
def fnTameWrong : ChangeSpec := { name := "fnTame", fn := fun _ => fun
  | [d] => { results := [.lit (.bool false)], args := [d] }
  | _ => none }
def FnTameWrongFalsely : Prop := fnTameRow.holds Tryz.pinned (OpenSpec.ofChange fnTameWrong)

/-- 'laws.FnLoopOf': WHATEVER THE INPUT: true; the input reads as it did. -/
def fnLoopOfSpec : ChangeSpec := { name := "fnLoopOf", fn := fun _ => fun
  | [d1, d2] => { results := [.lit (.bool true)], args := [d1, d2] }
  | _ => none }
def fnLoopOfRow : OpenClaim := { program := "ytdolbmonmkjajaagreat", sum := "abf4d73ffbad22441d4458447187f7625304fa28ac683b6d98d31e25b5b62260", func := "loop.example/structuredjumps/laws.FnLoopOf", spec := "fnLoopOf", inPlace := ["internal/bytealg.IndexByteString", "internal/bytealg.IndexString", "internal/abi.NoEscape"], unfollowed := true, recurses := true, named := ["internal/bytealg.MaxLen"], plainKeys := false, apart := false }
def FnLoopOfSaid : Prop := fnLoopOfRow.holds Tryz.pinned (OpenSpec.ofChange fnLoopOfSpec)

/-- ITS FALSE NEIGHBOUR: 'it returns false'. Refute it at one input. -/
def fnLoopOfWrong : ChangeSpec := { name := "fnLoopOf", fn := fun _ => fun
  | [d1, d2] => { results := [.lit (.bool false)], args := [d1, d2] }
  | _ => none }
def FnLoopOfWrongFalsely : Prop := fnLoopOfRow.holds Tryz.pinned (OpenSpec.ofChange fnLoopOfWrong)

/-- 'laws.FnRunJumps': WHATEVER THE INPUT: true; the input reads as it did. -/
def fnRunJumpsSpec : ChangeSpec := { name := "fnRunJumps", fn := fun _ => fun
  | [d] => { results := [.lit (.bool true)], args := [d] }
  | _ => none }
def fnRunJumpsRow : OpenClaim := { program := "ytdolbmonmkjajaagreat", sum := "abf4d73ffbad22441d4458447187f7625304fa28ac683b6d98d31e25b5b62260", func := "loop.example/structuredjumps/laws.FnRunJumps", spec := "fnRunJumps", inPlace := ["internal/bytealg.IndexByteString", "internal/bytealg.IndexString", "internal/abi.NoEscape"], unfollowed := true, recurses := true, named := ["internal/bytealg.MaxLen"], plainKeys := false, apart := false }
def FnRunJumpsSaid : Prop := fnRunJumpsRow.holds Tryz.pinned (OpenSpec.ofChange fnRunJumpsSpec)

/-- ITS FALSE NEIGHBOUR: 'it returns false'. Refute it at one input. -/
def fnRunJumpsWrong : ChangeSpec := { name := "fnRunJumps", fn := fun _ => fun
  | [d] => { results := [.lit (.bool false)], args := [d] }
  | _ => none }
def FnRunJumpsWrongFalsely : Prop := fnRunJumpsRow.holds Tryz.pinned (OpenSpec.ofChange fnRunJumpsWrong)

/-- 'laws.FnNoBack': WHATEVER THE INPUT: true; the input reads as it did. -/
def fnNoBackSpec : ChangeSpec := { name := "fnNoBack", fn := fun _ => fun
  | [d] => { results := [.lit (.bool true)], args := [d] }
  | _ => none }
def fnNoBackRow : OpenClaim := { program := "ytdolbmonmkjajaagreat", sum := "abf4d73ffbad22441d4458447187f7625304fa28ac683b6d98d31e25b5b62260", func := "loop.example/structuredjumps/laws.FnNoBack", spec := "fnNoBack", inPlace := ["internal/bytealg.IndexByteString", "internal/bytealg.IndexString"], unfollowed := true, recurses := true, named := ["internal/bytealg.MaxLen"], plainKeys := false, apart := false }
def FnNoBackSaid : Prop := fnNoBackRow.holds Tryz.pinned (OpenSpec.ofChange fnNoBackSpec)

/-- ITS FALSE NEIGHBOUR: 'it returns false'. Refute it at one input. -/
def fnNoBackWrong : ChangeSpec := { name := "fnNoBack", fn := fun _ => fun
  | [d] => { results := [.lit (.bool false)], args := [d] }
  | _ => none }
def FnNoBackWrongFalsely : Prop := fnNoBackRow.holds Tryz.pinned (OpenSpec.ofChange fnNoBackWrong)

/-- 'laws.FnLoopsNest': WHATEVER THE INPUT: true; the input reads as it did. -/
def fnLoopsNestSpec : ChangeSpec := { name := "fnLoopsNest", fn := fun _ => fun
  | [d] => { results := [.lit (.bool true)], args := [d] }
  | _ => none }
def fnLoopsNestRow : OpenClaim := { program := "ytdolbmonmkjajaagreat", sum := "abf4d73ffbad22441d4458447187f7625304fa28ac683b6d98d31e25b5b62260", func := "loop.example/structuredjumps/laws.FnLoopsNest", spec := "fnLoopsNest", inPlace := ["internal/bytealg.IndexByteString", "internal/bytealg.IndexString", "internal/abi.NoEscape"], unfollowed := true, recurses := true, named := ["internal/bytealg.MaxLen"], plainKeys := false, apart := false }
def FnLoopsNestSaid : Prop := fnLoopsNestRow.holds Tryz.pinned (OpenSpec.ofChange fnLoopsNestSpec)

/-- ITS FALSE NEIGHBOUR: 'it returns false'. Refute it at one input. -/
def fnLoopsNestWrong : ChangeSpec := { name := "fnLoopsNest", fn := fun _ => fun
  | [d] => { results := [.lit (.bool false)], args := [d] }
  | _ => none }
def FnLoopsNestWrongFalsely : Prop := fnLoopsNestRow.holds Tryz.pinned (OpenSpec.ofChange fnLoopsNestWrong)

/-- 'laws.FnDeeper': WHATEVER THE INPUT: true; the input reads as it did. -/
def fnDeeperSpec : ChangeSpec := { name := "fnDeeper", fn := fun _ => fun
  | [d] => { results := [.lit (.bool true)], args := [d] }
  | _ => none }
def fnDeeperRow : OpenClaim := { program := "ytdolbmonmkjajaagreat", sum := "abf4d73ffbad22441d4458447187f7625304fa28ac683b6d98d31e25b5b62260", func := "loop.example/structuredjumps/laws.FnDeeper", spec := "fnDeeper", inPlace := ["internal/bytealg.IndexByteString", "internal/bytealg.IndexString", "internal/abi.NoEscape"], unfollowed := true, recurses := true, named := ["internal/bytealg.MaxLen"], plainKeys := false, apart := false }
def FnDeeperSaid : Prop := fnDeeperRow.holds Tryz.pinned (OpenSpec.ofChange fnDeeperSpec)

/-- ITS FALSE NEIGHBOUR: 'it returns false'. Refute it at one input. -/
def fnDeeperWrong : ChangeSpec := { name := "fnDeeper", fn := fun _ => fun
  | [d] => { results := [.lit (.bool false)], args := [d] }
  | _ => none }
def FnDeeperWrongFalsely : Prop := fnDeeperRow.holds Tryz.pinned (OpenSpec.ofChange fnDeeperWrong)

/-- 'laws.FnPruneLoops': WHATEVER THE INPUT: true; the input reads as it did. -/
def fnPruneLoopsSpec : ChangeSpec := { name := "fnPruneLoops", fn := fun _ => fun
  | [d] => { results := [.lit (.bool true)], args := [d] }
  | _ => none }
def fnPruneLoopsRow : OpenClaim := { program := "ytdolbmonmkjajaagreat", sum := "abf4d73ffbad22441d4458447187f7625304fa28ac683b6d98d31e25b5b62260", func := "loop.example/structuredjumps/laws.FnPruneLoops", spec := "fnPruneLoops", inPlace := ["internal/bytealg.IndexByteString", "internal/bytealg.IndexString", "internal/abi.NoEscape"], unfollowed := true, recurses := true, named := ["internal/bytealg.MaxLen"], plainKeys := false, apart := false }
def FnPruneLoopsSaid : Prop := fnPruneLoopsRow.holds Tryz.pinned (OpenSpec.ofChange fnPruneLoopsSpec)

/-- ITS FALSE NEIGHBOUR: 'it returns false'. Refute it at one input. -/
def fnPruneLoopsWrong : ChangeSpec := { name := "fnPruneLoops", fn := fun _ => fun
  | [d] => { results := [.lit (.bool false)], args := [d] }
  | _ => none }
def FnPruneLoopsWrongFalsely : Prop := fnPruneLoopsRow.holds Tryz.pinned (OpenSpec.ofChange fnPruneLoopsWrong)

/- THE SECOND FORM. 'bulk': how many values and letters a reading holds, each counted each time it is reached (what is shared counts as often as it is met; a slice's spare places count too). A statement '..UptoSaid' is the law's where the arguments, and the package variables that the reading takes, are together of bulk at most 1048576: NARROWER than '..Said'. Prove '..Said' where nothing that the law and all that it calls make is longer than what came in: it says more and counts as full. Else prove '..UptoSaid'. A law counts once. -/
mutual
def uptoBulk {H : Type} : DataW H → Nat
  | .lit (.string bytes) => bytes.length + 1
  | .lit _ => 1
  | .nil => 1
  | .ptr d => uptoBulk d + 1
  | .slice elems spare => uptoBulkAll elems + uptoBulkAll spare + 1
  | .agg parts => uptoBulkAll parts + 1
  | .iface _ d => uptoBulk d + 1
  | .map entries => uptoBulkEntries entries + 1
  | .held _ => 1
def uptoBulkAll {H : Type} : List (DataW H) → Nat
  | [] => 0
  | d :: r => uptoBulk d + uptoBulkAll r
def uptoBulkEntries {H : Type} : List (Lit × DataW H) → Nat
  | [] => 0
  | x :: r => uptoBulkEntry x + uptoBulkEntries r
def uptoBulkEntry {H : Type} : Lit × DataW H → Nat
  | (.string bytes, d) => bytes.length + uptoBulk d + 1
  | (_, d) => uptoBulk d + 1
 end
def uptoSmall : (H : Type) → List (DataW H) → Bool := fun _ ds => decide (uptoBulkAll ds ≤ 1048576)
def OpenSpec.upto (s : _root_.Go.ChangeSpec) : _root_.Go.OpenSpec := { _root_.Go.OpenSpec.ofChange s with cond := some uptoSmall }

/-- 'laws.FnExactLoopOf', WHERE WHAT IT READS IS OF BULK AT MOST 1048576: true; the input reads as it did. -/
def fnExactLoopOfUptoRow : OpenClaim := { program := "ytdolbmonmkjajaagreat", sum := "abf4d73ffbad22441d4458447187f7625304fa28ac683b6d98d31e25b5b62260", func := "loop.example/structuredjumps/laws.FnExactLoopOf", spec := "fnExactLoopOf", inPlace := ["internal/bytealg.IndexByteString", "internal/bytealg.IndexString", "internal/abi.NoEscape"], unfollowed := true, recurses := true, named := ["internal/bytealg.MaxLen"], plainKeys := false, apart := false, narrowed := true }
def FnExactLoopOfUptoSaid : Prop := fnExactLoopOfUptoRow.holds Tryz.pinned (OpenSpec.upto fnExactLoopOfSpec)

/-- 'laws.FnExactDepthIn', WHERE WHAT IT READS IS OF BULK AT MOST 1048576: true; the input reads as it did. -/
def fnExactDepthInUptoRow : OpenClaim := { program := "ytdolbmonmkjajaagreat", sum := "abf4d73ffbad22441d4458447187f7625304fa28ac683b6d98d31e25b5b62260", func := "loop.example/structuredjumps/laws.FnExactDepthIn", spec := "fnExactDepthIn", inPlace := ["internal/bytealg.IndexByteString", "internal/bytealg.IndexString"], unfollowed := true, recurses := true, named := ["internal/bytealg.MaxLen"], plainKeys := false, apart := false, narrowed := true }
def FnExactDepthInUptoSaid : Prop := fnExactDepthInUptoRow.holds Tryz.pinned (OpenSpec.upto fnExactDepthInSpec)

/-- 'laws.FnOrder', WHERE WHAT IT READS IS OF BULK AT MOST 1048576: true; the input reads as it did. -/
def fnOrderUptoRow : OpenClaim := { program := "ytdolbmonmkjajaagreat", sum := "abf4d73ffbad22441d4458447187f7625304fa28ac683b6d98d31e25b5b62260", func := "loop.example/structuredjumps/laws.FnOrder", spec := "fnOrder", inPlace := ["internal/bytealg.IndexByteString", "internal/bytealg.IndexString", "internal/abi.NoEscape"], unfollowed := true, recurses := true, named := ["internal/bytealg.MaxLen"], plainKeys := false, apart := false, narrowed := true }
def FnOrderUptoSaid : Prop := fnOrderUptoRow.holds Tryz.pinned (OpenSpec.upto fnOrderSpec)

/-- 'laws.FnTame', WHERE WHAT IT READS IS OF BULK AT MOST 1048576: true; the input reads as it did. -/
def fnTameUptoRow : OpenClaim := { program := "ytdolbmonmkjajaagreat", sum := "abf4d73ffbad22441d4458447187f7625304fa28ac683b6d98d31e25b5b62260", func := "loop.example/structuredjumps/laws.FnTame", spec := "fnTame", inPlace := ["internal/bytealg.IndexByteString", "internal/bytealg.IndexString", "internal/abi.NoEscape"], unfollowed := true, recurses := true, named := ["internal/bytealg.MaxLen"], plainKeys := false, apart := false, narrowed := true }
def FnTameUptoSaid : Prop := fnTameUptoRow.holds Tryz.pinned (OpenSpec.upto fnTameSpec)

/-- 'laws.FnLoopOf', WHERE WHAT IT READS IS OF BULK AT MOST 1048576: true; the input reads as it did. -/
def fnLoopOfUptoRow : OpenClaim := { program := "ytdolbmonmkjajaagreat", sum := "abf4d73ffbad22441d4458447187f7625304fa28ac683b6d98d31e25b5b62260", func := "loop.example/structuredjumps/laws.FnLoopOf", spec := "fnLoopOf", inPlace := ["internal/bytealg.IndexByteString", "internal/bytealg.IndexString", "internal/abi.NoEscape"], unfollowed := true, recurses := true, named := ["internal/bytealg.MaxLen"], plainKeys := false, apart := false, narrowed := true }
def FnLoopOfUptoSaid : Prop := fnLoopOfUptoRow.holds Tryz.pinned (OpenSpec.upto fnLoopOfSpec)

/-- 'laws.FnRunJumps', WHERE WHAT IT READS IS OF BULK AT MOST 1048576: true; the input reads as it did. -/
def fnRunJumpsUptoRow : OpenClaim := { program := "ytdolbmonmkjajaagreat", sum := "abf4d73ffbad22441d4458447187f7625304fa28ac683b6d98d31e25b5b62260", func := "loop.example/structuredjumps/laws.FnRunJumps", spec := "fnRunJumps", inPlace := ["internal/bytealg.IndexByteString", "internal/bytealg.IndexString", "internal/abi.NoEscape"], unfollowed := true, recurses := true, named := ["internal/bytealg.MaxLen"], plainKeys := false, apart := false, narrowed := true }
def FnRunJumpsUptoSaid : Prop := fnRunJumpsUptoRow.holds Tryz.pinned (OpenSpec.upto fnRunJumpsSpec)

/-- 'laws.FnNoBack', WHERE WHAT IT READS IS OF BULK AT MOST 1048576: true; the input reads as it did. -/
def fnNoBackUptoRow : OpenClaim := { program := "ytdolbmonmkjajaagreat", sum := "abf4d73ffbad22441d4458447187f7625304fa28ac683b6d98d31e25b5b62260", func := "loop.example/structuredjumps/laws.FnNoBack", spec := "fnNoBack", inPlace := ["internal/bytealg.IndexByteString", "internal/bytealg.IndexString"], unfollowed := true, recurses := true, named := ["internal/bytealg.MaxLen"], plainKeys := false, apart := false, narrowed := true }
def FnNoBackUptoSaid : Prop := fnNoBackUptoRow.holds Tryz.pinned (OpenSpec.upto fnNoBackSpec)

/-- 'laws.FnLoopsNest', WHERE WHAT IT READS IS OF BULK AT MOST 1048576: true; the input reads as it did. -/
def fnLoopsNestUptoRow : OpenClaim := { program := "ytdolbmonmkjajaagreat", sum := "abf4d73ffbad22441d4458447187f7625304fa28ac683b6d98d31e25b5b62260", func := "loop.example/structuredjumps/laws.FnLoopsNest", spec := "fnLoopsNest", inPlace := ["internal/bytealg.IndexByteString", "internal/bytealg.IndexString", "internal/abi.NoEscape"], unfollowed := true, recurses := true, named := ["internal/bytealg.MaxLen"], plainKeys := false, apart := false, narrowed := true }
def FnLoopsNestUptoSaid : Prop := fnLoopsNestUptoRow.holds Tryz.pinned (OpenSpec.upto fnLoopsNestSpec)

/-- 'laws.FnDeeper', WHERE WHAT IT READS IS OF BULK AT MOST 1048576: true; the input reads as it did. -/
def fnDeeperUptoRow : OpenClaim := { program := "ytdolbmonmkjajaagreat", sum := "abf4d73ffbad22441d4458447187f7625304fa28ac683b6d98d31e25b5b62260", func := "loop.example/structuredjumps/laws.FnDeeper", spec := "fnDeeper", inPlace := ["internal/bytealg.IndexByteString", "internal/bytealg.IndexString", "internal/abi.NoEscape"], unfollowed := true, recurses := true, named := ["internal/bytealg.MaxLen"], plainKeys := false, apart := false, narrowed := true }
def FnDeeperUptoSaid : Prop := fnDeeperUptoRow.holds Tryz.pinned (OpenSpec.upto fnDeeperSpec)

/-- 'laws.FnPruneLoops', WHERE WHAT IT READS IS OF BULK AT MOST 1048576: true; the input reads as it did. -/
def fnPruneLoopsUptoRow : OpenClaim := { program := "ytdolbmonmkjajaagreat", sum := "abf4d73ffbad22441d4458447187f7625304fa28ac683b6d98d31e25b5b62260", func := "loop.example/structuredjumps/laws.FnPruneLoops", spec := "fnPruneLoops", inPlace := ["internal/bytealg.IndexByteString", "internal/bytealg.IndexString", "internal/abi.NoEscape"], unfollowed := true, recurses := true, named := ["internal/bytealg.MaxLen"], plainKeys := false, apart := false, narrowed := true }
def FnPruneLoopsUptoSaid : Prop := fnPruneLoopsUptoRow.holds Tryz.pinned (OpenSpec.upto fnPruneLoopsSpec)

end Rows
end Go.Proofs.YtdolbmonmkjajaaGreat
