/-
  No cell of these rows narrows 'for every input' (looked for: loops, veiled, ifaces, maps, wideKeys, modest, calm, conditions, laid).
  DERIVED. THE GIVEN ROWS OF THIS SEAT. 9 by the template 'for every input the law returns true; each argument reads behind the call as it read before'; 0 by the template 'total and deterministic' (their statements: YtmjhoiaehmfkcaaTotals.lean).
  GIVEN WITH THE SEED: the statements are not yours to turn. If you find one false, say at which input.
  Laid BY PROGRAM, IN A SANDBOX (cutbox-rows.mjs): the forced cells as the released guide's own fill.sh prints them over the translation 220c39058ef8f29c… (all of the seat's roots in one cut). By AI agents, Wed Nov 11 2026. No macro, syntax, notation, axiom, sorry.
-/
import Derived.Test.YtmjhoiaehmfkcaaChecked
import GoSem.Claim
import GoSem.ClaimJoined
import GoSem.ClaimMapViews
import Derived.JoinedTies
import Derived.KernelRfl
namespace Go.Proofs.Ytmjhoiaehmfkcaa
/- THE CELL 'sum', in the pinned program and in every row, IS THE sha256 OF THE DUMP (.gsa) THAT YtmjhoiaehmfkcaaProg.lean LOADS. Nothing in Lean hashes anything: it is a label: what it is worth is what the hold of that sum in a sandbox is worth. -/
noncomputable def Try.pinned : Pinned := { name := "ytmjhoiaehmfkcaa", sum := "220c39058ef8f29cd946f7c7113b43a966ae1ddabd5721533246258bb8265c2a", checked := Try.checked }
namespace Rows
def none {H : Type} : Left H := { results := [], args := [] }

/-- 'laws.FnExactRunText': WHATEVER THE INPUT: true; the input reads as it did. -/
def fnExactRunTextSpec : ChangeSpec := { name := "fnExactRunText", fn := fun _ => fun
  | [d1, d2] => { results := [.lit (.bool true)], args := [d1, d2] }
  | _ => none }
def fnExactRunTextRow : OpenClaim := { program := "ytmjhoiaehmfkcaa", sum := "220c39058ef8f29cd946f7c7113b43a966ae1ddabd5721533246258bb8265c2a", func := "loop.example/structuredjumps/laws.FnExactRunText", spec := "fnExactRunText", inPlace := ["internal/bytealg.IndexByteString", "internal/bytealg.IndexString"], unfollowed := true, recurses := true, named := ["internal/bytealg.MaxLen"], apart := false }
def FnExactRunTextSaid : Prop := fnExactRunTextRow.holds Try.pinned (OpenSpec.ofChange fnExactRunTextSpec)

/-- ITS FALSE NEIGHBOUR: 'it returns false'. Refute it at one input. -/
def fnExactRunTextWrong : ChangeSpec := { name := "fnExactRunText", fn := fun _ => fun
  | [d1, d2] => { results := [.lit (.bool false)], args := [d1, d2] }
  | _ => none }
def FnExactRunTextWrongFalsely : Prop := fnExactRunTextRow.holds Try.pinned (OpenSpec.ofChange fnExactRunTextWrong)

/-- 'laws.FnExactNumberIn': WHATEVER THE INPUT: true; the input reads as it did. -/
def fnExactNumberInSpec : ChangeSpec := { name := "fnExactNumberIn", fn := fun _ => fun
  | [d1, d2] => { results := [.lit (.bool true)], args := [d1, d2] }
  | _ => none }
def fnExactNumberInRow : OpenClaim := { program := "ytmjhoiaehmfkcaa", sum := "220c39058ef8f29cd946f7c7113b43a966ae1ddabd5721533246258bb8265c2a", func := "loop.example/structuredjumps/laws.FnExactNumberIn", spec := "fnExactNumberIn", inPlace := ["internal/bytealg.IndexByteString", "internal/bytealg.IndexString"], unfollowed := true, recurses := true, named := ["internal/bytealg.MaxLen"], apart := false }
def FnExactNumberInSaid : Prop := fnExactNumberInRow.holds Try.pinned (OpenSpec.ofChange fnExactNumberInSpec)

/-- ITS FALSE NEIGHBOUR: 'it returns false'. Refute it at one input. -/
def fnExactNumberInWrong : ChangeSpec := { name := "fnExactNumberIn", fn := fun _ => fun
  | [d1, d2] => { results := [.lit (.bool false)], args := [d1, d2] }
  | _ => none }
def FnExactNumberInWrongFalsely : Prop := fnExactNumberInRow.holds Try.pinned (OpenSpec.ofChange fnExactNumberInWrong)

/-- 'laws.FnExactEndsSilently': WHATEVER THE INPUT: true; the input reads as it did. -/
def fnExactEndsSilentlySpec : ChangeSpec := { name := "fnExactEndsSilently", fn := fun _ => fun
  | [d1, d2] => { results := [.lit (.bool true)], args := [d1, d2] }
  | _ => none }
def fnExactEndsSilentlyRow : OpenClaim := { program := "ytmjhoiaehmfkcaa", sum := "220c39058ef8f29cd946f7c7113b43a966ae1ddabd5721533246258bb8265c2a", func := "loop.example/structuredjumps/laws.FnExactEndsSilently", spec := "fnExactEndsSilently", inPlace := ["internal/bytealg.IndexByteString", "internal/bytealg.IndexString"], unfollowed := true, recurses := true, named := ["internal/bytealg.MaxLen"], apart := false }
def FnExactEndsSilentlySaid : Prop := fnExactEndsSilentlyRow.holds Try.pinned (OpenSpec.ofChange fnExactEndsSilentlySpec)

/-- ITS FALSE NEIGHBOUR: 'it returns false'. Refute it at one input. -/
def fnExactEndsSilentlyWrong : ChangeSpec := { name := "fnExactEndsSilently", fn := fun _ => fun
  | [d1, d2] => { results := [.lit (.bool false)], args := [d1, d2] }
  | _ => none }
def FnExactEndsSilentlyWrongFalsely : Prop := fnExactEndsSilentlyRow.holds Try.pinned (OpenSpec.ofChange fnExactEndsSilentlyWrong)

/-- 'laws.FnRunText': WHATEVER THE INPUT: true; the input reads as it did. -/
def fnRunTextSpec : ChangeSpec := { name := "fnRunText", fn := fun _ => fun
  | [d1, d2] => { results := [.lit (.bool true)], args := [d1, d2] }
  | _ => none }
def fnRunTextRow : OpenClaim := { program := "ytmjhoiaehmfkcaa", sum := "220c39058ef8f29cd946f7c7113b43a966ae1ddabd5721533246258bb8265c2a", func := "loop.example/structuredjumps/laws.FnRunText", spec := "fnRunText", inPlace := ["internal/bytealg.IndexByteString", "internal/bytealg.IndexString", "internal/abi.NoEscape"], unfollowed := true, recurses := true, named := ["internal/bytealg.MaxLen"], apart := false }
def FnRunTextSaid : Prop := fnRunTextRow.holds Try.pinned (OpenSpec.ofChange fnRunTextSpec)

/-- ITS FALSE NEIGHBOUR: 'it returns false'. Refute it at one input. -/
def fnRunTextWrong : ChangeSpec := { name := "fnRunText", fn := fun _ => fun
  | [d1, d2] => { results := [.lit (.bool false)], args := [d1, d2] }
  | _ => none }
def FnRunTextWrongFalsely : Prop := fnRunTextRow.holds Try.pinned (OpenSpec.ofChange fnRunTextWrong)

/-- 'laws.FnDot': WHATEVER THE INPUT: true; the input reads as it did. -/
def fnDotSpec : ChangeSpec := { name := "fnDot", fn := fun _ => fun
  | [d] => { results := [.lit (.bool true)], args := [d] }
  | _ => none }
def fnDotRow : OpenClaim := { program := "ytmjhoiaehmfkcaa", sum := "220c39058ef8f29cd946f7c7113b43a966ae1ddabd5721533246258bb8265c2a", func := "loop.example/structuredjumps/laws.FnDot", spec := "fnDot", inPlace := ["internal/bytealg.IndexByteString", "internal/bytealg.IndexString"], unfollowed := true, recurses := true, named := ["internal/bytealg.MaxLen"], apart := false }
def FnDotSaid : Prop := fnDotRow.holds Try.pinned (OpenSpec.ofChange fnDotSpec)

/-- ITS FALSE NEIGHBOUR: 'it returns false'. Refute it at one input. -/
def fnDotWrong : ChangeSpec := { name := "fnDot", fn := fun _ => fun
  | [d] => { results := [.lit (.bool false)], args := [d] }
  | _ => none }
def FnDotWrongFalsely : Prop := fnDotRow.holds Try.pinned (OpenSpec.ofChange fnDotWrong)

/-- 'laws.FnTextOn': WHATEVER THE INPUT: true; the input reads as it did. -/
def fnTextOnSpec : ChangeSpec := { name := "fnTextOn", fn := fun _ => fun
  | [d] => { results := [.lit (.bool true)], args := [d] }
  | _ => none }
def fnTextOnRow : OpenClaim := { program := "ytmjhoiaehmfkcaa", sum := "220c39058ef8f29cd946f7c7113b43a966ae1ddabd5721533246258bb8265c2a", func := "loop.example/structuredjumps/laws.FnTextOn", spec := "fnTextOn", inPlace := ["internal/bytealg.IndexByteString", "internal/bytealg.IndexString"], unfollowed := true, recurses := true, named := ["internal/bytealg.MaxLen"], apart := false }
def FnTextOnSaid : Prop := fnTextOnRow.holds Try.pinned (OpenSpec.ofChange fnTextOnSpec)

/-- ITS FALSE NEIGHBOUR: 'it returns false'. Refute it at one input. -/
def fnTextOnWrong : ChangeSpec := { name := "fnTextOn", fn := fun _ => fun
  | [d] => { results := [.lit (.bool false)], args := [d] }
  | _ => none }
def FnTextOnWrongFalsely : Prop := fnTextOnRow.holds Try.pinned (OpenSpec.ofChange fnTextOnWrong)

/-- 'laws.FnLoopOnce': WHATEVER THE INPUT: true; the input reads as it did. -/
def fnLoopOnceSpec : ChangeSpec := { name := "fnLoopOnce", fn := fun _ => fun
  | [d] => { results := [.lit (.bool true)], args := [d] }
  | _ => none }
def fnLoopOnceRow : OpenClaim := { program := "ytmjhoiaehmfkcaa", sum := "220c39058ef8f29cd946f7c7113b43a966ae1ddabd5721533246258bb8265c2a", func := "loop.example/structuredjumps/laws.FnLoopOnce", spec := "fnLoopOnce", inPlace := ["internal/bytealg.IndexByteString", "internal/bytealg.IndexString"], unfollowed := true, recurses := true, named := ["internal/bytealg.MaxLen"], apart := false }
def FnLoopOnceSaid : Prop := fnLoopOnceRow.holds Try.pinned (OpenSpec.ofChange fnLoopOnceSpec)

/-- ITS FALSE NEIGHBOUR: 'it returns false'. Refute it at one input. -/
def fnLoopOnceWrong : ChangeSpec := { name := "fnLoopOnce", fn := fun _ => fun
  | [d] => { results := [.lit (.bool false)], args := [d] }
  | _ => none }
def FnLoopOnceWrongFalsely : Prop := fnLoopOnceRow.holds Try.pinned (OpenSpec.ofChange fnLoopOnceWrong)

/-- 'laws.FnSilent': WHATEVER THE INPUT: true; the input reads as it did. -/
def fnSilentSpec : ChangeSpec := { name := "fnSilent", fn := fun _ => fun
  | [d] => { results := [.lit (.bool true)], args := [d] }
  | _ => none }
def fnSilentRow : OpenClaim := { program := "ytmjhoiaehmfkcaa", sum := "220c39058ef8f29cd946f7c7113b43a966ae1ddabd5721533246258bb8265c2a", func := "loop.example/structuredjumps/laws.FnSilent", spec := "fnSilent", inPlace := ["internal/bytealg.IndexByteString", "internal/bytealg.IndexString"], unfollowed := true, recurses := true, named := ["internal/bytealg.MaxLen"], apart := false }
def FnSilentSaid : Prop := fnSilentRow.holds Try.pinned (OpenSpec.ofChange fnSilentSpec)

/-- ITS FALSE NEIGHBOUR: 'it returns false'. Refute it at one input. -/
def fnSilentWrong : ChangeSpec := { name := "fnSilent", fn := fun _ => fun
  | [d] => { results := [.lit (.bool false)], args := [d] }
  | _ => none }
def FnSilentWrongFalsely : Prop := fnSilentRow.holds Try.pinned (OpenSpec.ofChange fnSilentWrong)

/-- 'laws.FnNoLoop': WHATEVER THE INPUT: true; the input reads as it did. -/
def fnNoLoopSpec : ChangeSpec := { name := "fnNoLoop", fn := fun _ => fun
  | [d] => { results := [.lit (.bool true)], args := [d] }
  | _ => none }
def fnNoLoopRow : OpenClaim := { program := "ytmjhoiaehmfkcaa", sum := "220c39058ef8f29cd946f7c7113b43a966ae1ddabd5721533246258bb8265c2a", func := "loop.example/structuredjumps/laws.FnNoLoop", spec := "fnNoLoop", inPlace := ["internal/bytealg.IndexByteString", "internal/bytealg.IndexString", "internal/abi.NoEscape"], unfollowed := true, recurses := true, named := ["internal/bytealg.MaxLen"], apart := false }
def FnNoLoopSaid : Prop := fnNoLoopRow.holds Try.pinned (OpenSpec.ofChange fnNoLoopSpec)

/-- ITS FALSE NEIGHBOUR: 'it returns false'. Refute it at one input. -/
def fnNoLoopWrong : ChangeSpec := { name := "fnNoLoop", fn := fun _ => fun
  | [d] => { results := [.lit (.bool false)], args := [d] }
  | _ => none }
def FnNoLoopWrongFalsely : Prop := fnNoLoopRow.holds Try.pinned (OpenSpec.ofChange fnNoLoopWrong)

/- THE SECOND FORM. 'bulk': how many values and letters a reading holds, each counted each time it is reached (what is shared counts as often as it is met; a slice's spare places count too). A statement '..UptoSaid' is the law's where the arguments, and the package variables that the reading takes, are together of bulk at most 1048576: NARROWER than '..Said'. Prove '..Said' where nothing that the law and all that it calls make is longer than what came in: it says more and counts as full. Else prove '..UptoSaid'. A law counts once. -/
mutual
def uptoBulk {H : Type} : DataW H → Nat
  | .lit (.string bytes) => bytes.length + 1
  | .lit _ => 1
  | .nil => 1
  | .ptr d => uptoBulk d + 1
  | .slice elems spare => uptoBulkAll elems + uptoBulkAll spare + 1
  | .agg parts => uptoBulkAll parts + 1
  | .iface _ d => uptoBulk d + 1
  | .map entries => uptoBulkEntries entries + 1
  | .held _ => 1
def uptoBulkAll {H : Type} : List (DataW H) → Nat
  | [] => 0
  | d :: r => uptoBulk d + uptoBulkAll r
def uptoBulkEntries {H : Type} : List (Lit × DataW H) → Nat
  | [] => 0
  | x :: r => uptoBulkEntry x + uptoBulkEntries r
def uptoBulkEntry {H : Type} : Lit × DataW H → Nat
  | (.string bytes, d) => bytes.length + uptoBulk d + 1
  | (_, d) => uptoBulk d + 1
 end
def uptoSmall : (H : Type) → List (DataW H) → Bool := fun _ ds => decide (uptoBulkAll ds ≤ 1048576)
def OpenSpec.upto (s : _root_.Go.ChangeSpec) : _root_.Go.OpenSpec := { _root_.Go.OpenSpec.ofChange s with cond := some uptoSmall }

/-- 'laws.FnExactRunText', WHERE WHAT IT READS IS OF BULK AT MOST 1048576: true; the input reads as it did. -/
def fnExactRunTextUptoRow : OpenClaim := { program := "ytmjhoiaehmfkcaa", sum := "220c39058ef8f29cd946f7c7113b43a966ae1ddabd5721533246258bb8265c2a", func := "loop.example/structuredjumps/laws.FnExactRunText", spec := "fnExactRunText", inPlace := ["internal/bytealg.IndexByteString", "internal/bytealg.IndexString"], unfollowed := true, recurses := true, named := ["internal/bytealg.MaxLen"], apart := false, narrowed := true }
def FnExactRunTextUptoSaid : Prop := fnExactRunTextUptoRow.holds Try.pinned (OpenSpec.upto fnExactRunTextSpec)

/-- 'laws.FnExactNumberIn', WHERE WHAT IT READS IS OF BULK AT MOST 1048576: true; the input reads as it did. -/
def fnExactNumberInUptoRow : OpenClaim := { program := "ytmjhoiaehmfkcaa", sum := "220c39058ef8f29cd946f7c7113b43a966ae1ddabd5721533246258bb8265c2a", func := "loop.example/structuredjumps/laws.FnExactNumberIn", spec := "fnExactNumberIn", inPlace := ["internal/bytealg.IndexByteString", "internal/bytealg.IndexString"], unfollowed := true, recurses := true, named := ["internal/bytealg.MaxLen"], apart := false, narrowed := true }
def FnExactNumberInUptoSaid : Prop := fnExactNumberInUptoRow.holds Try.pinned (OpenSpec.upto fnExactNumberInSpec)

/-- 'laws.FnExactEndsSilently', WHERE WHAT IT READS IS OF BULK AT MOST 1048576: true; the input reads as it did. -/
def fnExactEndsSilentlyUptoRow : OpenClaim := { program := "ytmjhoiaehmfkcaa", sum := "220c39058ef8f29cd946f7c7113b43a966ae1ddabd5721533246258bb8265c2a", func := "loop.example/structuredjumps/laws.FnExactEndsSilently", spec := "fnExactEndsSilently", inPlace := ["internal/bytealg.IndexByteString", "internal/bytealg.IndexString"], unfollowed := true, recurses := true, named := ["internal/bytealg.MaxLen"], apart := false, narrowed := true }
def FnExactEndsSilentlyUptoSaid : Prop := fnExactEndsSilentlyUptoRow.holds Try.pinned (OpenSpec.upto fnExactEndsSilentlySpec)

/-- 'laws.FnRunText', WHERE WHAT IT READS IS OF BULK AT MOST 1048576: true; the input reads as it did. -/
def fnRunTextUptoRow : OpenClaim := { program := "ytmjhoiaehmfkcaa", sum := "220c39058ef8f29cd946f7c7113b43a966ae1ddabd5721533246258bb8265c2a", func := "loop.example/structuredjumps/laws.FnRunText", spec := "fnRunText", inPlace := ["internal/bytealg.IndexByteString", "internal/bytealg.IndexString", "internal/abi.NoEscape"], unfollowed := true, recurses := true, named := ["internal/bytealg.MaxLen"], apart := false, narrowed := true }
def FnRunTextUptoSaid : Prop := fnRunTextUptoRow.holds Try.pinned (OpenSpec.upto fnRunTextSpec)

/-- 'laws.FnDot', WHERE WHAT IT READS IS OF BULK AT MOST 1048576: true; the input reads as it did. -/
def fnDotUptoRow : OpenClaim := { program := "ytmjhoiaehmfkcaa", sum := "220c39058ef8f29cd946f7c7113b43a966ae1ddabd5721533246258bb8265c2a", func := "loop.example/structuredjumps/laws.FnDot", spec := "fnDot", inPlace := ["internal/bytealg.IndexByteString", "internal/bytealg.IndexString"], unfollowed := true, recurses := true, named := ["internal/bytealg.MaxLen"], apart := false, narrowed := true }
def FnDotUptoSaid : Prop := fnDotUptoRow.holds Try.pinned (OpenSpec.upto fnDotSpec)

/-- 'laws.FnTextOn', WHERE WHAT IT READS IS OF BULK AT MOST 1048576: true; the input reads as it did. -/
def fnTextOnUptoRow : OpenClaim := { program := "ytmjhoiaehmfkcaa", sum := "220c39058ef8f29cd946f7c7113b43a966ae1ddabd5721533246258bb8265c2a", func := "loop.example/structuredjumps/laws.FnTextOn", spec := "fnTextOn", inPlace := ["internal/bytealg.IndexByteString", "internal/bytealg.IndexString"], unfollowed := true, recurses := true, named := ["internal/bytealg.MaxLen"], apart := false, narrowed := true }
def FnTextOnUptoSaid : Prop := fnTextOnUptoRow.holds Try.pinned (OpenSpec.upto fnTextOnSpec)

/-- 'laws.FnLoopOnce', WHERE WHAT IT READS IS OF BULK AT MOST 1048576: true; the input reads as it did. -/
def fnLoopOnceUptoRow : OpenClaim := { program := "ytmjhoiaehmfkcaa", sum := "220c39058ef8f29cd946f7c7113b43a966ae1ddabd5721533246258bb8265c2a", func := "loop.example/structuredjumps/laws.FnLoopOnce", spec := "fnLoopOnce", inPlace := ["internal/bytealg.IndexByteString", "internal/bytealg.IndexString"], unfollowed := true, recurses := true, named := ["internal/bytealg.MaxLen"], apart := false, narrowed := true }
def FnLoopOnceUptoSaid : Prop := fnLoopOnceUptoRow.holds Try.pinned (OpenSpec.upto fnLoopOnceSpec)

/-- 'laws.FnSilent', WHERE WHAT IT READS IS OF BULK AT MOST 1048576: true; the input reads as it did. -/
def fnSilentUptoRow : OpenClaim := { program := "ytmjhoiaehmfkcaa", sum := "220c39058ef8f29cd946f7c7113b43a966ae1ddabd5721533246258bb8265c2a", func := "loop.example/structuredjumps/laws.FnSilent", spec := "fnSilent", inPlace := ["internal/bytealg.IndexByteString", "internal/bytealg.IndexString"], unfollowed := true, recurses := true, named := ["internal/bytealg.MaxLen"], apart := false, narrowed := true }
def FnSilentUptoSaid : Prop := fnSilentUptoRow.holds Try.pinned (OpenSpec.upto fnSilentSpec)

/-- 'laws.FnNoLoop', WHERE WHAT IT READS IS OF BULK AT MOST 1048576: true; the input reads as it did. -/
def fnNoLoopUptoRow : OpenClaim := { program := "ytmjhoiaehmfkcaa", sum := "220c39058ef8f29cd946f7c7113b43a966ae1ddabd5721533246258bb8265c2a", func := "loop.example/structuredjumps/laws.FnNoLoop", spec := "fnNoLoop", inPlace := ["internal/bytealg.IndexByteString", "internal/bytealg.IndexString", "internal/abi.NoEscape"], unfollowed := true, recurses := true, named := ["internal/bytealg.MaxLen"], apart := false, narrowed := true }
def FnNoLoopUptoSaid : Prop := fnNoLoopUptoRow.holds Try.pinned (OpenSpec.upto fnNoLoopSpec)

end Rows
end Go.Proofs.Ytmjhoiaehmfkcaa
