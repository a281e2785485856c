/-
  No cell of these rows narrows 'for every input' (looked for: loops, veiled, ifaces, maps, wideKeys, modest, calm, conditions, laid).
  DERIVED. THE GIVEN ROWS OF THIS SEAT. 5 by the template 'for every input the law returns true; each argument reads behind the call as it read before'; 0 by the template 'total and deterministic' (their statements: YtdolbmonmkjajaaTotals.lean).
  GIVEN WITH THE SEED: the statements are not yours to turn. If you find one false, say at which input.
  Laid BY PROGRAM, IN A SANDBOX (cutbox-rows.mjs): the forced cells as the released guide's own fill.sh prints them over the translation 98528577666c42cb… (all of the seat's roots in one cut). By AI agents, Wed Nov 11 2026. No macro, syntax, notation, axiom, sorry.
-/
import Derived.Test.YtdolbmonmkjajaaChecked
import GoSem.Claim
import GoSem.ClaimJoined
import GoSem.ClaimMapViews
import Derived.JoinedTies
import Derived.KernelRfl
namespace Go.Proofs.Ytdolbmonmkjajaa
/- THE CELL 'sum', in the pinned program and in every row, IS THE sha256 OF THE DUMP (.gsa) THAT YtdolbmonmkjajaaProg.lean LOADS. Nothing in Lean hashes anything: it is a label: what it is worth is what the hold of that sum in a sandbox is worth. -/
noncomputable def Try.pinned : Pinned := { name := "ytdolbmonmkjajaa", sum := "98528577666c42cb23f661b2b4b963a365e871f66b51806ccded9672acced0d3", checked := Try.checked }
namespace Rows
def none {H : Type} : Left H := { results := [], args := [] }

/-- 'laws.FnExactBackJumps': WHATEVER THE INPUT: true; the input reads as it did. -/
def fnExactBackJumpsSpec : ChangeSpec := { name := "fnExactBackJumps", fn := fun _ => fun
  | [d] => { results := [.lit (.bool true)], args := [d] }
  | _ => none }
def fnExactBackJumpsRow : OpenClaim := { program := "ytdolbmonmkjajaa", sum := "98528577666c42cb23f661b2b4b963a365e871f66b51806ccded9672acced0d3", func := "loop.example/structuredjumps/laws.FnExactBackJumps", spec := "fnExactBackJumps", inPlace := ["internal/bytealg.IndexByteString", "internal/bytealg.IndexString"], unfollowed := true, recurses := true, named := ["internal/bytealg.MaxLen"], plainKeys := false, apart := false }
def FnExactBackJumpsSaid : Prop := fnExactBackJumpsRow.holds Try.pinned (OpenSpec.ofChange fnExactBackJumpsSpec)

/-- ITS FALSE NEIGHBOUR: 'it returns false'. Refute it at one input. -/
def fnExactBackJumpsWrong : ChangeSpec := { name := "fnExactBackJumps", fn := fun _ => fun
  | [d] => { results := [.lit (.bool false)], args := [d] }
  | _ => none }
def FnExactBackJumpsWrongFalsely : Prop := fnExactBackJumpsRow.holds Try.pinned (OpenSpec.ofChange fnExactBackJumpsWrong)

/-- 'laws.FnExactIsTame': WHATEVER THE INPUT: true; the input reads as it did. -/
def fnExactIsTameSpec : ChangeSpec := { name := "fnExactIsTame", fn := fun _ => fun
  | [d] => { results := [.lit (.bool true)], args := [d] }
  | _ => none }
def fnExactIsTameRow : OpenClaim := { program := "ytdolbmonmkjajaa", sum := "98528577666c42cb23f661b2b4b963a365e871f66b51806ccded9672acced0d3", func := "loop.example/structuredjumps/laws.FnExactIsTame", spec := "fnExactIsTame", inPlace := ["internal/bytealg.IndexByteString", "internal/bytealg.IndexString"], unfollowed := true, recurses := true, named := ["internal/bytealg.MaxLen"], plainKeys := false, apart := false }
def FnExactIsTameSaid : Prop := fnExactIsTameRow.holds Try.pinned (OpenSpec.ofChange fnExactIsTameSpec)

/-- ITS FALSE NEIGHBOUR: 'it returns false'. Refute it at one input. -/
def fnExactIsTameWrong : ChangeSpec := { name := "fnExactIsTame", fn := fun _ => fun
  | [d] => { results := [.lit (.bool false)], args := [d] }
  | _ => none }
def FnExactIsTameWrongFalsely : Prop := fnExactIsTameRow.holds Try.pinned (OpenSpec.ofChange fnExactIsTameWrong)

/-- 'laws.FnExactHeadersOf': WHATEVER THE INPUT: true; the input reads as it did. -/
def fnExactHeadersOfSpec : ChangeSpec := { name := "fnExactHeadersOf", fn := fun _ => fun
  | [d] => { results := [.lit (.bool true)], args := [d] }
  | _ => none }
def fnExactHeadersOfRow : OpenClaim := { program := "ytdolbmonmkjajaa", sum := "98528577666c42cb23f661b2b4b963a365e871f66b51806ccded9672acced0d3", func := "loop.example/structuredjumps/laws.FnExactHeadersOf", spec := "fnExactHeadersOf", inPlace := ["internal/bytealg.IndexByteString", "internal/bytealg.IndexString", "internal/abi.NoEscape"], unfollowed := true, recurses := true, named := ["internal/bytealg.MaxLen"], plainKeys := false, apart := false }
def FnExactHeadersOfSaid : Prop := fnExactHeadersOfRow.holds Try.pinned (OpenSpec.ofChange fnExactHeadersOfSpec)

/-- ITS FALSE NEIGHBOUR: 'it returns false'. Refute it at one input. -/
def fnExactHeadersOfWrong : ChangeSpec := { name := "fnExactHeadersOf", fn := fun _ => fun
  | [d] => { results := [.lit (.bool false)], args := [d] }
  | _ => none }
def FnExactHeadersOfWrongFalsely : Prop := fnExactHeadersOfRow.holds Try.pinned (OpenSpec.ofChange fnExactHeadersOfWrong)

/-- 'laws.FnExactWildJumps': WHATEVER THE INPUT: true; the input reads as it did. -/
def fnExactWildJumpsSpec : ChangeSpec := { name := "fnExactWildJumps", fn := fun _ => fun
  | [d] => { results := [.lit (.bool true)], args := [d] }
  | _ => none }
def fnExactWildJumpsRow : OpenClaim := { program := "ytdolbmonmkjajaa", sum := "98528577666c42cb23f661b2b4b963a365e871f66b51806ccded9672acced0d3", func := "loop.example/structuredjumps/laws.FnExactWildJumps", spec := "fnExactWildJumps", inPlace := ["internal/bytealg.IndexByteString", "internal/bytealg.IndexString"], unfollowed := true, recurses := true, named := ["internal/bytealg.MaxLen"], plainKeys := false, apart := false }
def FnExactWildJumpsSaid : Prop := fnExactWildJumpsRow.holds Try.pinned (OpenSpec.ofChange fnExactWildJumpsSpec)

/-- ITS FALSE NEIGHBOUR: 'it returns false'. Refute it at one input. -/
def fnExactWildJumpsWrong : ChangeSpec := { name := "fnExactWildJumps", fn := fun _ => fun
  | [d] => { results := [.lit (.bool false)], args := [d] }
  | _ => none }
def FnExactWildJumpsWrongFalsely : Prop := fnExactWildJumpsRow.holds Try.pinned (OpenSpec.ofChange fnExactWildJumpsWrong)

/-- 'laws.FnOrderDom': WHATEVER THE INPUT: true; the input reads as it did. -/
def fnOrderDomSpec : ChangeSpec := { name := "fnOrderDom", fn := fun _ => fun
  | [d] => { results := [.lit (.bool true)], args := [d] }
  | _ => none }
def fnOrderDomRow : OpenClaim := { program := "ytdolbmonmkjajaa", sum := "98528577666c42cb23f661b2b4b963a365e871f66b51806ccded9672acced0d3", func := "loop.example/structuredjumps/laws.FnOrderDom", spec := "fnOrderDom", inPlace := ["internal/bytealg.IndexByteString", "internal/bytealg.IndexString", "internal/abi.NoEscape"], unfollowed := true, recurses := true, named := ["internal/bytealg.MaxLen"], plainKeys := false, apart := false }
def FnOrderDomSaid : Prop := fnOrderDomRow.holds Try.pinned (OpenSpec.ofChange fnOrderDomSpec)

/-- ITS FALSE NEIGHBOUR: 'it returns false'. Refute it at one input. -/
def fnOrderDomWrong : ChangeSpec := { name := "fnOrderDom", fn := fun _ => fun
  | [d] => { results := [.lit (.bool false)], args := [d] }
  | _ => none }
def FnOrderDomWrongFalsely : Prop := fnOrderDomRow.holds Try.pinned (OpenSpec.ofChange fnOrderDomWrong)

/- THE SECOND FORM. 'bulk': how many values and letters a reading holds, each counted each time it is reached (what is shared counts as often as it is met; a slice's spare places count too). A statement '..UptoSaid' is the law's where the arguments, and the package variables that the reading takes, are together of bulk at most 1048576: NARROWER than '..Said'. Prove '..Said' where nothing that the law and all that it calls make is longer than what came in: it says more and counts as full. Else prove '..UptoSaid'. A law counts once. -/
mutual
def uptoBulk {H : Type} : DataW H → Nat
  | .lit (.string bytes) => bytes.length + 1
  | .lit _ => 1
  | .nil => 1
  | .ptr d => uptoBulk d + 1
  | .slice elems spare => uptoBulkAll elems + uptoBulkAll spare + 1
  | .agg parts => uptoBulkAll parts + 1
  | .iface _ d => uptoBulk d + 1
  | .map entries => uptoBulkEntries entries + 1
  | .held _ => 1
def uptoBulkAll {H : Type} : List (DataW H) → Nat
  | [] => 0
  | d :: r => uptoBulk d + uptoBulkAll r
def uptoBulkEntries {H : Type} : List (Lit × DataW H) → Nat
  | [] => 0
  | x :: r => uptoBulkEntry x + uptoBulkEntries r
def uptoBulkEntry {H : Type} : Lit × DataW H → Nat
  | (.string bytes, d) => bytes.length + uptoBulk d + 1
  | (_, d) => uptoBulk d + 1
 end
def uptoSmall : (H : Type) → List (DataW H) → Bool := fun _ ds => decide (uptoBulkAll ds ≤ 1048576)
def OpenSpec.upto (s : _root_.Go.ChangeSpec) : _root_.Go.OpenSpec := { _root_.Go.OpenSpec.ofChange s with cond := some uptoSmall }

/-- 'laws.FnExactBackJumps', WHERE WHAT IT READS IS OF BULK AT MOST 1048576: true; the input reads as it did. -/
def fnExactBackJumpsUptoRow : OpenClaim := { program := "ytdolbmonmkjajaa", sum := "98528577666c42cb23f661b2b4b963a365e871f66b51806ccded9672acced0d3", func := "loop.example/structuredjumps/laws.FnExactBackJumps", spec := "fnExactBackJumps", inPlace := ["internal/bytealg.IndexByteString", "internal/bytealg.IndexString"], unfollowed := true, recurses := true, named := ["internal/bytealg.MaxLen"], plainKeys := false, apart := false, narrowed := true }
def FnExactBackJumpsUptoSaid : Prop := fnExactBackJumpsUptoRow.holds Try.pinned (OpenSpec.upto fnExactBackJumpsSpec)

/-- 'laws.FnExactIsTame', WHERE WHAT IT READS IS OF BULK AT MOST 1048576: true; the input reads as it did. -/
def fnExactIsTameUptoRow : OpenClaim := { program := "ytdolbmonmkjajaa", sum := "98528577666c42cb23f661b2b4b963a365e871f66b51806ccded9672acced0d3", func := "loop.example/structuredjumps/laws.FnExactIsTame", spec := "fnExactIsTame", inPlace := ["internal/bytealg.IndexByteString", "internal/bytealg.IndexString"], unfollowed := true, recurses := true, named := ["internal/bytealg.MaxLen"], plainKeys := false, apart := false, narrowed := true }
def FnExactIsTameUptoSaid : Prop := fnExactIsTameUptoRow.holds Try.pinned (OpenSpec.upto fnExactIsTameSpec)

/-- 'laws.FnExactHeadersOf', WHERE WHAT IT READS IS OF BULK AT MOST 1048576: true; the input reads as it did. -/
def fnExactHeadersOfUptoRow : OpenClaim := { program := "ytdolbmonmkjajaa", sum := "98528577666c42cb23f661b2b4b963a365e871f66b51806ccded9672acced0d3", func := "loop.example/structuredjumps/laws.FnExactHeadersOf", spec := "fnExactHeadersOf", inPlace := ["internal/bytealg.IndexByteString", "internal/bytealg.IndexString", "internal/abi.NoEscape"], unfollowed := true, recurses := true, named := ["internal/bytealg.MaxLen"], plainKeys := false, apart := false, narrowed := true }
def FnExactHeadersOfUptoSaid : Prop := fnExactHeadersOfUptoRow.holds Try.pinned (OpenSpec.upto fnExactHeadersOfSpec)

/-- 'laws.FnExactWildJumps', WHERE WHAT IT READS IS OF BULK AT MOST 1048576: true; the input reads as it did. -/
def fnExactWildJumpsUptoRow : OpenClaim := { program := "ytdolbmonmkjajaa", sum := "98528577666c42cb23f661b2b4b963a365e871f66b51806ccded9672acced0d3", func := "loop.example/structuredjumps/laws.FnExactWildJumps", spec := "fnExactWildJumps", inPlace := ["internal/bytealg.IndexByteString", "internal/bytealg.IndexString"], unfollowed := true, recurses := true, named := ["internal/bytealg.MaxLen"], plainKeys := false, apart := false, narrowed := true }
def FnExactWildJumpsUptoSaid : Prop := fnExactWildJumpsUptoRow.holds Try.pinned (OpenSpec.upto fnExactWildJumpsSpec)

/-- 'laws.FnOrderDom', WHERE WHAT IT READS IS OF BULK AT MOST 1048576: true; the input reads as it did. -/
def fnOrderDomUptoRow : OpenClaim := { program := "ytdolbmonmkjajaa", sum := "98528577666c42cb23f661b2b4b963a365e871f66b51806ccded9672acced0d3", func := "loop.example/structuredjumps/laws.FnOrderDom", spec := "fnOrderDom", inPlace := ["internal/bytealg.IndexByteString", "internal/bytealg.IndexString", "internal/abi.NoEscape"], unfollowed := true, recurses := true, named := ["internal/bytealg.MaxLen"], plainKeys := false, apart := false, narrowed := true }
def FnOrderDomUptoSaid : Prop := fnOrderDomUptoRow.holds Try.pinned (OpenSpec.upto fnOrderDomSpec)

end Rows
end Go.Proofs.Ytdolbmonmkjajaa
