/-
  No cell of these rows narrows 'for every input' (looked for: loops, veiled, ifaces, maps, wideKeys, modest, calm, conditions, laid).
  DERIVED. THE GIVEN ROWS OF THIS SEAT. 2 by the template 'for every input the law returns true; each argument reads behind the call as it read before'; 0 by the template 'total and deterministic' (their statements: YtgkamcnbpiipoaaGreatTotals.lean).
  GIVEN WITH THE SEED: the statements are not yours to turn. If you find one false, say at which input.
  Laid BY PROGRAM, IN A SANDBOX (cutbox-rows.mjs): the forced cells as the released guide's own fill.sh prints them over the translation 195e2199ef9fc2c9… (all of the seat's roots in one cut). By AI agents, Wed Nov 11 2026. No macro, syntax, notation, axiom, sorry.
-/
import Derived.Test.YtgkamcnbpiipoaaGreatChecked
import GoSem.Claim
import GoSem.ClaimJoined
import GoSem.ClaimMapViews
import Derived.JoinedTies
import Derived.KernelRfl
namespace Go.Proofs.YtgkamcnbpiipoaaGreat
/- THE CELL 'sum', in the pinned program and in every row, IS THE sha256 OF THE DUMP (.gsa) THAT YtgkamcnbpiipoaaGreatProg.lean LOADS. Nothing in Lean hashes anything: it is a label: what it is worth is what the hold of that sum in a sandbox is worth. -/
noncomputable def Tryz.pinned : Pinned := { name := "ytgkamcnbpiipoaagreat", sum := "195e2199ef9fc2c99222dd8f7e7597f8428a40d1c67d45558fea6f03c03a55d5", checked := Tryz.checked }
namespace Rows
def none {H : Type} : Left H := { results := [], args := [] }

/-- 'laws.FnFirstOther': WHATEVER THE INPUT: true; the input reads as it did. -/
def fnFirstOtherSpec : ChangeSpec := { name := "fnFirstOther", fn := fun _ => fun
  | [d] => { results := [.lit (.bool true)], args := [d] }
  | _ => none }
def fnFirstOtherRow : OpenClaim := { program := "ytgkamcnbpiipoaagreat", sum := "195e2199ef9fc2c99222dd8f7e7597f8428a40d1c67d45558fea6f03c03a55d5", func := "loop.example/structuredjumps/laws.FnFirstOther", spec := "fnFirstOther", inPlace := ["internal/bytealg.IndexByteString", "internal/bytealg.IndexString"], unfollowed := true, recurses := true, named := ["internal/bytealg.MaxLen"], apart := false }
def FnFirstOtherSaid : Prop := fnFirstOtherRow.holds Tryz.pinned (OpenSpec.ofChange fnFirstOtherSpec)

/-- ITS FALSE NEIGHBOUR: 'it returns false'. Refute it at one input. -/
def fnFirstOtherWrong : ChangeSpec := { name := "fnFirstOther", fn := fun _ => fun
  | [d] => { results := [.lit (.bool false)], args := [d] }
  | _ => none }
def FnFirstOtherWrongFalsely : Prop := fnFirstOtherRow.holds Tryz.pinned (OpenSpec.ofChange fnFirstOtherWrong)

/-- 'laws.FnStopsText': WHATEVER THE INPUT: true; the input reads as it did. -/
def fnStopsTextSpec : ChangeSpec := { name := "fnStopsText", fn := fun _ => fun
  | [d] => { results := [.lit (.bool true)], args := [d] }
  | _ => none }
def fnStopsTextRow : OpenClaim := { program := "ytgkamcnbpiipoaagreat", sum := "195e2199ef9fc2c99222dd8f7e7597f8428a40d1c67d45558fea6f03c03a55d5", func := "loop.example/structuredjumps/laws.FnStopsText", spec := "fnStopsText", inPlace := ["internal/bytealg.IndexByteString", "internal/bytealg.IndexString"], unfollowed := true, recurses := true, named := ["internal/bytealg.MaxLen"], apart := false }
def FnStopsTextSaid : Prop := fnStopsTextRow.holds Tryz.pinned (OpenSpec.ofChange fnStopsTextSpec)

/-- ITS FALSE NEIGHBOUR: 'it returns false'. Refute it at one input. -/
def fnStopsTextWrong : ChangeSpec := { name := "fnStopsText", fn := fun _ => fun
  | [d] => { results := [.lit (.bool false)], args := [d] }
  | _ => none }
def FnStopsTextWrongFalsely : Prop := fnStopsTextRow.holds Tryz.pinned (OpenSpec.ofChange fnStopsTextWrong)

/- THE SECOND FORM. 'bulk': how many values and letters a reading holds, each counted each time it is reached (what is shared counts as often as it is met; a slice's spare places count too). A statement '..UptoSaid' is the law's where the arguments, and the package variables that the reading takes, are together of bulk at most 1048576: NARROWER than '..Said'. Prove '..Said' where nothing that the law and all that it calls make is longer than what came in: it says more and counts as full. Else prove '..UptoSaid'. A law counts once. -/
mutual
def uptoBulk {H : Type} : DataW H → Nat
  | .lit (.string bytes) => bytes.length + 1
  | .lit _ => 1
  | .nil => 1
  | .ptr d => uptoBulk d + 1
  | .slice elems spare => uptoBulkAll elems + uptoBulkAll spare + 1
  | .agg parts => uptoBulkAll parts + 1
  | .iface _ d => uptoBulk d + 1
  | .map entries => uptoBulkEntries entries + 1
  | .held _ => 1
def uptoBulkAll {H : Type} : List (DataW H) → Nat
  | [] => 0
  | d :: r => uptoBulk d + uptoBulkAll r
def uptoBulkEntries {H : Type} : List (Lit × DataW H) → Nat
  | [] => 0
  | x :: r => uptoBulkEntry x + uptoBulkEntries r
def uptoBulkEntry {H : Type} : Lit × DataW H → Nat
  | (.string bytes, d) => bytes.length + uptoBulk d + 1
  | (_, d) => uptoBulk d + 1
 end
def uptoSmall : (H : Type) → List (DataW H) → Bool := fun _ ds => decide (uptoBulkAll ds ≤ 1048576)
def OpenSpec.upto (s : _root_.Go.ChangeSpec) : _root_.Go.OpenSpec := { _root_.Go.OpenSpec.ofChange s with cond := some uptoSmall }

/-- 'laws.FnFirstOther', WHERE WHAT IT READS IS OF BULK AT MOST 1048576: true; the input reads as it did. -/
def fnFirstOtherUptoRow : OpenClaim := { program := "ytgkamcnbpiipoaagreat", sum := "195e2199ef9fc2c99222dd8f7e7597f8428a40d1c67d45558fea6f03c03a55d5", func := "loop.example/structuredjumps/laws.FnFirstOther", spec := "fnFirstOther", inPlace := ["internal/bytealg.IndexByteString", "internal/bytealg.IndexString"], unfollowed := true, recurses := true, named := ["internal/bytealg.MaxLen"], apart := false, narrowed := true }
def FnFirstOtherUptoSaid : Prop := fnFirstOtherUptoRow.holds Tryz.pinned (OpenSpec.upto fnFirstOtherSpec)

/-- 'laws.FnStopsText', WHERE WHAT IT READS IS OF BULK AT MOST 1048576: true; the input reads as it did. -/
def fnStopsTextUptoRow : OpenClaim := { program := "ytgkamcnbpiipoaagreat", sum := "195e2199ef9fc2c99222dd8f7e7597f8428a40d1c67d45558fea6f03c03a55d5", func := "loop.example/structuredjumps/laws.FnStopsText", spec := "fnStopsText", inPlace := ["internal/bytealg.IndexByteString", "internal/bytealg.IndexString"], unfollowed := true, recurses := true, named := ["internal/bytealg.MaxLen"], apart := false, narrowed := true }
def FnStopsTextUptoSaid : Prop := fnStopsTextUptoRow.holds Tryz.pinned (OpenSpec.upto fnStopsTextSpec)

end Rows
end Go.Proofs.YtgkamcnbpiipoaaGreat
