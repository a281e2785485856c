/-
  Outcomes of texts with choices, and what RunText, NumberIn and EndsSilently hand back of them.
-/
import Derived.Test.YtgkamcnbpiipoaaGreatRunMath
import Derived.Test.YtgkamcnbpiipoaaGreatIter
import Derived.Test.YtgkamcnbpiipoaaGreatReader
namespace Go.Proofs.YtgkamcnbpiipoaaGreat
open Go.RowKit Go.Sort

/-- How a run ends, what it has done, the number at its end. -/
def ROut.code : ROut → Nat
  | .next _ => 0
  | .leave _ _ => 0
  | .fin k _ _ => k
def ROut.trace : ROut → List UInt8
  | .next s => s.trace
  | .leave _ s => s.trace
  | .fin _ t _ => t
def ROut.num : ROut → Nat
  | .next s => s.num
  | .leave _ s => s.num
  | .fin _ _ m => m

/-- A run's beginning. -/
def rs0 (c : List UInt8) : RSt := ⟨c, [], 0, 0⟩
theorem rs0_ok (c : List UInt8) : (rs0 c).ok := ⟨Nat.zero_le _, Nat.zero_le _⟩
/-- The outcome of a text with choices; none where one of them is none. -/
def RanT (s c : List UInt8) : Option ROut → Prop
  | some o => ∃ l, textOk s l ∧ choicesB (tb c) = true ∧ Runs (.l l) (rs0 c) o
  | none => (∀ l, ¬ textOk s l) ∨ choicesB (tb c) = false
theorem RanT.uniq {s c : List UInt8} {o o' : Option ROut} (h : RanT s c o) (h' : RanT s c o') : o = o' := by
  match o, o', h, h' with
  | none, none, _, _ => rfl
  | some _, some _, ⟨l, h1, _, h3⟩, ⟨l', h1', _, h3'⟩ =>
    have := textOk_uniq h1 h1'
    subst this
    rw [h3.uniq h3']
  | some _, none, ⟨l, h1, h2, _⟩, h' =>
    rcases h' with h' | h'
    · exact absurd h1 (h' l)
    · rw [h2] at h'; cases h'
  | none, some _, h, ⟨l, h1, h2, _⟩ =>
    rcases h with h | h
    · exact absurd h1 (h l)
    · rw [h2] at h; cases h
/-- What RunText and NumberIn hand back. -/
def rtV : Option ROut → Value
  | some o => .tuple #[.string (tb o.trace), .int .i64 (o.code : Nat), .bool true]
  | none => .tuple #[.string (tb []), .int .i64 0, .bool false]
def niV : Option ROut → Value
  | some o => .int .i64 (o.num : Nat)
  | none => .int .i64 (-1)

/-- Does it go on forever, and do no more blocks? -/
def esB : Option ROut → Bool
  | some o => decide (o.code = 2) && decide (o.trace.length < 60)
  | none => false
end Go.Proofs.YtgkamcnbpiipoaaGreat
