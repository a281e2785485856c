/-
  Jumps as texts, and what BackJumps and WildJumps answer.
-/
import Derived.Test.YtdolbmonmkjajaaGreatKinds
import Derived.Test.YtdolbmonmkjajaaGreatSpecParse
namespace Go.Proofs.YtdolbmonmkjajaaGreat
open Go.RowKit Go.Sort

/-- A jump as a text. -/
def jt (g : List Bl) (j : Nat × Nat) : ByteArray := ⟨#[letC g j.1, letC g j.2]⟩

theorem two_bytes (a b : UInt8) : strOfNums [(a.toNat : Int), (b.toNat : Int)] = ⟨#[a, b]⟩ := by
  simp [strOfNums]

theorem jumps_round {g : List Bl} {K : Nat → Bool} {k x : Nat} (hk : k < (wayOrd g).length) (hx : x = (wayOrd g)[k]) :
    ((wayOrd g).take (k + 1)).flatMap (jumpsOf1 g K) = ((wayOrd g).take k).flatMap (jumpsOf1 g K) ++ jumpsOf1 g K x := by
  rw [List.take_succ_eq_append_getElem hk, List.flatMap_append, ← hx]; simp

abbrev OwnJ (w : World) (g : List Bl) (base : Nat) (v : Value) (P : List (Nat × Nat)) : Prop := OwnStr w base v (P.map (jt g))

theorem own_lower {w : World} {base base' : Nat} {e : TypeId} {v : Value} {n : Nat} {xs : List Value} (h : w.ownsRow base e 1 v n xs) (hle : base' ≤ base) : w.ownsRow base' e 1 v n xs := by
  refine ⟨h.1, ?_⟩
  rcases h.2 with hn | ⟨gb, cap, cur, hv, hb, rest⟩
  · exact .inl hn
  · exact .inr ⟨gb, cap, cur, hv, Nat.le_trans hle hb, rest⟩

/-- What BackJumps and WildJumps answer. -/
def JumpsPost (K : Nat → Bool) (w : World) (g : List Bl) (e : Ending) (w' : World) : Prop :=
  ∃ v, e = .returned (.tuple #[v, .bool (validB g)]) ∧ OwnJ w' g w.heap.size v (if validB g = true then jumpL g K else []) ∧ Below w.heap.size w w'

theorem ret_b {a b : Bool} (h : a = b) : Ending.returned (.bool a) = .returned (.bool b) := by rw [h]
/-- Is there no wild jump? -/
def tameB (g : List Bl) : Bool := validB g && decide ((jumpL g wildK).length = 0)
/-- What HeadersOf and MeetsOf answer. -/
def headV (g : List Bl) : ByteArray := if validB g = true then namesAt g (headL g) else ⟨#[]⟩
def meetsV (g : List Bl) : ByteArray := if validB g = true then namesAt g (meetsL g) else ⟨#[]⟩
end Go.Proofs.YtdolbmonmkjajaaGreat
