/-
  Lists of strings as they lie; the laws' markText, eqStringS, markStringS and heldStringS; lists of strings of a call's own.
-/
import Derived.Test.YtdpjdhllaokbfaaBase
import Derived.Test.YtdpjdhllaokbfaaOnly
import Derived.Test.YtdpjdhllaokbfaaOwnStr
import Derived.Laws.BytesArg
import Derived.Lib.QuietBelow
namespace Go.Proofs.Ytdpjdhllaokbfaa
open Go.RowKit Go.Sort

def digit (k : Nat) : ByteArray := strOfNums [48 + (k : Int) % 10]

/-- The digits of a number, before a text. -/
def mkF : Nat → Nat → ByteArray → ByteArray
  | 0, _, o => o
  | f + 1, k, o => if k = 0 then o else mkF f (k / 10) (digit k ++ o)

theorem mkF_zero (f : Nat) (o : ByteArray) : mkF f 0 o = o := by cases f <;> rfl
theorem mkF_step {f k : Nat} {o : ByteArray} (h : 0 < k) : mkF (f + 1) k o = mkF f (k / 10) (digit k ++ o) := by
  show (if k = 0 then o else mkF f (k / 10) (digit k ++ o)) = _
  rw [if_neg (by omega)]

/-- The mark of a number. -/
def mT (n : Nat) : ByteArray := ⟨#[109]⟩ ++ mkF 7 n ⟨#[]⟩

theorem digit_size (k : Nat) : (digit k).size = 1 := rfl


/-- A row of cells that holds marks: the first k cells. -/
def Marked (cs : Array Value) (n m k : Nat) : Prop := m ≤ cs.size ∧ ∀ j, j < k → cs[j]? = some (.string (mT (n + j)))

theorem Marked.step {cs : Array Value} {n m k : Nat} (h : Marked cs n m k) (hk : k < m) : Marked (cs.setIfInBounds k (.string (mT (n + k)))) n m (k + 1) := by
  refine ⟨by simpa using h.1, fun j hj => ?_⟩
  have hsz := h.1
  rw [Array.getElem?_setIfInBounds]
  by_cases e : k = j
  · subst e; rw [if_pos rfl, if_pos (by omega)]
  · rw [if_neg e]; exact h.2 j (by omega)

/-- Only one block's cells changed. -/
def MarkPost (B n m : Nat) (w : World) (e : Ending) (w' : World) : Prop :=
  e = .returned (.int .i64 ((n + m : Nat) : Int)) ∧ (∃ cs t, Blk w' B t cs ∧ Marked cs n m m) ∧ Only B w w'

theorem Only.setCell {R : Nat} {a w : World} (h : Only R a w) (j : Nat) (v : Value) : Only R a (w.setCell ⟨R, j, none⟩ v) :=
  h.trans ⟨rfl, rfl, rfl, by simp, fun k hk _ => Below.heap_setCell w ⟨R, j, none⟩ v k hk⟩

theorem only_belowS {B n : Nat} {w w' : World} (h : Only B w w') (h1 : n ≤ B) (h2 : n ≤ w.heap.size) : Below n w w' :=
  ⟨h.os, h.tape, h.output, h.size, fun k hk => h.block k (by omega) (by omega)⟩
theorem own_onlyS {w w' : World} {base R : Nat} {e : TypeId} {v : Value} {n size : Nat} {xs : List Value} (h : w.ownsRow base e size v n xs) (ho : Only R w w') (hR : R < base) : w'.ownsRow base e size v n xs := by
  refine h.kept (row := some R) ⟨ho.os, ho.tape, ho.output, ho.size, fun k hk hne => ho.block k (fun q => hne (by rw [q])) hk⟩ ?_
  cases hv : v.ownBlock with
  | none => exact .inl rfl
  | some k =>
    have := (h.lt k hv).1
    refine .inr fun q => ?_
    injection q with q
    omega






/-- A list that holds marks. -/
def MarkedV (w : World) (v : Value) (n : Nat) : Prop := (v = .slice none 0 0 ∧ n = 0) ∨ ∃ B cap cs t, v = .slice (some ⟨B, 0, none⟩) n cap ∧ Blk w B t cs ∧ Marked cs 1 n n
theorem MarkedV.below {w w' : World} {v : Value} {n : Nat} (h : MarkedV w v n) (hb : Below w.heap.size w w') : MarkedV w' v n := by
  rcases h with h | ⟨B, cap, cs, t, e, hk, hm⟩
  · exact .inl h
  · exact .inr ⟨B, cap, cs, t, e, hk.below hb hk.lt, hm⟩

theorem own_casesS {w : World} {base : Nat} {v : Value} {ps : List ByteArray} (h : OwnStr w base v ps) : (v = .slice none 0 0 ∧ ps.length = 0) ∨ ∃ B cap cs t, v = .slice (some ⟨B, 0, none⟩) ps.length cap ∧ base ≤ B ∧ Blk w B t cs ∧ ps.length ≤ cs.size := by
  rcases h.2 with ⟨hv, hn⟩ | ⟨B, cap, cur, hv, hb, hg, hnc, _, _, ht⟩
  · exact .inl ⟨hv, hn⟩
  · refine .inr ⟨B, cap, cur, 9, hv, hb, hg, ?_⟩
    have := congrArg List.length ht
    rw [List.length_take, List.length_map, Nat.mul_one, Array.length_toList] at this
    omega


end Go.Proofs.Ytdpjdhllaokbfaa

