import Derived.Test.YtlkfakdghjaoaaaGreatDoorJ1
import Derived.Lib.QuietBelow
namespace Go.Proofs.YtlkfakdghjaoaaaGreatDoor
open Go.RowKit Go.Sort
def IntsV (w : World) (base : Nat) (v : Value) (xs : List Int) : Prop := (v = .slice none 0 0 ∧ xs.length = 0) ∨ ∃ B cap t cs, v = .slice (some ⟨B, 0, none⟩) xs.length cap ∧ base ≤ B ∧ Blk w B t cs ∧ xs.length ≤ cs.size ∧ ∀ k (h : k < xs.length), cs[k]? = some (.int .i64 xs[k])
theorem IntsV.below {w w' : World} {base : Nat} {v : Value} {xs : List Int} (h : IntsV w base v xs) (hb : Below w.heap.size w w') : IntsV w' base v xs := by
 rcases h with h | ⟨B, cap, t, cs, e, hB, hk, hs, hc⟩
 ·exact .inl h
 ·exact .inr ⟨B, cap, t, cs, e, hB, hk.below hb hk.lt, hs, hc⟩
theorem IntsV.low {w : World} {base base' : Nat} {v : Value} {xs : List Int} (h : IntsV w base v xs) (hb : base' ≤ base) : IntsV w base' v xs := by
 rcases h with h | ⟨B, cap, t, cs, e, hB, hk, hs, hc⟩
 ·exact .inl h
 ·exact .inr ⟨B, cap, t, cs, e, by omega, hk, hs, hc⟩
def MarkedI (cs : Array Value) (l k : Nat) : Prop := l ≤ cs.size ∧ ∀ j, j < k → cs[j]? = some (.int .i64 ((1 + j : Nat) : Int))
theorem MarkedI.step {cs : Array Value} {l k : Nat} (h : MarkedI cs l k) (hk : k < l) : MarkedI (cs.setIfInBounds k (.int .i64 ((1 + k : Nat) : Int))) l (k + 1) := by
 refine ⟨by rw [Array.size_setIfInBounds]; exact h.1, fun j hj => ?_⟩
 rw [Array.getElem?_setIfInBounds]
 have := h.1
 by_cases e : k = j
 ·subst e; rw [if_pos rfl, if_pos (by omega)]
 ·rw [if_neg e]; exact h.2 j (by omega)
def MarkedIV (w : World) (v : Value) (n : Nat) : Prop := (v = .slice none 0 0 ∧ n = 0) ∨ ∃ B cap cs t, v = .slice (some ⟨B, 0, none⟩) n cap ∧ Blk w B t cs ∧ MarkedI cs n n
theorem MarkedIV.below {w w' : World} {v : Value} {n : Nat} (h : MarkedIV w v n) (hb : Below w.heap.size w w') : MarkedIV w' v n := by
 rcases h with h | ⟨B, cap, cs, t, e, hk, hm⟩
 ·exact .inl h
 ·exact .inr ⟨B, cap, cs, t, e, hk.below hb hk.lt, hm⟩
end Go.Proofs.YtlkfakdghjaoaaaGreatDoor
