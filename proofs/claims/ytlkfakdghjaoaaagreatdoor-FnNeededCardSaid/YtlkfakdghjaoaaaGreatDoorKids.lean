import Derived.Test.YtlkfakdghjaoaaaGreatDoorJ13
import Derived.Test.YtlkfakdghjaoaaaGreatDoorJ11
import Derived.Test.YtlkfakdghjaoaaaGreatDoorJ4
import Derived.Shelf.SlicesE.Reverse
namespace Go.Proofs.YtlkfakdghjaoaaaGreatDoor
open Go.RowKit Go.Sort
end Go.Proofs.YtlkfakdghjaoaaaGreatDoor
namespace Go.Proofs.YtlkfakdghjaoaaaGreatDoor
open Go.RowKit Go.Sort Go.Shelf
theorem jN {w : World} {base NB : Nat} {v : Value} {P : List Nat} (h : w.ownsRow base 95 1 v P.length (P.map (ag NB))) :
  ∃ A cap, v = .slice A P.length cap ∧ PtsI w A NB P ∧ (0 < P.length → ∃ B, A = some ⟨B, 0, none⟩ ∧ base ≤ B ∧ B < w.heap.size ∧ ∀ k, w.frozen? ⟨B, k, none⟩ = false) := by
 rcases h.2 with ⟨rfl, hn⟩ | ⟨gb, cap, cur, hv, hb, hg, _⟩
 ·exact ⟨none, 0, by rw [hn], fun hpos => absurd hpos (by omega), fun hpos => absurd hpos (by omega)⟩
 ·subst hv
  have hlt : gb < w.heap.size := by
   rcases Nat.lt_or_ge gb w.heap.size with h' | h'
   ·exact h'
   ·rw [Array.getElem?_eq_none h'] at hg; cases hg
  refine ⟨_, _, rfl, fun _ => ⟨gb, 0, rfl, hlt, fun j hj => ?_⟩, fun _ => ⟨gb, rfl, hb, hlt, fun k => by simp [World.frozen?, hg]⟩⟩
  have hc := h.cellAt j (by omega)
  rw [List.getElem?_map, List.getElem?_eq_getElem hj] at hc
  rw [Nat.zero_add]; exact hc
theorem zv {w : World} {A : Option Addr} {NB : Nat} {g : List Bl} {L : List Nat} (h : PtsI w A NB L) (hN : NodesIn w NB g) (hL : ∀ x ∈ L, x < g.length) : Pts w A (ec NB g L) := by
 intro hl
 rw [cu] at hl
 obtain ⟨b, off, rfl, hb, hc⟩ := h hl
 refine ⟨b, off, rfl, hb, fun k hk => ?_⟩
 rw [cu] at hk
 have hi := hL _ (List.getElem_mem hk)
 have hget : (ec NB g L)[k]'(by rw [cu]; exact hk) = (nb NB L[k], ay g L[k]) := by simp [ec]
 rw [hget]
 have hn1 := hN _ hi
 exact ⟨hc k hk, hn1.lt, by rw [hn1.cell 1, al hi]; rfl⟩
theorem nE {a' : World} {base NB x : Nat} {v' : Value} {P : List Nat} (h : a'.ownsRow base 95 1 v' (P.length + 1) (P.map (ag NB) ++ [ag NB x])) : a'.ownsRow base 95 1 v' (P ++ [x]).length ((P ++ [x]).map (ag NB)) := by
 rw [List.length_append, List.map_append]; exact h
end Go.Proofs.YtlkfakdghjaoaaaGreatDoor
namespace Go.Proofs.YtlkfakdghjaoaaaGreatDoor
open Go.RowKit Go.Sort Go.Shelf
theorem bO {g : List Bl} (hv : aa g = true) : (am g).length ≤ 26 := by
 have h1 := oI g (cI g) g.length
 rw [← mO] at h1
 have := (aj.1 hv).2.1
 omega
theorem qv {P : Program} (w : World) {tp te : TypeId} {b : Addr} (hp : P.underlying tp = some (.pointer te)) :
  (binOp .eql tp (.pointer none) (.pointer (some b))).run P w = .ok (.bool false) w := by
 have h : ∀ d : Nat, (Op.equalIn (d + 1) tp (.pointer none) (.pointer (some b))).run P w = .ok false w := fun d => by
  simp [Op.equalIn, run_underlying hp]
 simp only [binOp]
 simp [Op.equal, Op.maxDepth, h 9999]
theorem Ex {NB x y : Nat} (h : x ≠ y) : (⟨nb NB x, 0, none⟩ : Addr) ≠ ⟨nb NB y, 0, none⟩ := fun e => h (by have h7 := (Addr.mk.inj e).1; simp only [nb] at h7; omega)
end Go.Proofs.YtlkfakdghjaoaaaGreatDoor
