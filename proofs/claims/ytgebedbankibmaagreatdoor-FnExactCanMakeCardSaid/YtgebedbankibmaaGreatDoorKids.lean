/-
  Contract of the program's Dominates.
-/
import Derived.Test.YtgebedbankibmaaGreatDoorTreeOf
import Derived.Test.YtgebedbankibmaaGreatDoorSpecDom
import Derived.Test.YtgebedbankibmaaGreatDoorPrevOf
import Derived.Shelf.SlicesE.Reverse
namespace Go.Proofs.YtgebedbankibmaaGreatDoor
open Go.RowKit Go.Sort

theorem treeDom_any (tb NB : Nat) (g : List Bl) (B off cap : Nat) (S : Nat → Nat) (a b : Nat) (w : World) (hv : validB g = true) (h : TreeAt w tb NB g B off cap S) (ha : a < g.length) (hb : Rch g [] b) :
    Calls Tryz.prog 101 #[.pointer (some ⟨tb, 0, none⟩), nptr NB a, nptr NB b] w fun e w' => e = .returned (.bool (dmB g a b)) ∧ ∃ m, w' = w.drewN m := by
  have := dominates_any tb NB _ S _ g a b w h.tree h.nodes (valid_iff.1 hv).2.1 ha (hb.lt hv) (h.small b)
  rwa [h.set hv hb] at this

end Go.Proofs.YtgebedbankibmaaGreatDoor

/-
  What is found in the tree for a block: the blocks that dominate it, its children.
-/
namespace Go.Proofs.YtgebedbankibmaaGreatDoor
open Go.RowKit Go.Sort Go.Shelf

theorem own_idx {w : World} {base NB : Nat} {v : Value} {P : List Nat} (h : w.ownsRow base 54 1 v P.length (P.map (nptr NB))) :
    ∃ A cap, v = .slice A P.length cap ∧ PtsI w A NB P ∧ (0 < P.length → ∃ B, A = some ⟨B, 0, none⟩ ∧ base ≤ B ∧ B < w.heap.size ∧ ∀ k, w.frozen? ⟨B, k, none⟩ = false) := by
  rcases h.2 with ⟨rfl, hn⟩ | ⟨gb, cap, cur, hv, hb, hg, _⟩
  · exact ⟨none, 0, by rw [hn], fun hpos => absurd hpos (by omega), fun hpos => absurd hpos (by omega)⟩
  · subst hv
    have hlt : gb < w.heap.size := by
      rcases Nat.lt_or_ge gb w.heap.size with h' | h'
      · exact h'
      · rw [Array.getElem?_eq_none h'] at hg; cases hg
    refine ⟨_, _, rfl, fun _ => ⟨gb, 0, rfl, hlt, fun j hj => ?_⟩, fun _ => ⟨gb, rfl, hb, hlt, fun k => by simp [World.frozen?, hg]⟩⟩
    have hc := h.cellAt j (by omega)
    rw [List.getElem?_map, List.getElem?_eq_getElem hj] at hc
    rw [Nat.zero_add]; exact hc

theorem pts_of_idx {w : World} {A : Option Addr} {NB : Nat} {g : List Bl} {L : List Nat} (h : PtsI w A NB L) (hN : NodesIn w NB g) (hL : ∀ x ∈ L, x < g.length) : Pts w A (nodesAt NB g L) := by
  intro hl
  rw [nodesAt_length] at hl
  obtain ⟨b, off, rfl, hb, hc⟩ := h hl
  refine ⟨b, off, rfl, hb, fun k hk => ?_⟩
  rw [nodesAt_length] at hk
  have hi := hL _ (List.getElem_mem hk)
  have hget : (nodesAt NB g L)[k]'(by rw [nodesAt_length]; exact hk) = (nb NB L[k], nthName g L[k]) := by simp [nodesAt]
  rw [hget]
  have hn1 := hN _ hi
  exact ⟨hc k hk, hn1.lt, by rw [hn1.cell 1, nthName_at hi]; rfl⟩

/-- Blocks are found. -/
def FoundPost (w : World) (NB : Nat) (L : List Nat) (e : Ending) (w' : World) : Prop :=
  ∃ A cap, e = .returned (.slice A L.length cap) ∧ PtsI w' A NB L ∧ Below w.heap.size w w'

theorem ret_sl {A : Option Addr} {n n' c : Nat} (h : n = n') : Ending.returned (.slice A n c) = .returned (.slice A n' c) := by rw [h]

/-- One more behind a row of the call's own. -/
theorem grown_row {a' : World} {base NB x : Nat} {v' : Value} {P : List Nat} (h : a'.ownsRow base 54 1 v' (P.length + 1) (P.map (nptr NB) ++ [nptr NB x])) : a'.ownsRow base 54 1 v' (P ++ [x]).length ((P ++ [x]).map (nptr NB)) := by
  rw [List.length_append, List.map_append]; exact h

/-- The line of what comes next, if there is something. -/
def lineO (g : List Bl) : Option Nat → List Nat
  | some a => domL g a
  | none => []

end Go.Proofs.YtgebedbankibmaaGreatDoor

/-
  What is found in the tree for a block: its children; the names of what is found.
-/
namespace Go.Proofs.YtgebedbankibmaaGreatDoor
open Go.RowKit Go.Sort Go.Shelf

theorem reachS_small {g : List Bl} (hv : validB g = true) : (reachS g).length ≤ 26 := by
  have h1 := srt_len g (reach g) g.length
  rw [← reachS_srt] at h1
  have := (valid_iff.1 hv).2.1
  omega

theorem domL_lt2 {g : List Bl} (hv : validB g = true) {n : Nat} (hr : Rch g [] n) : ∀ x ∈ domL g n, x < g.length := fun _ hx => (((mem_domL hv hr).1 hx).live hr).lt hv

theorem run_eql_nil_ptr {P : Program} (w : World) {tp te : TypeId} {b : Addr} (hp : P.underlying tp = some (.pointer te)) :
    (binOp .eql tp (.pointer none) (.pointer (some b))).run P w = .ok (.bool false) w := by
  have h : ∀ d : Nat, (Op.equalIn (d + 1) tp (.pointer none) (.pointer (some b))).run P w = .ok false w := fun d => by
    simp [Op.equalIn, run_underlying hp]
  simp only [binOp]
  simp [Op.equal, Op.maxDepth, h 9999]

theorem nptr_ne {NB x y : Nat} (h : x ≠ y) : (⟨nb NB x, 0, none⟩ : Addr) ≠ ⟨nb NB y, 0, none⟩ := fun e => h (by have h7 := (Addr.mk.inj e).1; simp only [nb] at h7; omega)


/-- The names of what is found in the tree. -/
def FindsAt (F : FuncId) (L : List Bl → Nat → List Nat) : Prop := ∀ (tb NB : Nat) (g : List Bl) (B off cap : Nat) (S : Nat → Nat) (n : Nat) (w : World), validB g = true → TreeAt w tb NB g B off cap S → Rch g [] n →
  Calls Tryz.prog F #[.pointer (some ⟨tb, 0, none⟩), nptr NB n] w (FoundPost w NB (L g n))

def foundV (L : List Bl → Nat → List Nat) (g : List Bl) (s : ByteArray) : ByteArray := match liveOf g s with | some n => namesAt g (L g n) | none => ⟨#[]⟩

end Go.Proofs.YtgebedbankibmaaGreatDoor
