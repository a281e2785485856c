/-
  The nodes of a graph as a list, and its names.
-/
import Derived.Test.YteodlcgmncchpaaNodes
import Derived.Test.YteodlcgmncchpaaJoin
import Derived.Test.YteodlcgmncchpaaSpecValid
namespace Go.Proofs.Yteodlcgmncchpaa
open Go.RowKit Go.Sort

/-- The nodes of a graph as a list. -/
def nodeList (NB : Nat) (g : List Bl) : List (Nat × ByteArray) := (List.range g.length).map fun i => (nb NB i, nthName g i)

theorem nodeList_length (NB : Nat) (g : List Bl) : (nodeList NB g).length = g.length := by simp [nodeList]

theorem joined_range (NB : Nat) (g : List Bl) : ∀ k, k ≤ g.length → joined ((List.range k).map fun i => (nb NB i, nthName g i)) = names (g.take k)
  | 0, _ => by simp [joined, names]
  | k + 1, h => by
    rw [List.range_succ, List.map_append, joined_append, joined_range NB g k (by omega), names_take g k (by omega)]
    simp only [List.map_cons, List.map_nil, joined, ba_append_empty, nthName_at (show k < g.length by omega)]

theorem joined_nodes (NB : Nat) (g : List Bl) : joined (nodeList NB g) = names g := by
  unfold nodeList
  rw [joined_range NB g g.length (Nat.le_refl _), List.take_length]

theorem Nodes.pts {w : World} {NB : Nat} {g : List Bl} {E : Nat → Value} (h : Nodes w NB g E) : Pts w (some ⟨NB, 0, none⟩) (nodeList NB g) := by
  intro _
  refine ⟨NB, 0, rfl, h.lt, fun k hk => ?_⟩
  have hk' : k < g.length := by rwa [nodeList_length] at hk
  have e : (nodeList NB g)[k] = (nb NB k, g[k].1) := by simp [nodeList, nthName_at hk']
  rw [e, Nat.zero_add]
  refine ⟨h.ptr hk', (h.node k hk').lt, ?_⟩
  have := (h.node k hk').cell 1
  simpa using this

theorem ret_sb {a a' : ByteArray} {b b' : Bool} (h1 : a = a') (h2 : b = b') : Ending.returned (.tuple #[.string a, .bool b]) = .returned (.tuple #[.string a', .bool b']) := by rw [h1, h2]

theorem join_none (A : Option Addr) (cap : Nat) (w : World) :
    Calls Try.prog 65 #[.slice A 0 cap] w fun e w' => e = .returned (.string ⟨#[]⟩) ∧ Below w.heap.size w w' :=
  join_any A cap [] w (fun h => absurd h (by simp)) (Nat.zero_le _) (Nat.zero_le _)

end Go.Proofs.Yteodlcgmncchpaa
