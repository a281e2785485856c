/-
  A slice of blocks that reads as a list of pairs of strings; whole blocks of memory; sums of sizes.
-/
import Derived.Below
import Derived.Laws.OwnMore
import Derived.Laws.MakeOwn
import Derived.Deep.Draws
import Derived.Laws.Rows
import Derived.Lib.QuietBelow
namespace Go.Proofs.Yteodlcgmncchpaa
open Go.RowKit

abbrev Bl := ByteArray × ByteArray

/-- The slice at A reads as the blocks g. -/
def Gr (w : World) (A : Option Addr) (g : List Bl) : Prop :=
  0 < g.length → ∃ b off, A = some ⟨b, off, none⟩ ∧ b < w.heap.size ∧ ∀ k (h : k < g.length), w.cell? ⟨b, off + k * 2, none⟩ = some (.string g[k].1) ∧ w.cell? ⟨b, off + k * 2 + 1, none⟩ = some (.string g[k].2)

theorem Gr.keep {w w' : World} {A : Option Addr} {g : List Bl} (h : Gr w A g) (hs : w.heap.size ≤ w'.heap.size) (hk : ∀ b o, b < w.heap.size → w'.cell? ⟨b, o, none⟩ = w.cell? ⟨b, o, none⟩) : Gr w' A g := by
  intro hn
  obtain ⟨b, off, rfl, hb, hc⟩ := h hn
  exact ⟨b, off, rfl, by omega, fun k hkk => ⟨(hk _ _ hb).trans (hc k hkk).1, (hk _ _ hb).trans (hc k hkk).2⟩⟩

theorem Gr.below {w w' : World} {A : Option Addr} {g : List Bl} (h : Gr w A g) (hb : Below w.heap.size w w') : Gr w' A g :=
  h.keep hb.size fun b o hlt => hb.cell (p := ⟨b, o, none⟩) hlt

theorem Gr.nil (w : World) (A : Option Addr) : Gr w A [] := fun h => absurd h (by simp)

theorem Gr.take {w : World} {A : Option Addr} {g : List Bl} (h : Gr w A g) (k : Nat) : Gr w A (g.take k) := by
  intro hn
  have hl : (g.take k).length ≤ g.length := by simp; omega
  obtain ⟨b, off, rfl, hb, hc⟩ := h (by omega)
  refine ⟨b, off, rfl, hb, fun j hj => ?_⟩
  have hj' : j < g.length := by omega
  have := hc j hj'
  simpa using this

/-- What the strings of a graph add up to. -/
def tot : List Bl → Nat
  | [] => 0
  | b :: g => b.1.size + b.2.size + tot g

theorem tot_append (g h : List Bl) : tot (g ++ h) = tot g + tot h := by
  induction g with
  | nil => simp [tot]
  | cons b g ih => simp [tot, ih]; omega

theorem take_snoc' (g : List Bl) (k : Nat) (h : k < g.length) : g.take (k + 1) = g.take k ++ [g[k]] := by
  rw [List.take_succ_eq_append_getElem h]

theorem tot_take (g : List Bl) (k : Nat) (h : k < g.length) : tot (g.take (k + 1)) = tot (g.take k) + (g[k].1.size + g[k].2.size) := by
  rw [take_snoc' g k h, tot_append]; simp [tot]

theorem tot_take_le (g : List Bl) (k : Nat) : tot (g.take k) ≤ tot g := by
  have := tot_append (g.take k) (g.drop k)
  rw [List.take_append_drop] at this
  omega

theorem tot_get (g : List Bl) (k : Nat) (h : k < g.length) : g[k].1.size + g[k].2.size ≤ tot g := by
  have := tot_take g k h
  have := tot_take_le g (k + 1)
  omega

/-- The names, one behind the other. -/
def names : List Bl → ByteArray
  | [] => ⟨#[]⟩
  | b :: g => b.1 ++ names g

theorem ba_ext {a b : ByteArray} (h : a.data.toList = b.data.toList) : a = b := by
  cases a; cases b; simp at h; simpa using h
theorem ba_append_toList (a b : ByteArray) : (a ++ b).data.toList = a.data.toList ++ b.data.toList := by simp
theorem ba_append_assoc (a b c : ByteArray) : a ++ b ++ c = a ++ (b ++ c) := by
  apply ba_ext; simp
theorem ba_empty_append (a : ByteArray) : (⟨#[]⟩ : ByteArray) ++ a = a := by apply ba_ext; simp
theorem ba_append_empty (a : ByteArray) : a ++ (⟨#[]⟩ : ByteArray) = a := by apply ba_ext; simp

theorem names_append (g h : List Bl) : names (g ++ h) = names g ++ names h := by
  induction g with
  | nil => exact (ba_empty_append _).symm
  | cons b g ih => simp only [List.cons_append, names, ih, ba_append_assoc]

theorem names_take (g : List Bl) (k : Nat) (h : k < g.length) : names (g.take (k + 1)) = names (g.take k) ++ g[k].1 := by
  rw [take_snoc' g k h, names_append]; simp only [names, ba_append_empty]

theorem names_size_le (g : List Bl) : (names g).size ≤ tot g := by
  induction g with
  | nil => exact Nat.le_refl 0
  | cons b g ih => simp [names, tot, ByteArray.size_append]; omega

/-- A block that is known whole, none of it frozen. -/
def Blk (w : World) (g : Nat) (t : TypeId) (cs : Array Value) : Prop := w.heap[g]? = some (.cells cs t (0, 0))

section
variable {w w' : World} {g : Nat} {t : TypeId} {cs : Array Value}
theorem Blk.lt (h : Blk w g t cs) : g < w.heap.size := by
  rcases Nat.lt_or_ge g w.heap.size with hlt | hge
  · exact hlt
  · unfold Blk at h; rw [Array.getElem?_eq_none hge] at h; cases h
theorem Blk.cell (h : Blk w g t cs) (i : Nat) : w.cell? ⟨g, i, none⟩ = cs[i]? := cell_of_row w g i cs t (0, 0) h
theorem Blk.some_cell (h : Blk w g t cs) {i : Nat} (hi : i < cs.size) : ∃ v, w.cell? ⟨g, i, none⟩ = some v := ⟨cs[i], by rw [h.cell, Array.getElem?_eq_getElem hi]⟩
theorem Blk.frozen (h : Blk w g t cs) (i : Nat) : w.frozen? ⟨g, i, none⟩ = false := by
  unfold Blk at h
  simp [World.frozen?, h]
theorem Blk.new (w : World) (t : TypeId) (cs : Array Value) : Blk (w.alloc (.cells cs t)) w.heap.size t cs := heap_alloc_new w _
theorem Blk.drew (h : Blk w g t cs) : Blk w.drew g t cs := h
theorem Blk.alloc (h : Blk w g t cs) (o : Obj) : Blk (w.alloc o) g t cs := (Below.heap_alloc w o g h.lt).trans h
theorem Blk.set_ (h : Blk w g t cs) (i : Nat) (u : Value) : Blk (w.setCell ⟨g, i, none⟩ u) g t (cs.setIfInBounds i u) := by
  unfold Blk at h ⊢
  simp [World.setCell, Array.getElem?_modify, h]
theorem Blk.below {B : Nat} (h : Blk w g t cs) (hb : Below B w w') (hg : g < B) : Blk w' g t cs := (hb.block g hg).trans h
end

/-- A slice of the call's own that reads as blocks: it lies at the head of one block. -/
def OwnGr (w : World) (B : Nat) (g : List Bl) : Prop := ∃ cs t, Blk w B t cs ∧ ∀ k (h : k < g.length), cs[k * 2]? = some (.string g[k].1) ∧ cs[k * 2 + 1]? = some (.string g[k].2)

theorem OwnGr.gr {w : World} {B : Nat} {g : List Bl} (h : OwnGr w B g) : Gr w (some ⟨B, 0, none⟩) g := by
  obtain ⟨cs, t, hb, hc⟩ := h
  intro _
  refine ⟨B, 0, rfl, hb.lt, fun k hk => ?_⟩
  rw [hb.cell, hb.cell, Nat.zero_add]
  exact hc k hk

end Go.Proofs.Yteodlcgmncchpaa
