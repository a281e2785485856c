/-
  Contracts of FormatGraph, the program's and the model's.
-/
import Derived.Test.YtdpjdhllaokbfaaGreatNodes
import Derived.Deep.RegionHeld3
import Derived.Lib.Join
namespace Go.Proofs.YtdpjdhllaokbfaaGreat
open Go.RowKit Go.Sort

def mark (next : ByteArray) : ByteArray := if next.size = 1 then ⟨#[62]⟩ else if next.size = 2 then ⟨#[63]⟩ else ⟨#[46]⟩

theorem is_jump (u : Value) (w : World) : (Instr.typeAssert (.iface 134 (.agg #[u])) 70 134 true).run Tryz.prog w = .ok (.tuple #[.agg #[u], .bool true]) w := by kernel_rfl
theorem branch_no_jump (u v : Value) (w : World) : (Instr.typeAssert (.iface 136 (.agg #[u, v])) 70 134 true).run Tryz.prog w = .ok (.tuple #[.agg #[.pointer none], .bool false]) w := by kernel_rfl
theorem is_branch (u v : Value) (w : World) : (Instr.typeAssert (.iface 136 (.agg #[u, v])) 70 136 true).run Tryz.prog w = .ok (.tuple #[.agg #[u, v], .bool true]) w := by kernel_rfl
theorem stop_no_jump (w : World) : (Instr.typeAssert (.iface 138 (.agg #[])) 70 134 true).run Tryz.prog w = .ok (.tuple #[.agg #[.pointer none], .bool false]) w := by kernel_rfl
theorem stop_no_branch (w : World) : (Instr.typeAssert (.iface 138 (.agg #[])) 70 136 true).run Tryz.prog w = .ok (.tuple #[.agg #[.pointer none, .pointer none], .bool false]) w := by kernel_rfl


def part (b : Bl) : ByteArray := b.1 ++ mark b.2 ++ b.2

theorem mark_size (next : ByteArray) : (mark next).size = 1 := by
  unfold mark; split
  · rfl
  · split <;> rfl

theorem part_size (b : Bl) : (part b).size = b.1.size + 1 + b.2.size := by
  unfold part; rw [ByteArray.size_append, ByteArray.size_append, mark_size]

/-- What FormatGraph returns of a graph. -/
def fmtG (g : List Bl) : ByteArray := ⟨(Lib.join (g.map fun b => (part b).data.toList) [44]).toArray⟩

/-- While the parts are written: the first k are there. -/
structure Parts (w : World) (PB : Nat) (g : List Bl) (k : Nat) : Prop where
  row : ∃ cs, Blk w PB 9 cs ∧ cs.size = g.length ∧ ∀ i (h : i < g.length), i < k → cs[i]? = some (.string (part g[i]))

theorem Parts.below {w w' : World} {PB : Nat} {g : List Bl} {k : Nat} (h : Parts w PB g k) (hb : Below w.heap.size w w') : Parts w' PB g k := by
  obtain ⟨cs, hbk, hr⟩ := h.row
  exact ⟨cs, hbk.below hb hbk.lt, hr⟩

theorem Parts.step {w : World} {PB : Nat} {g : List Bl} {k : Nat} {s : ByteArray} (h : Parts w PB g k) (hk : k < g.length) (hs : part g[k] = s) : Parts (w.setCell ⟨PB, k, none⟩ (.string s)) PB g (k + 1) := by
  obtain ⟨cs, hbk, hsz, hr⟩ := h.row
  refine ⟨_, hbk.set_ k _, by simpa using hsz, fun i hi hik => ?_⟩
  rw [Array.getElem?_setIfInBounds]
  by_cases e : k = i
  · subst e; rw [if_pos rfl, if_pos (by omega), hs]
  · rw [if_neg e]; exact hr i hi (by omega)

theorem info_string : (Tryz.prog.info? 9).map (fun i => (i.zero, i.size, i.bytes)) = some (some (.string ⟨#[]⟩), 1, 16) := by kernel_rfl

def fmtVal (g : List Bl) : ByteArray := if validB g then fmtG g else ⟨#[]⟩
theorem fmtVal_yes {g : List Bl} (h : validB g = true) : fmtVal g = fmtG g := by unfold fmtVal; rw [if_pos h]
theorem fmtVal_no {g : List Bl} (h : validB g = false) : fmtVal g = ⟨#[]⟩ := by unfold fmtVal; rw [h]; rfl

theorem keepS {w w' : World} {n : Nat} {s y : Value} (hb : Below w.heap.size w w') (ln : n < w.heap.size)
    (h : w.cell? ⟨n, 1, none⟩ = some s ∧ w.cell? ⟨n, 2, none⟩ = some y) : w'.cell? ⟨n, 1, none⟩ = some s ∧ w'.cell? ⟨n, 2, none⟩ = some y :=
  ⟨(hb.cell (p := ⟨n, 1, none⟩) ln).trans h.1, (hb.cell (p := ⟨n, 2, none⟩) ln).trans h.2⟩

theorem keepSet {w : World} {n p k : Nat} {s y u : Value} (hne : n ≠ p)
    (h : w.cell? ⟨n, 1, none⟩ = some s ∧ w.cell? ⟨n, 2, none⟩ = some y) : (w.setCell ⟨p, k, none⟩ u).cell? ⟨n, 1, none⟩ = some s ∧ (w.setCell ⟨p, k, none⟩ u).cell? ⟨n, 2, none⟩ = some y :=
  ⟨(World.cell?_setCell_other w ⟨p, k, none⟩ ⟨n, 1, none⟩ u (fun e => hne (by injection e with e1 _; exact e1.symm))).trans h.1, (World.cell?_setCell_other w ⟨p, k, none⟩ ⟨n, 2, none⟩ u (fun e => hne (by injection e with e1 _; exact e1.symm))).trans h.2⟩

theorem Blk.ne_ {w : World} {g g' : Nat} {t t' : TypeId} {cs cs' : Array Value} (h : Blk w g t cs) (h' : Blk w g' t' cs') (hne : t ≠ t') : g ≠ g' := by
  rintro rfl
  unfold Blk at h h'
  rw [h] at h'
  injection h' with h'
  injection h' with _ ht
  exact hne ht

theorem Nodes.setFar {w : World} {NB : Nat} {g : List Bl} {E : Nat → Value} {p k : Nat} {t : TypeId} {cs : Array Value} {u : Value} (h : Nodes w NB g E) (hb : Blk w p t cs) (h1 : 73 ≠ t) (h2 : 72 ≠ t) :
    Nodes (w.setCell ⟨p, k, none⟩ u) NB g E := by
  obtain ⟨cs', hr, hr'⟩ := h.row
  refine ⟨⟨cs', (Below.heap_setCell _ _ _ _ (by show NB ≠ p; exact hr.ne_ hb h1)).trans hr, hr'⟩, fun i hi => ?_⟩
  exact (Below.heap_setCell _ _ _ _ (by show nb NB i ≠ p; exact (h.node i hi).ne_ hb h2)).trans (h.node i hi)

theorem lens_parts (g : List Bl) : Lib.lens (g.map fun b => (part b).data.toList) = tot g + g.length := by
  induction g with
  | nil => rfl
  | cons b g ih =>
    have e : Lib.lens ((b :: g).map fun b => (part b).data.toList) = (part b).data.toList.length + Lib.lens (g.map fun b => (part b).data.toList) := by simp [Lib.lens]
    have e2 : (part b).data.toList.length = (part b).size := by rw [Array.length_toList]; rfl
    rw [e, ih, e2, part_size]; simp [tot]; omega

theorem join_le (l : List (List UInt8)) : (Lib.join l [44]).length ≤ Lib.lens l + l.length := by
  cases l with
  | nil => exact Nat.zero_le _
  | cons x r => rw [Lib.join_length]; simp; omega

theorem joinGoes {NB : Nat} {g : List Bl} {t : ByteArray} {A : Option Addr} {w : World} (ht : t.size ≤ 2) (hp : Pts w A (goList NB g t)) :
    Calls Tryz.prog 47 #[.slice A t.size t.size] w fun e w' => e = .returned (.string t) ∧ Below w.heap.size w w' := by
  have hj := join_any A t.size (goList NB g t) w hp (by rw [goList_length NB g ht]; omega) (by rw [joined_goes NB g ht]; omega)
  rwa [joined_goes NB g ht, goList_length NB g ht] at hj


/-- As the model builds the text: what is there after some blocks. -/
def fmtTo : List Bl → ByteArray
  | [] => ⟨#[]⟩
  | b :: g => fmtG (b :: g)

theorem fmtG_toList (g : List Bl) : (fmtG g).data.toList = Lib.join (g.map fun b => (part b).data.toList) [44] := by simp [fmtG]

theorem fmtG_one (b : Bl) : fmtG [b] = part b := by
  apply ba_ext; rw [fmtG_toList]; exact Lib.join_one _ _

theorem fmtG_snoc {g : List Bl} (h : 0 < g.length) (b : Bl) : fmtG (g ++ [b]) = fmtG g ++ ⟨#[44]⟩ ++ part b := by
  apply ba_ext
  rw [ba_append_toList, ba_append_toList, fmtG_toList, fmtG_toList]
  cases g with
  | nil => simp at h
  | cons x r =>
    simp only [List.cons_append, List.map_cons, List.map_append, List.map_nil, Lib.join_cons]
    unfold Lib.joinTail
    simp

theorem fmtG_nil : fmtG [] = ⟨#[]⟩ := rfl

theorem fmtG_size_le (g : List Bl) : (fmtG g).size ≤ tot g + 2 * g.length := by
  have h := join_le (g.map fun b => (part b).data.toList)
  rw [lens_parts, List.length_map] at h
  have h2 : (fmtG g).size = (Lib.join (g.map fun b => (part b).data.toList) [44]).length := by rw [← fmtG_toList, Array.length_toList]; rfl
  omega

theorem mark_slice (t : ByteArray) (h : t.size ≤ 2) : (⟨#[46, 62, 63]⟩ : ByteArray).extract t.size (t.size + 1) = mark t := by
  have : t.size = 0 ∨ t.size = 1 ∨ t.size = 2 := by omega
  unfold mark
  rcases this with h | h | h <;> rw [h] <;> rfl

end Go.Proofs.YtdpjdhllaokbfaaGreat

/-
  Contracts of NextOf, the program's and the model's.
-/
namespace Go.Proofs.YtdpjdhllaokbfaaGreat
open Go.RowKit Go.Sort


end Go.Proofs.YtdpjdhllaokbfaaGreat
