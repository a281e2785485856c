/-
  The reached block with a name, by both ways.
-/
import Derived.Test.YtgebedbankibmaaGreatDoorDomSpec
import Derived.Test.YtgebedbankibmaaGreatDoorReachedNodes
import Derived.Test.YtgebedbankibmaaGreatDoorMeetSets
namespace Go.Proofs.YtgebedbankibmaaGreatDoor
open Go.RowKit Go.Sort

end Go.Proofs.YtgebedbankibmaaGreatDoor

/-
  The program's tree: treeOf, named.
-/
namespace Go.Proofs.YtgebedbankibmaaGreatDoor
open Go.RowKit Go.Sort Go.Shelf

/-- The cells of a new tree. -/
def newTree (V : Value) : Array Value := #[V, .int .u32 0, .int .u32 0, .int .u32 0, .int .u32 0, .int .u32 0, .int .u32 0, .int .u32 0, .int .u32 0, .int .u32 0, .int .u32 0, .int .u32 0, .int .u32 0, .int .u32 0, .int .u32 0, .int .u32 0, .int .u32 0, .int .u32 0, .int .u32 0, .int .u32 0, .int .u32 0, .int .u32 0, .int .u32 0, .int .u32 0, .int .u32 0, .int .u32 0, .int .u32 0, .pointer none, .pointer none, .pointer none, .pointer none, .pointer none, .pointer none, .pointer none, .pointer none, .pointer none, .pointer none, .pointer none, .pointer none, .pointer none, .pointer none, .pointer none, .pointer none, .pointer none, .pointer none, .pointer none, .pointer none, .pointer none, .pointer none, .pointer none, .pointer none, .pointer none, .pointer none] 

theorem newTree_set (V : Value) : ∀ k, k < 26 → (newTree V)[1 + k]? = some (.int .u32 ((0 : Nat) : Int)) := fun k hk =>
  match k, hk with
    | 0, _ => rfl
    | 1, _ => rfl
    | 2, _ => rfl
    | 3, _ => rfl
    | 4, _ => rfl
    | 5, _ => rfl
    | 6, _ => rfl
    | 7, _ => rfl
    | 8, _ => rfl
    | 9, _ => rfl
    | 10, _ => rfl
    | 11, _ => rfl
    | 12, _ => rfl
    | 13, _ => rfl
    | 14, _ => rfl
    | 15, _ => rfl
    | 16, _ => rfl
    | 17, _ => rfl
    | 18, _ => rfl
    | 19, _ => rfl
    | 20, _ => rfl
    | 21, _ => rfl
    | 22, _ => rfl
    | 23, _ => rfl
    | 24, _ => rfl
    | 25, _ => rfl
    | n + 26, h => absurd h (by omega)
theorem newTree_par (V : Value) : ∀ k, k < 26 → (newTree V)[27 + k]? = some (.pointer none) := fun k hk =>
  match k, hk with
    | 0, _ => rfl
    | 1, _ => rfl
    | 2, _ => rfl
    | 3, _ => rfl
    | 4, _ => rfl
    | 5, _ => rfl
    | 6, _ => rfl
    | 7, _ => rfl
    | 8, _ => rfl
    | 9, _ => rfl
    | 10, _ => rfl
    | 11, _ => rfl
    | 12, _ => rfl
    | 13, _ => rfl
    | 14, _ => rfl
    | 15, _ => rfl
    | 16, _ => rfl
    | 17, _ => rfl
    | 18, _ => rfl
    | 19, _ => rfl
    | 20, _ => rfl
    | 21, _ => rfl
    | 22, _ => rfl
    | 23, _ => rfl
    | 24, _ => rfl
    | 25, _ => rfl
    | n + 26, h => absurd h (by omega)

theorem newTree_in (w : World) (V : Value) : TreeIn (w.alloc (.cells (newTree V) 114)) w.heap.size V (fun _ => 0) (fun _ => .pointer none) :=
  ⟨newTree V, Blk.new w _ _, rfl, rfl, newTree_set V, newTree_par V⟩

/-- The whole tree of a valid graph, as it lies. -/
structure TreeAt (w : World) (tb NB : Nat) (g : List Bl) (B off cap : Nat) (S : Nat → Nat) : Prop where
  tree : TreeIn w tb (.slice (some ⟨B, off, none⟩) (reachS g).length cap) S (parsOf NB g (reachS g))
  lt : B < w.heap.size
  row : ∀ k (h : k < (reachS g).length), w.cell? ⟨B, off + k, none⟩ = some (nptr NB (reachS g)[k])
  small : ∀ b, S b < 4294967296
  sets : ∀ b, Rch g [] b → ∀ a, (S b).testBit a = true ↔ Dm g a b
  nodes : NodesIn w NB g

theorem TreeAt.below {w w' : World} {tb NB : Nat} {g : List Bl} {B off cap : Nat} {S : Nat → Nat} (h : TreeAt w tb NB g B off cap S) (hb : Below w.heap.size w w') : TreeAt w' tb NB g B off cap S :=
  ⟨h.tree.below hb, by have := hb.size; have := h.lt; omega, fun k hk => (hb.cell (p := ⟨B, off + k, none⟩) h.lt).trans (h.row k hk), h.small, h.sets, h.nodes.below hb⟩

theorem TreeAt.parent {w : World} {tb NB : Nat} {g : List Bl} {B off cap : Nat} {S : Nat → Nat} (h : TreeAt w tb NB g B off cap S) (hv : validB g = true) {n : Nat} (hn : Rch g [] n) : w.cell? ⟨tb, 27 + n, none⟩ = some (ptrAt NB (parL g n)) := by
  have h26 := (valid_iff.1 hv).2.1
  have := hn.lt hv
  rw [h.tree.parent (k := n) (by omega)]
  unfold parsOf
  rw [if_pos ((mem_reachS' hv).2 hn)]

theorem TreeAt.set {w : World} {tb NB : Nat} {g : List Bl} {B off cap : Nat} {S : Nat → Nat} (h : TreeAt w tb NB g B off cap S) (hv : validB g = true) {a b : Nat} (hb : Rch g [] b) : (S b).testBit a = dmB g a b := dmB_eq hv h.sets hb

def TreePost (w : World) (g : List Bl) (e : Ending) (w' : World) : Prop :=
  ∃ tb NB B off cap S, w.heap.size ≤ tb ∧ e = .returned (.tuple #[.pointer (some ⟨tb, 0, none⟩), .bool true]) ∧ TreeAt w' tb NB g B off cap S ∧ Below w.heap.size w w'

theorem treeOf_no (A : Option Addr) (cap : Nat) (g : List Bl) (w : World) (hg : Gr w A g) (hn : g.length + tot g ≤ 1048576) (hv : validB g = false) :
    Calls Tryz.prog 61 #[.slice A g.length cap] w fun e w' => ∃ tb, e = .returned (.tuple #[.pointer (some ⟨tb, 0, none⟩), .bool false]) ∧ TreeIn w' tb (.slice none 0 0) (fun _ => 0) (fun _ => .pointer none) ∧ Below w.heap.size w w' := by
  have HC := Lib.hid (reachedNodes_no A cap g w hg hn hv)
  clear hv
  go_enter Tryz.func61, Tryz.ntmps61
  go_wp2_with fail
  refine HC.out.mono ?_
  rintro e w1 ⟨rfl, b1⟩
  go_wp2_with fail
  go_ret2
  exact ⟨w1.heap.size, rfl, newTree_in w1 _, b1.alloc b1.size _⟩

set_option maxRecDepth 100000 in
set_option maxHeartbeats 2000000 in
theorem treeOf_yes (A : Option Addr) (cap : Nat) (g : List Bl) (w : World) (hg : Gr w A g) (hn : g.length + tot g ≤ 1048576) (hv : validB g = true) :
    Calls Tryz.prog 61 #[.slice A g.length cap] w (TreePost w g) := by
  have HC := Lib.hid (reachedNodes_yes A cap g w hg hn hv)
  have h26 := (valid_iff.1 hv).2.1
  have HV := Lib.hid hv
  have hl : ∀ x, x ∈ reachS g ↔ Rch g [] x := fun x => mem_reachS' hv
  have h0r : (reachS g)[0]? = some 0 := by
    have h0 : 0 ∈ reachS g := (hl 0).2 (.start (by simp))
    obtain ⟨k, hk, e⟩ := List.getElem_of_mem h0
    rcases Nat.eq_zero_or_pos k with rfl | hk0
    · rw [List.getElem?_eq_getElem hk, e]
    · have := List.pairwise_iff_getElem.1 (reachS_up g) 0 k (by omega) hk hk0
      omega
  have hlen : (reachS g).length ≤ 26 := by have := srt_len g (reach g) g.length; rw [← reachS_srt] at this; omega
  have hpos : 0 < (reachS g).length := by
    rcases Nat.eq_zero_or_pos (reachS g).length with h | h
    · rw [List.eq_nil_of_length_eq_zero h] at h0r; cases h0r
    · exact h
  have hnd : (reachS g).Nodup := (reachS_up g).imp fun h => Nat.ne_of_lt h
  have HL := Lib.hid hl
  have H0R := Lib.hid h0r
  have HND := Lib.hid hnd
  clear hv hl h0r hnd
  go_enter Tryz.func61, Tryz.ntmps61
  go_wp2_with fail
  refine HC.out.mono ?_
  rintro e w1 ⟨NB, A1, c1, hNB, rfl, hP, hN, b1⟩
  have hPI := pts_idx hP
  obtain ⟨B, off, rfl, hBl, hrow⟩ := hPI hpos
  obtain ⟨w2, hw2⟩ : ∃ w2, w2 = w1.alloc (.cells (newTree (.slice (some ⟨B, off, none⟩) (reachS g).length c1)) 114) := ⟨_, rfl⟩
  have hT2 : TreeIn w2 w1.heap.size (.slice (some ⟨B, off, none⟩) (reachS g).length c1) (fun _ => 0) (fun _ => .pointer none) := by rw [hw2]; exact newTree_in w1 _
  have hb2 : Below w1.heap.size w1 w2 := by rw [hw2]; exact (Below.refl _ _).alloc (Nat.le_refl _) _
  have hs2 : w2.heap.size = w1.heap.size + 1 := by rw [hw2]; simp
  have hN2 := hN.below hb2
  have hr2 : ∀ k (h : k < (reachS g).length), w2.cell? ⟨B, off + k, none⟩ = some (nptr NB (reachS g)[k]) := fun k hk => (hb2.cell (p := ⟨B, off + k, none⟩) hBl).trans (hrow k hk)
  have hNe : ∀ i, i < g.length → nb NB i ≠ w1.heap.size := fun i hi e => by have := (hN i hi).lt; omega
  have HM := Lib.hid (meetSets_any w1.heap.size NB B off c1 g (reachS g) (fun _ => .pointer none) (fun _ => 0) w2 HV.out hT2 hr2 (by omega) hN2 (by omega) hNe (fun _ => by decide) HL.out H0R.out hlen)
  have HR := Lib.hid hr2
  have HN2 := Lib.hid hN2
  have HNE := Lib.hid hNe
  have HB2 := Lib.hid (b1.trans (hb2.mono b1.size))
  have hle1 := b1.size
  have hBs : B < w2.heap.size := by omega
  have HS2 := Lib.hid hs2
  clear hP hN b1 hPI hrow hT2 hb2 hN2 hr2 hNe hs2
  subst hw2
  go_wp2_with fail
  refine HM.out.mono ?_
  rintro e w3 ⟨rfl, S, hT3, hO3, hsm, hD⟩
  have hBne : B ≠ w1.heap.size := by omega
  have hr3 : ∀ k (h : k < (reachS g).length), w3.cell? ⟨B, off + k, none⟩ = some (nptr NB (reachS g)[k]) := fun k hk => (hO3.cellAt hBne hBs).trans (HR.out k hk)
  have hN3 : NodesIn w3 NB g := fun i hi => (hO3.block _ (HNE.out i hi) (HN2.out i hi).lt).trans (HN2.out i hi)
  have hB3 : B < w3.heap.size := Nat.lt_of_lt_of_le hBs hO3.size
  have HF := Lib.hid (findParents_any w1.heap.size NB B off c1 g (reachS g) S w3 HV.out hT3 hr3 hB3 hN3 hBne HNE.out hsm hD HL.out HND.out hlen)
  have HR3 := Lib.hid hr3
  have HN3 := Lib.hid hN3
  have HO3 := Lib.hid hO3
  have HSM := Lib.hid hsm
  have HD := Lib.hid hD
  clear hT3 hO3 hr3 hN3 hsm hD HM
  go_wp2_with fail
  refine HF.out.mono ?_
  rintro e w4 ⟨rfl, hT4, hO4⟩
  have HT4 := Lib.hid hT4
  have HO4 := Lib.hid hO4
  clear hT4 hO4 HF
  go_wp2_with fail
  go_ret2
  have hO : Only w1.heap.size _ w4 := HO3.out.trans HO4.out
  refine ⟨w1.heap.size, NB, B, off, c1, S, hle1, rfl, ⟨HT4.out, Nat.lt_of_lt_of_le hB3 HO4.out.size, fun k hk => (HO4.out.cellAt hBne hB3).trans (HR3.out k hk), HSM.out, HD.out, fun i hi => (HO4.out.block _ (HNE.out i hi) (HN3.out i hi).lt).trans (HN3.out i hi)⟩, ?_⟩
  refine ⟨hO.os.trans HB2.out.os, hO.tape.trans HB2.out.tape, hO.output.trans HB2.out.output, Nat.le_trans HB2.out.size hO.size, fun k hk => (hO.block k (by omega) (Nat.lt_of_lt_of_le hk HB2.out.size)).trans (HB2.out.block k hk)⟩


end Go.Proofs.YtgebedbankibmaaGreatDoor
