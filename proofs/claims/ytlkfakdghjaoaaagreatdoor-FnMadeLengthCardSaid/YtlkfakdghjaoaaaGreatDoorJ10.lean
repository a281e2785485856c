import Derived.Test.YtlkfakdghjaoaaaGreatDoorJ4
import Derived.Test.YtlkfakdghjaoaaaGreatDoorJ9
import Derived.Test.YtlkfakdghjaoaaaGreatDoorJ7
import Derived.Test.YtlkfakdghjaoaaaGreatDoorMeetSets
namespace Go.Proofs.YtlkfakdghjaoaaaGreatDoor
open Go.RowKit Go.Sort Go.Shelf
theorem nb_ne {NB i h : Nat} (hne : i ≠ h) : (⟨nb NB i, 0, none⟩ : Addr) ≠ ⟨nb NB h, 0, none⟩ := by
 intro e
 injection e with e1 _
 unfold nb at e1
 omega
def idxN (L : List Nat) (i : Nat) : Int := if i ∈ L then (placeIn L i : Int) else -1
theorem idxN_at {L : List Nat} {k : Nat} (hk : k < L.length) (hb : ∀ j (h : j < L.length), j < k → L[j] ≠ L[k]) : idxN L L[k] = k := by
 have hm : L[k] ∈ L := List.getElem_mem hk
 unfold idxN
 rw [if_pos hm]
 have h1 := placeIn_lt hm
 have h2 := placeIn_get hm
 rcases Nat.lt_trichotomy (placeIn L L[k]) k with q | q | q
 ·exact absurd h2 (hb _ h1 q)
 ·rw [q]
 ·have := List.not_of_lt_findIdx (xs := L) (p := fun y => decide (y = L[k])) q
  simp at this
theorem idxN_no {L : List Nat} {i : Nat} (h : i ∉ L) : idxN L i = -1 := by unfold idxN; rw [if_neg h]
theorem idxN_has {L : List Nat} {i : Nat} : decide (0 ≤ idxN L i) = decide (i ∈ L) := by
 unfold idxN
 by_cases h : i ∈ L
 ·rw [if_pos h, decide_eq_true h]; simp
 ·rw [if_neg h, decide_eq_false h]; rfl
set_option maxRecDepth 100000 in
theorem indexN_any (A : Option Addr) (cap : Nat) (L : List Nat) (NB : Nat) (g : List Bl) (i0 : Nat) (w : World) (hp : PtsI w A NB L) (hn : L.length ≤ 1048576) (hN : NodesIn w NB g) (ha : ∀ i ∈ L, i < g.length) (hi0 : i0 < g.length) :
  Calls Tryz.prog 120 #[.slice A L.length cap, nptr NB i0] w fun e w' => e = .returned (.int .i64 (idxN L i0)) ∧ w = w' := by
 obtain ⟨jt, hjt, hjs⟩ := Option.map_eq_some_iff.1 info_node
 have HI := Lib.hid hi0
 have HN := Lib.hid hN
 have HA := Lib.hid ha
 have HP := Lib.hid hp
 clear hN ha hp
 go_enter Tryz.func120, Tryz.ntmps120
 go_wp2_with fail
 go_loop [8] (fun i => ∃ k : Nat, k ≤ L.length ∧ i = .int .i64 k ∧ Hid (∀ j (h : j < L.length), j < k → L[j] ≠ i0)) (fun i => L.length - (intOf i).toNat)
 case atStart => exact ⟨0, Nat.zero_le _, rfl, fun j _ h => absurd h (by omega)⟩
 case round =>
  obtain ⟨k, hk, rfl, HK⟩ := hrel
  by_cases hlt : k < L.length
  ·obtain ⟨b, off, rfl, hb, hc⟩ := HP.out (by omega)
   have x0 := hc k hlt
   obtain ⟨p, hpe⟩ : ∃ p, p = L[k] := ⟨_, rfl⟩
   rw [← hpe] at x0
   have hpl := HA.out p (hpe ▸ List.getElem_mem hlt)
   have HPE := Lib.hid hpe
   clear hpe hc
   by_cases hq : p = i0
   ·subst hq
    have HPX := Lib.hid (show idxN L p = k by
     rw [HPE.out]
     exact idxN_at hlt fun j h hj => by rw [← HPE.out]; exact HK.out j h hj)
    have heq := fun w => run_eql_ptr_same (P := Tryz.prog) w ⟨nb NB p, 0, none⟩ Tryz.underlying95 hjt
    go_wp2_with fail
    go_ret
    exact ⟨ret_int HPX.out.symm, rfl⟩
   ·have HQ := Lib.hid hq
    have heq := run_eql_ptr_other (P := Tryz.prog) w (a := ⟨nb NB i0, 0, none⟩) (b := ⟨nb NB p, 0, none⟩) Tryz.underlying95 hjt (by rw [hjs]; decide) (nb_ne fun e => hq e.symm) (HN.out i0 HI.out) (HN.out p hpl)
    clear hq
    go_wp2_with fail
    go_round
    case rel =>
     refine ⟨k + 1, by omega, by go_num, fun j h hj => ?_⟩
     rcases Nat.lt_succ_iff_lt_or_eq.1 hj with hj | rfl
     ·exact HK.out j h hj
     ·rw [← HPE.out]; exact HQ.out
    case measure => simp [intOf]; omega
  ·have HPX := Lib.hid (show idxN L i0 = -1 from idxN_no fun hm => by
    obtain ⟨j, hj, e⟩ := List.getElem_of_mem hm
    exact HK.out j hj (by omega) e)
   go_wp2_with fail
   go_ret
   exact ⟨ret_int HPX.out.symm, rfl⟩
theorem containsN_any (A : Option Addr) (cap : Nat) (L : List Nat) (NB : Nat) (g : List Bl) (i0 : Nat) (w : World) (hp : PtsI w A NB L) (hn : L.length ≤ 1048576) (hN : NodesIn w NB g) (ha : ∀ i ∈ L, i < g.length) (hi0 : i0 < g.length) :
  Calls Tryz.prog 73 #[.slice A L.length cap, nptr NB i0] w fun e w' => e = .returned (.bool (decide (i0 ∈ L))) ∧ w = w' := by
 rw [← idxN_has]
 have HC := Lib.hid (indexN_any A cap L NB g i0 w hp hn hN ha hi0)
 clear hp hN ha
 go_enter Tryz.func73, Tryz.ntmps73
 go_wp2_with fail
 refine HC.out.mono ?_
 rintro e w1 ⟨rfl, rfl⟩
 go_wp2_with fail
 go_ret
 exact ⟨rfl, rfl⟩
end Go.Proofs.YtlkfakdghjaoaaaGreatDoor

namespace Go.Proofs.YtlkfakdghjaoaaaGreatDoor
open Go.RowKit Go.Sort
theorem named_live {g : List Bl} (hv : validB g = true) (s : ByteArray) : named g (reachS g) s = liveOf g s := by
 have hri : ∀ i, i ∈ reachS g ↔ i ∈ reach g := fun i => ⟨fun h => (reachS_perm hv).subset h, fun h => (reachS_perm hv).symm.subset h⟩
 cases hn : named g (reachS g) s with
 | some i =>
  obtain ⟨h1, h2⟩ := named_is hn
  have hil : i < g.length := reach_lt hv ((hri i).1 h1)
  rw [liveOf_some hv (by rw [← h2, nthName_at hil]; exact posOf_name hv hil) ((hri i).1 h1)]
 | none =>
  cases hl : liveOf g s with
  | none => rfl
  | some i =>
   obtain ⟨_, hp, hr⟩ := liveOf_is hl
   obtain ⟨hil, hnm⟩ := posOf_is hp
   unfold named at hn
   rw [List.find?_eq_none] at hn
   exact absurd (by rw [nthName_at hil, hnm]; simp) (hn i ((hri i).2 hr))
end Go.Proofs.YtlkfakdghjaoaaaGreatDoor
namespace Go.Proofs.YtlkfakdghjaoaaaGreatDoor
open Go.RowKit Go.Sort Go.Shelf
def newTree (V : Value) : Array Value := #[V, .int .u32 0, .int .u32 0, .int .u32 0, .int .u32 0, .int .u32 0, .int .u32 0, .int .u32 0, .int .u32 0, .int .u32 0, .int .u32 0, .int .u32 0, .int .u32 0, .int .u32 0, .int .u32 0, .int .u32 0, .int .u32 0, .int .u32 0, .int .u32 0, .int .u32 0, .int .u32 0, .int .u32 0, .int .u32 0, .int .u32 0, .int .u32 0, .int .u32 0, .int .u32 0, .pointer none, .pointer none, .pointer none, .pointer none, .pointer none, .pointer none, .pointer none, .pointer none, .pointer none, .pointer none, .pointer none, .pointer none, .pointer none, .pointer none, .pointer none, .pointer none, .pointer none, .pointer none, .pointer none, .pointer none, .pointer none, .pointer none, .pointer none, .pointer none, .pointer none, .pointer none]
theorem newTree_set (V : Value) : ∀ k, k < 26 → (newTree V)[1 + k]? = some (.int .u32 ((0 : Nat) : Int)) := fun k hk =>
 match k, hk with
  | 0, _ => rfl
  | 1, _ => rfl
  | 2, _ => rfl
  | 3, _ => rfl
  | 4, _ => rfl
  | 5, _ => rfl
  | 6, _ => rfl
  | 7, _ => rfl
  | 8, _ => rfl
  | 9, _ => rfl
  | 10, _ => rfl
  | 11, _ => rfl
  | 12, _ => rfl
  | 13, _ => rfl
  | 14, _ => rfl
  | 15, _ => rfl
  | 16, _ => rfl
  | 17, _ => rfl
  | 18, _ => rfl
  | 19, _ => rfl
  | 20, _ => rfl
  | 21, _ => rfl
  | 22, _ => rfl
  | 23, _ => rfl
  | 24, _ => rfl
  | 25, _ => rfl
  | n + 26, h => absurd h (by omega)
theorem newTree_par (V : Value) : ∀ k, k < 26 → (newTree V)[27 + k]? = some (.pointer none) := fun k hk =>
 match k, hk with
  | 0, _ => rfl
  | 1, _ => rfl
  | 2, _ => rfl
  | 3, _ => rfl
  | 4, _ => rfl
  | 5, _ => rfl
  | 6, _ => rfl
  | 7, _ => rfl
  | 8, _ => rfl
  | 9, _ => rfl
  | 10, _ => rfl
  | 11, _ => rfl
  | 12, _ => rfl
  | 13, _ => rfl
  | 14, _ => rfl
  | 15, _ => rfl
  | 16, _ => rfl
  | 17, _ => rfl
  | 18, _ => rfl
  | 19, _ => rfl
  | 20, _ => rfl
  | 21, _ => rfl
  | 22, _ => rfl
  | 23, _ => rfl
  | 24, _ => rfl
  | 25, _ => rfl
  | n + 26, h => absurd h (by omega)
theorem newTree_in (w : World) (V : Value) : TreeIn (w.alloc (.cells (newTree V) 122)) w.heap.size V (fun _ => 0) (fun _ => .pointer none) :=
 ⟨newTree V, Blk.new w _ _, rfl, rfl, newTree_set V, newTree_par V⟩
structure TreeAt (w : World) (tb NB : Nat) (g : List Bl) (B off cap : Nat) (S : Nat → Nat) : Prop where
 tree : TreeIn w tb (.slice (some ⟨B, off, none⟩) (reachS g).length cap) S (parsOf NB g (reachS g))
 lt : B < w.heap.size
 row : ∀ k (h : k < (reachS g).length), w.cell? ⟨B, off + k, none⟩ = some (nptr NB (reachS g)[k])
 small : ∀ b, S b < 4294967296
 sets : ∀ b, Rch g [] b → ∀ a, (S b).testBit a = true ↔ Dm g a b
 nodes : NodesIn w NB g
theorem TreeAt.below {w w' : World} {tb NB : Nat} {g : List Bl} {B off cap : Nat} {S : Nat → Nat} (h : TreeAt w tb NB g B off cap S) (hb : Below w.heap.size w w') : TreeAt w' tb NB g B off cap S :=
 ⟨h.tree.below hb, by have := hb.size; have := h.lt; omega, fun k hk => (hb.cell (p := ⟨B, off + k, none⟩) h.lt).trans (h.row k hk), h.small, h.sets, h.nodes.below hb⟩
theorem TreeAt.parent {w : World} {tb NB : Nat} {g : List Bl} {B off cap : Nat} {S : Nat → Nat} (h : TreeAt w tb NB g B off cap S) (hv : validB g = true) {n : Nat} (hn : Rch g [] n) : w.cell? ⟨tb, 27 + n, none⟩ = some (ptrAt NB (parL g n)) := by
 have h26 := (valid_iff.1 hv).2.1
 have := hn.lt hv
 rw [h.tree.parent (k := n) (by omega)]
 unfold parsOf
 rw [if_pos ((mem_reachS' hv).2 hn)]
theorem TreeAt.set {w : World} {tb NB : Nat} {g : List Bl} {B off cap : Nat} {S : Nat → Nat} (h : TreeAt w tb NB g B off cap S) (hv : validB g = true) {a b : Nat} (hb : Rch g [] b) : (S b).testBit a = dmB g a b := dmB_eq hv h.sets hb
def TreePost (w : World) (g : List Bl) (e : Ending) (w' : World) : Prop :=
 ∃ tb NB B off cap S, w.heap.size ≤ tb ∧ e = .returned (.tuple #[.pointer (some ⟨tb, 0, none⟩), .bool true]) ∧ TreeAt w' tb NB g B off cap S ∧ Below w.heap.size w w'
theorem treeOf_no (A : Option Addr) (cap : Nat) (g : List Bl) (w : World) (hg : Gr w A g) (hn : g.length + tot g ≤ 1048576) (hv : validB g = false) :
  Calls Tryz.prog 80 #[.slice A g.length cap] w fun e w' => ∃ tb, e = .returned (.tuple #[.pointer (some ⟨tb, 0, none⟩), .bool false]) ∧ TreeIn w' tb (.slice none 0 0) (fun _ => 0) (fun _ => .pointer none) ∧ Below w.heap.size w w' := by
 have HC := Lib.hid (reachedNodes_no A cap g w hg hn hv)
 clear hv
 go_enter Tryz.func80, Tryz.ntmps80
 go_wp2_with fail
 refine HC.out.mono ?_
 rintro e w1 ⟨rfl, b1⟩
 go_wp2_with fail
 go_ret2
 exact ⟨w1.heap.size, rfl, newTree_in w1 _, b1.alloc b1.size _⟩
set_option maxRecDepth 100000 in
set_option maxHeartbeats 2000000 in
theorem treeOf_yes (A : Option Addr) (cap : Nat) (g : List Bl) (w : World) (hg : Gr w A g) (hn : g.length + tot g ≤ 1048576) (hv : validB g = true) :
  Calls Tryz.prog 80 #[.slice A g.length cap] w (TreePost w g) := by
 have HC := Lib.hid (reachedNodes_yes A cap g w hg hn hv)
 have h26 := (valid_iff.1 hv).2.1
 have HV := Lib.hid hv
 have hl : ∀ x, x ∈ reachS g ↔ Rch g [] x := fun x => mem_reachS' hv
 have h0r : (reachS g)[0]? = some 0 := by
  have h0 : 0 ∈ reachS g := (hl 0).2 (.start (by simp))
  obtain ⟨k, hk, e⟩ := List.getElem_of_mem h0
  rcases Nat.eq_zero_or_pos k with rfl | hk0
  ·rw [List.getElem?_eq_getElem hk, e]
  ·have := List.pairwise_iff_getElem.1 (reachS_up g) 0 k (by omega) hk hk0
   omega
 have hlen : (reachS g).length ≤ 26 := by have := srt_len g (reach g) g.length; rw [← reachS_srt] at this; omega
 have hpos : 0 < (reachS g).length := by
  rcases Nat.eq_zero_or_pos (reachS g).length with h | h
  ·rw [List.eq_nil_of_length_eq_zero h] at h0r; cases h0r
  ·exact h
 have hnd : (reachS g).Nodup := (reachS_up g).imp fun h => Nat.ne_of_lt h
 have HL := Lib.hid hl
 have H0R := Lib.hid h0r
 have HND := Lib.hid hnd
 clear hv hl h0r hnd
 go_enter Tryz.func80, Tryz.ntmps80
 go_wp2_with fail
 refine HC.out.mono ?_
 rintro e w1 ⟨NB, A1, c1, hNB, rfl, hP, hN, b1⟩
 have hPI := pts_idx hP
 obtain ⟨B, off, rfl, hBl, hrow⟩ := hPI hpos
 obtain ⟨w2, hw2⟩ : ∃ w2, w2 = w1.alloc (.cells (newTree (.slice (some ⟨B, off, none⟩) (reachS g).length c1)) 122) := ⟨_, rfl⟩
 have hT2 : TreeIn w2 w1.heap.size (.slice (some ⟨B, off, none⟩) (reachS g).length c1) (fun _ => 0) (fun _ => .pointer none) := by rw [hw2]; exact newTree_in w1 _
 have hb2 : Below w1.heap.size w1 w2 := by rw [hw2]; exact (Below.refl _ _).alloc (Nat.le_refl _) _
 have hs2 : w2.heap.size = w1.heap.size + 1 := by rw [hw2]; simp
 have hN2 := hN.below hb2
 have hr2 : ∀ k (h : k < (reachS g).length), w2.cell? ⟨B, off + k, none⟩ = some (nptr NB (reachS g)[k]) := fun k hk => (hb2.cell (p := ⟨B, off + k, none⟩) hBl).trans (hrow k hk)
 have hNe : ∀ i, i < g.length → nb NB i ≠ w1.heap.size := fun i hi e => by have := (hN i hi).lt; omega
 have HM := Lib.hid (meetSets_any w1.heap.size NB B off c1 g (reachS g) (fun _ => .pointer none) (fun _ => 0) w2 HV.out hT2 hr2 (by omega) hN2 (by omega) hNe (fun _ => by decide) HL.out H0R.out hlen)
 have HR := Lib.hid hr2
 have HN2 := Lib.hid hN2
 have HNE := Lib.hid hNe
 have HB2 := Lib.hid (b1.trans (hb2.mono b1.size))
 have hle1 := b1.size
 have hBs : B < w2.heap.size := by omega
 have HS2 := Lib.hid hs2
 clear hP hN b1 hPI hrow hT2 hb2 hN2 hr2 hNe hs2
 subst hw2
 go_wp2_with fail
 refine HM.out.mono ?_
 rintro e w3 ⟨rfl, S, hT3, hO3, hsm, hD⟩
 have hBne : B ≠ w1.heap.size := by omega
 have hr3 : ∀ k (h : k < (reachS g).length), w3.cell? ⟨B, off + k, none⟩ = some (nptr NB (reachS g)[k]) := fun k hk => (hO3.cellAt hBne hBs).trans (HR.out k hk)
 have hN3 : NodesIn w3 NB g := fun i hi => (hO3.block _ (HNE.out i hi) (HN2.out i hi).lt).trans (HN2.out i hi)
 have hB3 : B < w3.heap.size := Nat.lt_of_lt_of_le hBs hO3.size
 have HF := Lib.hid (findParents_any w1.heap.size NB B off c1 g (reachS g) S w3 HV.out hT3 hr3 hB3 hN3 hBne HNE.out hsm hD HL.out HND.out hlen)
 have HR3 := Lib.hid hr3
 have HN3 := Lib.hid hN3
 have HO3 := Lib.hid hO3
 have HSM := Lib.hid hsm
 have HD := Lib.hid hD
 clear hT3 hO3 hr3 hN3 hsm hD HM
 go_wp2_with fail
 refine HF.out.mono ?_
 rintro e w4 ⟨rfl, hT4, hO4⟩
 have HT4 := Lib.hid hT4
 have HO4 := Lib.hid hO4
 clear hT4 hO4 HF
 go_wp2_with fail
 go_ret2
 have hO : Only w1.heap.size _ w4 := HO3.out.trans HO4.out
 refine ⟨w1.heap.size, NB, B, off, c1, S, hle1, rfl, ⟨HT4.out, Nat.lt_of_lt_of_le hB3 HO4.out.size, fun k hk => (HO4.out.cellAt hBne hB3).trans (HR3.out k hk), HSM.out, HD.out, fun i hi => (HO4.out.block _ (HNE.out i hi) (HN3.out i hi).lt).trans (HN3.out i hi)⟩, ?_⟩
 refine ⟨hO.os.trans HB2.out.os, hO.tape.trans HB2.out.tape, hO.output.trans HB2.out.output, Nat.le_trans HB2.out.size hO.size, fun k hk => (hO.block k (by omega) (Nat.lt_of_lt_of_le hk HB2.out.size)).trans (HB2.out.block k hk)⟩
theorem treeNamed_any (tb NB : Nat) (g : List Bl) (B off cap : Nat) (S : Nat → Nat) (s : ByteArray) (w : World) (hv : validB g = true) (h : TreeAt w tb NB g B off cap S) :
  Calls Tryz.prog 81 #[.pointer (some ⟨tb, 0, none⟩), .string s] w fun e w' => e = .returned (ptrAt NB (liveOf g s)) ∧ w = w' := by
 have hrl : ∀ j ∈ reachS g, j < g.length := fun j hj => ((mem_reachS' hv).1 hj).lt hv
 have hlen : (reachS g).length ≤ 26 := by have := srt_len g (reach g) g.length; rw [← reachS_srt] at this; have := (valid_iff.1 hv).2.1; omega
 have hc := namedAt_any (some ⟨B, off, none⟩) NB cap g (reachS g) s w (fun _ => ⟨B, off, rfl, h.lt, h.row⟩) h.nodes hrl (by omega)
 rw [named_live hv] at hc
 have HC := Lib.hid hc
 have cN := h.tree.nodes
 clear h hc hv hrl
 go_enter Tryz.func81, Tryz.ntmps81
 go_wp2_with fail
 refine HC.out.mono ?_
 rintro e w1 ⟨rfl, rfl⟩
 go_wp2_with fail
 go_ret
 exact ⟨rfl, rfl⟩
theorem treeNamed_no (tb : Nat) (S : Nat → Nat) (Pr : Nat → Value) (s : ByteArray) (w : World) (h : TreeIn w tb (.slice none 0 0) S Pr) :
  Calls Tryz.prog 81 #[.pointer (some ⟨tb, 0, none⟩), .string s] w fun e w' => e = .returned (.pointer none) ∧ w = w' := by
 have HC := Lib.hid (named_nil s w none 0)
 have cN := h.nodes
 clear h
 go_enter Tryz.func81, Tryz.ntmps81
 go_wp2_with fail
 refine HC.out.mono ?_
 rintro e w1 ⟨rfl, rfl⟩
 go_wp2_with fail
 go_ret
 exact ⟨rfl, rfl⟩
end Go.Proofs.YtlkfakdghjaoaaaGreatDoor
