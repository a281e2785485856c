import Derived.Test.YtlkfakdghjaoaaaGreatDoorJ11
import Derived.Test.YtlkfakdghjaoaaaGreatDoorMeetSets
set_option maxRecDepth 100000
namespace Go.Proofs.YtlkfakdghjaoaaaGreatDoor
open Go.RowKit Go.Sort Go.Shelf
theorem Ec {NB i h : Nat} (hne : i ≠ h) : (⟨nb NB i, 0, none⟩ : Addr) ≠ ⟨nb NB h, 0, none⟩ := by
 intro e
 injection e with e1 _
 unfold nb at e1
 omega
def fT (L : List Nat) (i : Nat) : Int := if i ∈ L then (bJ L i : Int) else -1
theorem yf {L : List Nat} {k : Nat} (hk : k < L.length) (hb : ∀ j (h : j < L.length), j < k → L[j] ≠ L[k]) : fT L L[k] = k := by
 have hm : L[k] ∈ L := List.getElem_mem hk
 unfold fT
 rw [if_pos hm]
 have h1 := eB hm
 have h2 := fx hm
 rcases Nat.lt_trichotomy (bJ L L[k]) k with q | q | q
 ·exact absurd h2 (hb _ h1 q)
 ·rw [q]
 ·have := List.not_of_lt_findIdx (xs := L) (p := fun y => decide (y = L[k])) q
  simp at this
theorem yg {L : List Nat} {i : Nat} (h : i ∉ L) : fT L i = -1 := by unfold fT; rw [if_neg h]
theorem CM {L : List Nat} {i : Nat} : decide (0 ≤ fT L i) = decide (i ∈ L) := by
 unfold fT
 by_cases h : i ∈ L
 ·rw [if_pos h, decide_eq_true h]; simp
 ·rw [if_neg h, decide_eq_false h]; rfl
theorem yY (A : Option Addr) (cap : Nat) (L : List Nat) (NB : Nat) (g : List Bl) (i0 : Nat) (w : World) (hp : PtsI w A NB L) (hn : L.length ≤ 1048576) (hN : NodesIn w NB g) (ha : ∀ i ∈ L, i < g.length) (hi0 : i0 < g.length) :
  Calls Tryz.prog 120 #[.slice A L.length cap, ag NB i0] w fun e w' => e = .returned (.int .i64 (fT L i0)) ∧ w = w' := by
 obtain ⟨jt, hjt, hjs⟩ := Option.map_eq_some_iff.1 nY
 have HI := GR hi0
 have HN := GR hN
 have HA := GR ha
 have HP := GR hp
 clear hN ha hp
 go_enter Tryz.func120, Tryz.ntmps120
 go_wp2_with fail
 go_loop [8] (fun i => ∃ k : Nat, k ≤ L.length ∧ i = .int .i64 k ∧ Hid (∀ j (h : j < L.length), j < k → L[j] ≠ i0)) (fun i => L.length - (intOf i).toNat)
 case atStart => exact ⟨0, Nat.zero_le _, rfl, fun j _ h => absurd h (by omega)⟩
 case round =>
  obtain ⟨k, hk, rfl, HK⟩ := hrel
  by_cases hlt : k < L.length
  ·obtain ⟨b, off, rfl, hb, hc⟩ := HP.out (by omega)
   have x0 := hc k hlt
   obtain ⟨p, hpe⟩ : ∃ p, p = L[k] := ⟨_, rfl⟩
   rw [← hpe] at x0
   have hpl := HA.out p (hpe ▸ List.getElem_mem hlt)
   have HPE := GR hpe
   clear hpe hc
   by_cases hq : p = i0
   ·subst hq
    have HPX := GR (show fT L p = k by
     rw [HPE.out]
     exact yf hlt fun j h hj => by rw [← HPE.out]; exact HK.out j h hj)
    have heq := fun w => run_eql_ptr_same (P := Tryz.prog) w ⟨nb NB p, 0, none⟩ Tryz.underlying95 hjt
    go_wp2_with fail
    go_ret
    exact ⟨bz HPX.out.symm, rfl⟩
   ·have HQ := GR hq
    have heq := run_eql_ptr_other (P := Tryz.prog) w (a := ⟨nb NB i0, 0, none⟩) (b := ⟨nb NB p, 0, none⟩) Tryz.underlying95 hjt (by rw [hjs]; decide) (Ec fun e => hq e.symm) (HN.out i0 HI.out) (HN.out p hpl)
    clear hq
    go_wp2_with fail
    go_round
    case rel =>
     refine ⟨k + 1, by omega, by go_num, fun j h hj => ?_⟩
     rcases Nat.lt_succ_iff_lt_or_eq.1 hj with hj | rfl
     ·exact HK.out j h hj
     ·rw [← HPE.out]; exact HQ.out
    case measure => simp [intOf]; omega
  ·have HPX := GR (show fT L i0 = -1 from yg fun hm => by
    obtain ⟨j, hj, e⟩ := List.getElem_of_mem hm
    exact HK.out j hj (by omega) e)
   go_wp2_with fail
   go_ret
   exact ⟨bz HPX.out.symm, rfl⟩
theorem jo (A : Option Addr) (cap : Nat) (L : List Nat) (NB : Nat) (g : List Bl) (i0 : Nat) (w : World) (hp : PtsI w A NB L) (hn : L.length ≤ 1048576) (hN : NodesIn w NB g) (ha : ∀ i ∈ L, i < g.length) (hi0 : i0 < g.length) :
  Calls Tryz.prog 73 #[.slice A L.length cap, ag NB i0] w fun e w' => e = .returned (.bool (decide (i0 ∈ L))) ∧ w = w' := by
 rw [← CM]
 have HC := GR (yY A cap L NB g i0 w hp hn hN ha hi0)
 clear hp hN ha
 go_enter Tryz.func73, Tryz.ntmps73
 go_wp2_with fail
 refine HC.out.mono ?_
 rintro e w1 ⟨rfl, rfl⟩
 go_wp2_with fail
 go_ret
 exact ⟨rfl, rfl⟩
end Go.Proofs.YtlkfakdghjaoaaaGreatDoor

set_option maxRecDepth 100000
set_option maxHeartbeats 2000000
namespace Go.Proofs.YtlkfakdghjaoaaaGreatDoor
open Go.RowKit Go.Sort
end Go.Proofs.YtlkfakdghjaoaaaGreatDoor
namespace Go.Proofs.YtlkfakdghjaoaaaGreatDoor
open Go.RowKit Go.Sort Go.Shelf
def lV (V : Value) : Array Value := #[V, .int .u32 0, .int .u32 0, .int .u32 0, .int .u32 0, .int .u32 0, .int .u32 0, .int .u32 0, .int .u32 0, .int .u32 0, .int .u32 0, .int .u32 0, .int .u32 0, .int .u32 0, .int .u32 0, .int .u32 0, .int .u32 0, .int .u32 0, .int .u32 0, .int .u32 0, .int .u32 0, .int .u32 0, .int .u32 0, .int .u32 0, .int .u32 0, .int .u32 0, .int .u32 0, .pointer none, .pointer none, .pointer none, .pointer none, .pointer none, .pointer none, .pointer none, .pointer none, .pointer none, .pointer none, .pointer none, .pointer none, .pointer none, .pointer none, .pointer none, .pointer none, .pointer none, .pointer none, .pointer none, .pointer none, .pointer none, .pointer none, .pointer none, .pointer none, .pointer none, .pointer none]
theorem x9 (V : Value) : ∀ k, k < 26 → (lV V)[1 + k]? = some (.int .u32 ((0 : Nat) : Int)) := fun k hk =>
 match k, hk with
  | 0, _ => rfl
  | 1, _ => rfl
  | 2, _ => rfl
  | 3, _ => rfl
  | 4, _ => rfl
  | 5, _ => rfl
  | 6, _ => rfl
  | 7, _ => rfl
  | 8, _ => rfl
  | 9, _ => rfl
  | 10, _ => rfl
  | 11, _ => rfl
  | 12, _ => rfl
  | 13, _ => rfl
  | 14, _ => rfl
  | 15, _ => rfl
  | 16, _ => rfl
  | 17, _ => rfl
  | 18, _ => rfl
  | 19, _ => rfl
  | 20, _ => rfl
  | 21, _ => rfl
  | 22, _ => rfl
  | 23, _ => rfl
  | 24, _ => rfl
  | 25, _ => rfl
  | n + 26, h => absurd h (by omega)
theorem ya (V : Value) : ∀ k, k < 26 → (lV V)[27 + k]? = some (.pointer none) := fun k hk =>
 match k, hk with
  | 0, _ => rfl
  | 1, _ => rfl
  | 2, _ => rfl
  | 3, _ => rfl
  | 4, _ => rfl
  | 5, _ => rfl
  | 6, _ => rfl
  | 7, _ => rfl
  | 8, _ => rfl
  | 9, _ => rfl
  | 10, _ => rfl
  | 11, _ => rfl
  | 12, _ => rfl
  | 13, _ => rfl
  | 14, _ => rfl
  | 15, _ => rfl
  | 16, _ => rfl
  | 17, _ => rfl
  | 18, _ => rfl
  | 19, _ => rfl
  | 20, _ => rfl
  | 21, _ => rfl
  | 22, _ => rfl
  | 23, _ => rfl
  | 24, _ => rfl
  | 25, _ => rfl
  | n + 26, h => absurd h (by omega)
theorem rF (w : World) (V : Value) : TreeIn (w.alloc (.cells (lV V) 122)) w.heap.size V (fun _ => 0) (fun _ => .pointer none) :=
 ⟨lV V, Blk.new w _ _, rfl, rfl, x9 V, ya V⟩
structure TreeAt (w : World) (tb NB : Nat) (g : List Bl) (B off cap : Nat) (S : Nat → Nat) : Prop where
 tree : TreeIn w tb (.slice (some ⟨B, off, none⟩) (am g).length cap) S (fY NB g (am g))
 lt : B < w.heap.size
 row : ∀ k (h : k < (am g).length), w.cell? ⟨B, off + k, none⟩ = some (ag NB (am g)[k])
 small : ∀ b, S b < 4294967296
 sets : ∀ b, Rch g [] b → ∀ a, (S b).testBit a = true ↔ Dm g a b
 nodes : NodesIn w NB g
theorem TreeAt.below {w w' : World} {tb NB : Nat} {g : List Bl} {B off cap : Nat} {S : Nat → Nat} (h : TreeAt w tb NB g B off cap S) (hb : Below w.heap.size w w') : TreeAt w' tb NB g B off cap S :=
 ⟨h.tree.below hb, by have := hb.size; have := h.lt; omega, fun k hk => (hb.cell (p := ⟨B, off + k, none⟩) h.lt).trans (h.row k hk), h.small, h.sets, h.nodes.below hb⟩
theorem TreeAt.parent {w : World} {tb NB : Nat} {g : List Bl} {B off cap : Nat} {S : Nat → Nat} (h : TreeAt w tb NB g B off cap S) (hv : aa g = true) {n : Nat} (hn : Rch g [] n) : w.cell? ⟨tb, 27 + n, none⟩ = some (il NB (bF g n)) := by
 have h26 := (aj.1 hv).2.1
 have := hn.lt hv
 rw [h.tree.parent (k := n) (by omega)]
 unfold fY
 rw [if_pos ((aU hv).2 hn)]
theorem TreeAt.set {w : World} {tb NB : Nat} {g : List Bl} {B off cap : Nat} {S : Nat → Nat} (h : TreeAt w tb NB g B off cap S) (hv : aa g = true) {a b : Nat} (hb : Rch g [] b) : (S b).testBit a = bU g a b := Fs hv h.sets hb
def DZ (w : World) (g : List Bl) (e : Ending) (w' : World) : Prop :=
 ∃ tb NB B off cap S, w.heap.size ≤ tb ∧ e = .returned (.tuple #[.pointer (some ⟨tb, 0, none⟩), .bool true]) ∧ TreeAt w' tb NB g B off cap S ∧ Below w.heap.size w w'
theorem Cv (A : Option Addr) (cap : Nat) (g : List Bl) (w : World) (hg : Gr w A g) (hn : g.length + aO g ≤ 1048576) (hv : aa g = false) :
  Calls Tryz.prog 80 #[.slice A g.length cap] w fun e w' => ∃ tb, e = .returned (.tuple #[.pointer (some ⟨tb, 0, none⟩), .bool false]) ∧ TreeIn w' tb (.slice none 0 0) (fun _ => 0) (fun _ => .pointer none) ∧ Below w.heap.size w w' := by
 have HC := GR (rf A cap g w hg hn hv)
 clear hv
 go_enter Tryz.func80, Tryz.ntmps80
 go_wp2_with fail
 refine HC.out.mono ?_
 rintro e w1 ⟨rfl, b1⟩
 go_wp2_with fail
 go_ret2
 exact ⟨w1.heap.size, rfl, rF w1 _, b1.alloc b1.size _⟩
theorem An (A : Option Addr) (cap : Nat) (g : List Bl) (w : World) (hg : Gr w A g) (hn : g.length + aO g ≤ 1048576) (hv : aa g = true) :
  Calls Tryz.prog 80 #[.slice A g.length cap] w (DZ w g) := by
 have HC := GR (pX A cap g w hg hn hv)
 have h26 := (aj.1 hv).2.1
 have HV := GR hv
 have hl : ∀ x, x ∈ am g ↔ Rch g [] x := fun x => aU hv
 have h0r : (am g)[0]? = some 0 := by
  have h0 : 0 ∈ am g := (hl 0).2 (.start (by simp))
  obtain ⟨k, hk, e⟩ := List.getElem_of_mem h0
  rcases Nat.eq_zero_or_pos k with rfl | hk0
  ·rw [List.getElem?_eq_getElem hk, e]
  ·have := List.pairwise_iff_getElem.1 (n4 g) 0 k (by omega) hk hk0
   omega
 have hlen : (am g).length ≤ 26 := by have := oI g (cI g) g.length; rw [← mO] at this; omega
 have hpos : 0 < (am g).length := by
  rcases Nat.eq_zero_or_pos (am g).length with h | h
  ·rw [List.eq_nil_of_length_eq_zero h] at h0r; cases h0r
  ·exact h
 have hnd : (am g).Nodup := (n4 g).imp fun h => Nat.ne_of_lt h
 have HL := GR hl
 have H0R := GR h0r
 have HND := GR hnd
 clear hv hl h0r hnd
 go_enter Tryz.func80, Tryz.ntmps80
 go_wp2_with fail
 refine HC.out.mono ?_
 rintro e w1 ⟨NB, A1, c1, hNB, rfl, hP, hN, b1⟩
 have hPI := EV hP
 obtain ⟨B, off, rfl, hBl, hrow⟩ := hPI hpos
 obtain ⟨w2, hw2⟩ : ∃ w2, w2 = w1.alloc (.cells (lV (.slice (some ⟨B, off, none⟩) (am g).length c1)) 122) := ⟨_, rfl⟩
 have hT2 : TreeIn w2 w1.heap.size (.slice (some ⟨B, off, none⟩) (am g).length c1) (fun _ => 0) (fun _ => .pointer none) := by rw [hw2]; exact rF w1 _
 have hb2 : Below w1.heap.size w1 w2 := by rw [hw2]; exact (Below.refl _ _).alloc (Nat.le_refl _) _
 have hs2 : w2.heap.size = w1.heap.size + 1 := by rw [hw2]; simp
 have hN2 := hN.below hb2
 have hr2 : ∀ k (h : k < (am g).length), w2.cell? ⟨B, off + k, none⟩ = some (ag NB (am g)[k]) := fun k hk => (hb2.cell (p := ⟨B, off + k, none⟩) hBl).trans (hrow k hk)
 have hNe : ∀ i, i < g.length → nb NB i ≠ w1.heap.size := fun i hi e => by have := (hN i hi).lt; omega
 have HM := GR (vy w1.heap.size NB B off c1 g (am g) (fun _ => .pointer none) (fun _ => 0) w2 HV.out hT2 hr2 (by omega) hN2 (by omega) hNe (fun _ => by decide) HL.out H0R.out hlen)
 have HR := GR hr2
 have HN2 := GR hN2
 have HNE := GR hNe
 have HB2 := GR (b1.trans (hb2.mono b1.size))
 have hle1 := b1.size
 have hBs : B < w2.heap.size := by omega
 have HS2 := GR hs2
 clear hP hN b1 hPI hrow hT2 hb2 hN2 hr2 hNe hs2
 subst hw2
 go_wp2_with fail
 refine HM.out.mono ?_
 rintro e w3 ⟨rfl, S, hT3, hO3, hsm, hD⟩
 have hBne : B ≠ w1.heap.size := by omega
 have hr3 : ∀ k (h : k < (am g).length), w3.cell? ⟨B, off + k, none⟩ = some (ag NB (am g)[k]) := fun k hk => (hO3.cellAt hBne hBs).trans (HR.out k hk)
 have hN3 : NodesIn w3 NB g := fun i hi => (hO3.block _ (HNE.out i hi) (HN2.out i hi).lt).trans (HN2.out i hi)
 have hB3 : B < w3.heap.size := Nat.lt_of_lt_of_le hBs hO3.size
 have HF := GR (qL w1.heap.size NB B off c1 g (am g) S w3 HV.out hT3 hr3 hB3 hN3 hBne HNE.out hsm hD HL.out HND.out hlen)
 have HR3 := GR hr3
 have HN3 := GR hN3
 have HO3 := GR hO3
 have HSM := GR hsm
 have HD := GR hD
 clear hT3 hO3 hr3 hN3 hsm hD HM
 go_wp2_with fail
 refine HF.out.mono ?_
 rintro e w4 ⟨rfl, hT4, hO4⟩
 have HT4 := GR hT4
 have HO4 := GR hO4
 clear hT4 hO4 HF
 go_wp2_with fail
 go_ret2
 have hO : Only w1.heap.size _ w4 := HO3.out.trans HO4.out
 refine ⟨w1.heap.size, NB, B, off, c1, S, hle1, rfl, ⟨HT4.out, Nat.lt_of_lt_of_le hB3 HO4.out.size, fun k hk => (HO4.out.cellAt hBne hB3).trans (HR3.out k hk), HSM.out, HD.out, fun i hi => (HO4.out.block _ (HNE.out i hi) (HN3.out i hi).lt).trans (HN3.out i hi)⟩, ?_⟩
 refine ⟨hO.os.trans HB2.out.os, hO.tape.trans HB2.out.tape, hO.output.trans HB2.out.output, Nat.le_trans HB2.out.size hO.size, fun k hk => (hO.block k (by omega) (Nat.lt_of_lt_of_le hk HB2.out.size)).trans (HB2.out.block k hk)⟩
end Go.Proofs.YtlkfakdghjaoaaaGreatDoor
