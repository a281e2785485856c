import Derived.Test.YtlkfakdghjaoaaaGreatDoorJ10
import Derived.Test.YtlkfakdghjaoaaaGreatDoorJ3
import Derived.Maps.Own
import Derived.Maps.OwnOps
import Derived.Maps.OwnSet
import Derived.DeepKeys4
import Derived.Test.YtlkfakdghjaoaaaGreatDoorJ2
import Derived.Test.YtlkfakdghjaoaaaGreatDoorJ4
import Derived.Laws.Bits64
import Derived.ProofKit
import Derived.ChangeSlices
import Derived.Deep.SlicePairs
import Derived.Test.YtlkfakdghjaoaaaGreatDoorSort
set_option maxRecDepth 100000
namespace Go.Proofs.YtlkfakdghjaoaaaGreatDoor
open Go.RowKit Go.Sort
def oW (n m : Nat) (w : World) (e : Ending) (w' : World) : Prop :=
 ∃ v g s, e = .returned (.tuple #[v, .string s]) ∧ fN w' w.heap.size v g ∧ g.length + aO g ≤ n ∧ s.size ≤ m ∧ Below w.heap.size w w'
theorem pF (A : Option Addr) (len cap : Nat) (w : World) (hb : Bytes w A len) (hlc : len ≤ cap) (hl : cap ≤ 9223372036854775807) :
  Calls Tryz.prog 45 #[.slice A len cap] w (oW 40 100 w) := by
 have HC := GR (vT A len cap w hb hlc hl)
 clear hb
 go_enter Tryz.func45, Tryz.ntmps45
 go_wp2_with fail
 refine HC.out.mono ?_
 rintro e w1 ⟨A', len', cap', rfl, hrd, b1⟩
 have HR1 := GR hrd
 have HB := GR b1
 have hs1 := b1.size
 have hRlt := hrd.blk.lt
 clear hrd b1
 go_wp2_with fail
 refine (uP w.heap.size A' len' cap' 0 w1 HR1.out (by omega)).mono ?_
 rintro e w2 ⟨v, g, q, rfl, hown, hg, ho, r2, hq⟩
 have HOWN := GR hown
 have HB2 := GR (Only.below HB.out ho)
 have HR2 := GR r2
 clear hown ho r2
 go_wp2_with fail
 refine (ue w.heap.size A' len' cap' q w2 HR2.out (by omega)).mono ?_
 rintro e w3 ⟨s, q3, rfl, hs, ho3, _, _⟩
 have HOWN3 := GR (gB (dC HOWN.out hRlt ho3) hs1)
 have HB3 := GR (Only.below HB2.out ho3)
 clear ho3
 go_wp2_with fail
 exact bodyPost_ret (v := .tuple #[v, .string s]) (by simp [results, Tryz.results45, go_sem]) rfl ⟨v, g, s, rfl, HOWN3.out, hg, hs, HB3.out⟩
def CV (n m : Nat) (w : World) (e : Ending) (w' : World) : Prop :=
 ∃ A cap g s, e = .returned (.tuple #[.slice A g.length cap, .string s]) ∧ g.length ≤ cap ∧ Gr w' A g ∧ g.length + aO g ≤ n ∧ s.size ≤ m ∧ Below w.heap.size w w'
theorem xj {n m : Nat} {w : World} {e : Ending} {w' : World} (h : oW n m w e w') : CV n m w e w' := by
 obtain ⟨v, g, s, rfl, ho, hn, hs, hB⟩ := h
 obtain ⟨A, cap, rfl, hc, hg⟩ := rp ho
 exact ⟨A, cap, g, s, rfl, hc, hg, hn, hs, hB⟩
end Go.Proofs.YtlkfakdghjaoaaaGreatDoor

set_option maxRecDepth 100000
namespace Go.Proofs.YtlkfakdghjaoaaaGreatDoor
def bJ (l : List Nat) (x : Nat) : Nat := l.findIdx fun y => decide (y = x)
theorem eB {l : List Nat} {x : Nat} (h : x ∈ l) : bJ l x < l.length :=
 List.findIdx_lt_length_of_exists ⟨x, h, by simp⟩
theorem fx {l : List Nat} {x : Nat} (h : x ∈ l) : l[bJ l x]'(eB h) = x := by
 have := List.findIdx_getElem (xs := l) (p := fun y => decide (y = x)) (w := eB h)
 exact of_decide_eq_true this
theorem jC {l : List Nat} (hn : l.Nodup) {k : Nat} (hk : k < l.length) : bJ l l[k] = k := by
 have hm : l[k] ∈ l := List.getElem_mem hk
 exact (List.getElem_inj hn).1 (fx hm)
theorem j5 {l : List Nat} (hn : l.Nodup) {x : Nat} (h : x ∈ l) (k : Nat) : x ∈ l.take k ↔ bJ l x < k := by
 rw [List.mem_take_iff_getElem]
 constructor
 ·rintro ⟨i, hi, e⟩
  have h1 : bJ l x = i := by rw [← e]; exact jC hn (by omega)
  omega
 ·intro hk
  have := eB h
  exact ⟨bJ l x, by omega, fx h⟩
def ah (g : List Bl) (i : Nat) : Nat := bJ (ac g) i
def aG (g : List Bl) (i t : Nat) : Nat := if ah g i < ah g t then 0 else if bU g t i then 1 else 2
theorem gL {g : List Bl} {i t : Nat} (h : ah g i < ah g t) : aG g i t = 0 := by unfold aG; rw [if_pos h]
theorem sP {g : List Bl} {i t : Nat} (h : ¬ ah g i < ah g t) (hd : bU g t i = true) : aG g i t = 1 := by unfold aG; rw [if_neg h, if_pos hd]
theorem sQ {g : List Bl} {i t : Nat} (h : ¬ ah g i < ah g t) (hd : bU g t i = false) : aG g i t = 2 := by unfold aG; rw [if_neg h, hd]; rfl
theorem yk (g : List Bl) (i t : Nat) : aG g i t < 3 := by unfold aG; split; omega; split <;> omega
theorem kw {g : List Bl} {i t : Nat} : aG g i t ≠ 0 ↔ ah g t ≤ ah g i := by
 unfold aG
 by_cases h : ah g i < ah g t
 ·rw [if_pos h]; simp; omega
 ·rw [if_neg h]
  constructor
  ·intro _; omega
  ·intro _; split <;> omega
def bD (k : Nat) : Bool := k == 0
def dj (k : Nat) : Bool := k == 2
def aS (k : Nat) : Bool := k == 1 || k == 2
theorem jD {g : List Bl} {i t : Nat} : aS (aG g i t) = decide (ah g t ≤ ah g i) := by
 have h1 := yk g i t
 by_cases h : ah g t ≤ ah g i
 ·rw [decide_eq_true h]
  have := kw.2 h
  unfold aS
  rcases Nat.lt_or_ge (aG g i t) 2 with h | h
  ·have : aG g i t = 1 := by omega
   rw [this]; rfl
  ·have : aG g i t = 2 := by omega
   rw [this]; rfl
 ·rw [decide_eq_false h]
  rw [gL (by omega)]; rfl
def ci (g : List Bl) (K : Nat → Bool) (i : Nat) : List (Nat × Nat) := ((ai g i).filter fun t => K (aG g i t)).map fun t => (i, t)
def bw (g : List Bl) (K : Nat → Bool) : List (Nat × Nat) := (ac g).flatMap (ci g K)
theorem kx {g : List Bl} (hv : aa g = true) {K : Nat → Bool} {j : Nat × Nat} : j ∈ bw g K ↔ Rch g [] j.1 ∧ j.2 ∈ ai g j.1 ∧ K (aG g j.1 j.2) = true := by
 unfold bw ci
 rw [List.mem_flatMap]
 constructor
 ·rintro ⟨i, hi, hj⟩
  obtain ⟨t, ht, e⟩ := List.mem_map.1 hj
  obtain ⟨h1, h2⟩ := List.mem_filter.1 ht
  rw [← e]; exact ⟨(aA hv).1 hi, h1, h2⟩
 ·rintro ⟨h1, h2, h3⟩
  exact ⟨j.1, (aA hv).2 h1, List.mem_map.2 ⟨j.2, List.mem_filter.2 ⟨h2, h3⟩, rfl⟩⟩
def dg (g : List Bl) (K : Nat → Bool) (t : Nat) : List Nat := (am g).filter fun i => decide (t ∈ ai g i) && K (aG g i t)
theorem gM {g : List Bl} (hv : aa g = true) {K : Nat → Bool} {t i : Nat} : i ∈ dg g K t ↔ Rch g [] i ∧ t ∈ ai g i ∧ K (aG g i t) = true := by
 unfold dg
 rw [List.mem_filter, aU hv, Bool.and_eq_true_iff, decide_eq_true_iff]
def fL (g : List Bl) (m : Nat) (K : Nat → Bool) : List Nat := (am g).filter fun t => decide (m ≤ (dg g K t).length)
def aL (g : List Bl) : List Nat := fL g 1 aS
def ak (g : List Bl) : List Nat := fL g 2 bD
theorem dP {g : List Bl} (m : Nat) (K : Nat → Bool) : ∀ i ∈ fL g m K, i < g.length := fun i hi => Ce (g := g) (l := cI g) (Nat.le_refl _) i (List.mem_filter.1 hi).1
theorem eX {g : List Bl} (m : Nat) (K : Nat → Bool) : (fL g m K).length ≤ (am g).length := List.length_filter_le _ _
theorem sR {g : List Bl} (hv : aa g = true) {t : Nat} : t ∈ aL g ↔ Rch g [] t ∧ ∃ i, Rch g [] i ∧ t ∈ ai g i ∧ aS (aG g i t) = true := by
 unfold aL fL
 rw [List.mem_filter, aU hv, decide_eq_true_iff]
 constructor
 ·rintro ⟨h1, h2⟩
  obtain ⟨i, hi⟩ := List.exists_mem_of_length_pos h2
  exact ⟨h1, i, (gM hv).1 hi⟩
 ·rintro ⟨h1, i, hi⟩
  exact ⟨h1, List.length_pos_of_mem ((gM hv).2 hi)⟩
theorem Dc {g : List Bl} (hv : aa g = true) : eW g ((bw g aS).map (·.2)) g.length = aL g := by
 unfold eW aL fL am
 rw [List.filter_filter]
 refine List.filter_congr fun t ht => ?_
 rw [Bool.eq_iff_iff, decide_eq_true_iff, List.mem_map, Bool.and_eq_true_iff]
 have hh := sR hv (t := t)
 unfold aL fL at hh
 rw [List.mem_filter, aU hv] at hh
 constructor
 ·rintro ⟨j, hj, rfl⟩
  obtain ⟨h1, h2, h3⟩ := (kx hv).1 hj
  have hr : Rch g [] j.2 := .step h1 h2 (by simp)
  have := hh.2 ⟨hr, j.1, h1, h2, h3⟩
  exact ⟨this.2, decide_eq_true ((kX hv).2 hr)⟩
 ·rintro ⟨h1, h2⟩
  obtain ⟨_, i, hi, hn, hk⟩ := hh.1 ⟨(kX hv).1 (of_decide_eq_true h2), h1⟩
  exact ⟨(i, t), (kx hv).2 ⟨hi, hn, hk⟩, rfl⟩
theorem sS {g : List Bl} (hv : aa g = true) (t : Nat) : (((ac g).take (ah g t)).filter fun i => decide (t ∈ ai g i)).length = (dg g bD t).length := by
 have hn := aZ hv
 refine List.Perm.length_eq ((List.perm_ext_iff_of_nodup ?_ ?_).2 fun i => ?_)
 ·exact (hn.sublist (List.take_sublist _ _)).filter _
 ·exact List.Pairwise.filter _ (List.Pairwise.filter _ List.nodup_range)
 ·rw [List.mem_filter, decide_eq_true_iff, gM hv]
  constructor
  ·rintro ⟨h1, h2⟩
   have hi : i ∈ ac g := (List.take_subset _ _) h1
   have := (j5 hn hi _).1 h1
   exact ⟨(aA hv).1 hi, h2, by rw [gL this]; rfl⟩
  ·rintro ⟨h1, h2, h3⟩
   have hi := (aA hv).2 h1
   refine ⟨(j5 hn hi _).2 ?_, h2⟩
   have : aG g i t = 0 := by simpa [bD] using h3
   rcases Nat.lt_or_ge (ah g i) (ah g t) with h | h
   ·exact h
   ·exact absurd this (kw.2 h)
end Go.Proofs.YtlkfakdghjaoaaaGreatDoor
namespace Go.Proofs.YtlkfakdghjaoaaaGreatDoor
open Go.RowKit Go.Sort Go.Maps Go.WideMaps
theorem yl : (176 : TypeId) < Tryz.prog.types.size := of_decide_eq_true (by kernel_rfl)
theorem Ey : Tryz.prog.keyType 176 = true := by kernel_rfl
theorem Dd : Tryz.prog.keyTypeAt 3 176 = true := by kernel_rfl
theorem sT : Tryz.prog.cellsOf 176 = 2 := by kernel_rfl
theorem De : Tryz.prog.cellsOf 5 = 1 := by kernel_rfl
theorem Df : (match Tryz.prog.underlying 176 with | some (.array _ _) | some (.struct _) => true | _ => false) = true := by kernel_rfl
theorem jO : Keyed Tryz.prog 176 := Keyed.of_law (deep_law_laid sp (m := 3) (by omega) yl Dd Df)
theorem AT {n k : Nat} (h : k < n) : ∃ m, n = m + 1 := ⟨n - 1, by omega⟩
theorem AU : ∃ n, Tryz.prog.types.size = n + 1 := AT yl
theorem Ed (a : UInt8) : (Lit.int .u8 (a.toNat : Int)).wf = true := by
 have e0 : IntKind.u8.min = 0 := rfl
 have e1 : IntKind.u8.max = 255 := rfl
 have := a.toNat_lt
 simp [Lit.wf, e0, e1]
 omega
abbrev jv (a b : UInt8) : Value := .agg #[.int .u8 a.toNat, .int .u8 b.toNat]
theorem vc (a b : UInt8) : ∃ l, keyOf Tryz.prog 176 (jv a b) = some l := by
 have hu := Tryz.underlying176
 have hf : (jv a b).formed Tryz.prog 176 = true := by simp [Value.formed, hu, sT]
 have ha := Ed a
 have hb := Ed b
 obtain ⟨n, hn⟩ := AU
 unfold keyOf
 simp only [hu, Ey, hf, Bool.and_self, if_true]
 rw [hn]
 have hu8 := Tryz.underlying5
 have hlits : Tryz.prog.keyLits (n + 1 + 1) 176 (jv a b).cells.toList = some [.int .u8 a.toNat, .int .u8 b.toNat] := by
  simp [Program.keyLits, hu, hu8, sT, De, ha, hb, Value.cells, show List.range 2 = [0, 1] from rfl]
 rw [hlits]
 exact ⟨_, rfl⟩
noncomputable def vd (a b : UInt8) : Lit := (vc a b).choose
theorem gN (a b : UInt8) : keyOf Tryz.prog 176 (jv a b) = some (vd a b) := (vc a b).choose_spec
theorem ym (a b : UInt8) : WideAt.IsKeyLit (vd a b) := jO.key (gN a b)
theorem yn {a b : UInt8} (h : (a.toNat : Int) = b.toNat) : a = b := UInt8.toNat_inj.1 (by omega)
theorem Ez {a b a' b' : UInt8} (h : ¬ (a = a' ∧ b = b')) : vd a b ≠ vd a' b' := fun e => by
 have h1 := gN a b
 rw [e] at h1
 have h2 := jO.inj h1 (gN a' b')
 simp only [jv, Value.agg.injEq] at h2
 have h3 := congrArg Array.toList h2
 simp only [List.cons.injEq, Value.int.injEq, true_and, and_true] at h3
 exact h ⟨yn h3.1, yn h3.2⟩
def au (g : List Bl) (i : Nat) : UInt8 := (ay g i).data.toList.getD 0 0
theorem bu {g : List Bl} (hv : aa g = true) {i : Nat} (hi : i < g.length) : g[i].1 = ⟨#[au g i]⟩ := by
 obtain ⟨c, hc, _⟩ := a8 hv (List.getElem_mem hi)
 unfold au
 rw [al hi, hc]; rfl
theorem pM {g : List Bl} (hv : aa g = true) {i j : Nat} (hi : i < g.length) (hj : j < g.length) (h : au g i = au g j) : i = j :=
 ge hv hi hj (by rw [bu hv hi, bu hv hj, h])
noncomputable abbrev kl (g : List Bl) (i t : Nat) : Lit := vd (au g i) (au g t)
theorem Gm {g : List Bl} (hv : aa g = true) {i t i' t' : Nat} (hi : i < g.length) (ht : t < g.length) (hi' : i' < g.length) (ht' : t' < g.length) (h : ¬ (i = i' ∧ t = t')) : kl g i t ≠ kl g i' t' :=
 Ez fun e => h ⟨pM hv hi hi' e.1, pM hv ht ht' e.2⟩
abbrev Gn (w : World) (MB n : Nat) (D : DataW Unit) : Prop := w.ownsMap Tryz.prog 176 (plainElem Tryz.prog 90) MB n D
def KMap (w : World) (g : List Bl) (MB n : Nat) (P : Nat → Nat → Prop) : Prop :=
 ∃ D : DataW Unit, Gn w MB n D ∧ IsMap D ∧ ∀ i t, i < g.length → t < g.length →
  (P i t → Maps.has D (kl g i t) = true ∧ ∀ z, D.atKey (kl g i t) z = .lit (.int .i64 (aG g i t))) ∧ (¬ P i t → Maps.has D (kl g i t) = false)
theorem EA (g : List Bl) (i t : Nat) : (Lit.int .i64 (aG g i t : Int)).wf = true := by
 have e0 : IntKind.i64.min = -9223372036854775808 := rfl
 have e1 : IntKind.i64.max = 9223372036854775807 := rfl
 have := yk g i t
 simp [Lit.wf, e0, e1]
 omega
theorem KMap.start (w : World) (g : List Bl) : KMap (w.alloc (.map #[] 0)) g w.heap.size 0 (fun _ _ => False) :=
 ⟨_, World.ownsMap_made w _ _ _, isMap_empty, fun _ _ _ _ => ⟨fun h => h.elim, fun _ => rfl⟩⟩
theorem KMap.mono {w : World} {g : List Bl} {MB n n' : Nat} {P : Nat → Nat → Prop} (h : KMap w g MB n P) (hn : n ≤ n') : KMap w g MB n' P := by
 obtain ⟨D, h1, h2, h3⟩ := h
 exact ⟨D, h1.mono hn, h2, h3⟩
theorem KMap.same {w : World} {g : List Bl} {MB n : Nat} {P P' : Nat → Nat → Prop} (h : KMap w g MB n P) (hp : ∀ i t, P i t ↔ P' i t) : KMap w g MB n P' := by
 obtain ⟨D, h1, h2, h3⟩ := h
 exact ⟨D, h1, h2, fun i t hi ht => ⟨fun e => (h3 i t hi ht).1 ((hp i t).2 e), fun e => (h3 i t hi ht).2 fun q => e ((hp i t).1 q)⟩⟩
theorem KMap.lt {w : World} {g : List Bl} {MB n : Nat} {P : Nat → Nat → Prop} (h : KMap w g MB n P) : MB < w.heap.size := by
 obtain ⟨D, h1, _⟩ := h
 exact World.ownsMap.lt h1
theorem KMap.keep {w w' : World} {g : List Bl} {MB n : Nat} {P : Nat → Nat → Prop} (h : KMap w g MB n P) (hk : w'.heap[MB]? = w.heap[MB]?) : KMap w' g MB n P := by
 obtain ⟨D, ⟨es, cl, hb, r⟩, h2, h3⟩ := h
 exact ⟨D, ⟨es, cl, hk.trans hb, r⟩, h2, h3⟩
theorem KMap.put {w : World} {g : List Bl} {MB n : Nat} {P : Nat → Nat → Prop} (hv : aa g = true) (h : KMap w g MB n P) (hn : n ≤ 1048576) {i t : Nat} (hi : i < g.length) (ht : t < g.length) :
  ∃ w', (Instr.mapUpdate 92 (.map (some MB)) (jv (au g i) (au g t)) (.int .i64 (aG g i t))).run Tryz.prog w = .ok () w' ∧ KMap w' g MB (n + 1) (fun a b => P a b ∨ (a = i ∧ b = t)) ∧ w.grownBy w' (some MB) := by
 obtain ⟨D, h1, h2, h3⟩ := h
 obtain ⟨w', r, h4, h5⟩ := World.ownsMap.update h1 jO Tryz.underlying92 (by unfold maxLen; omega) (gN (au g i) (au g t)) (plainElem_int Tryz.underlying90 (EA g i t))
 refine ⟨w', r, ⟨_, h4, h2.put _ _, fun a b ha hb => ?_⟩, h5⟩
 by_cases e : a = i ∧ b = t
 ·obtain ⟨rfl, rfl⟩ := e
  exact ⟨fun _ => ⟨has_put_same h2 (ym _ _) _, fun z => atKey_put_same h2 (ym _ _) _ z⟩, fun q => absurd (.inr ⟨rfl, rfl⟩) q⟩
 ·have hne := Gm hv ha hb hi ht e
  rw [has_put_other hne]
  refine ⟨fun q => ?_, fun q => (h3 a b ha hb).2 fun p => q (.inl p)⟩
  have hp := (h3 a b ha hb).1 (q.resolve_right e)
  exact ⟨hp.1, fun z => by rw [atKey_put_other hne]; exact hp.2 z⟩
theorem nF (w : World) : (zeroValue 90).run Tryz.prog w = .ok (.int .i64 0) w := by kernel_rfl
theorem KMap.look {w : World} {g : List Bl} {MB n : Nat} {P : Nat → Nat → Prop} (h : KMap w g MB n P) {i t : Nat} (hi : i < g.length) (ht : t < g.length) (hp : P i t) :
  (Instr.lookup 92 (.map (some MB)) (jv (au g i) (au g t)) false).run Tryz.prog w = .ok (.int .i64 (aG g i t)) w := by
 obtain ⟨D, h1, h2, h3⟩ := h
 obtain ⟨c, r, hc, _⟩ := World.ownsMap.lookup_int h1 jO Tryz.underlying92 Tryz.underlying90 (nF w) (gN (au g i) (au g t))
 have e := ((h3 i t hi ht).1 hp).2 (.lit (.int .i64 0))
 rw [hc] at e
 simp only [DataW.lit.injEq, Lit.int.injEq, true_and] at e
 rw [r, e]
theorem KMap.look_ok {w : World} {g : List Bl} {MB n : Nat} {P : Nat → Nat → Prop} (h : KMap w g MB n P) {i t : Nat} (hi : i < g.length) (ht : t < g.length) (hp : P i t) :
  (Instr.lookup 92 (.map (some MB)) (jv (au g i) (au g t)) true).run Tryz.prog w = .ok (.tuple #[.int .i64 (aG g i t), .bool true]) w := by
 obtain ⟨D, h1, h2, h3⟩ := h
 obtain ⟨v, ps, r, hv⟩ := World.ownsMap.look_ok h1 jO Tryz.underlying92 (nF w) (plainElem_int Tryz.underlying90 (by decide)) (gN (au g i) (au g t))
 have e := (h3 i t hi ht).1 hp
 rw [e.2] at hv
 obtain ⟨c, rfl, hc, _⟩ := plainElem_int_inv Tryz.underlying90 hv
 simp only [Prod.mk.injEq, DataW.lit.injEq, Lit.int.injEq, true_and] at hc
 rw [r, e.1, hc.1]
theorem KMap.look_no {w : World} {g : List Bl} {MB n : Nat} {P : Nat → Nat → Prop} (h : KMap w g MB n P) {i t : Nat} (hi : i < g.length) (ht : t < g.length) (hp : ¬ P i t) :
  ∃ c, (Instr.lookup 92 (.map (some MB)) (jv (au g i) (au g t)) true).run Tryz.prog w = .ok (.tuple #[.int .i64 c, .bool false]) w := by
 obtain ⟨D, h1, h2, h3⟩ := h
 obtain ⟨v, ps, r, hv⟩ := World.ownsMap.look_ok h1 jO Tryz.underlying92 (nF w) (plainElem_int Tryz.underlying90 (by decide)) (gN (au g i) (au g t))
 obtain ⟨c, rfl, _, _⟩ := plainElem_int_inv Tryz.underlying90 hv
 rw [(h3 i t hi ht).2 hp] at r
 exact ⟨c, r⟩
end Go.Proofs.YtlkfakdghjaoaaaGreatDoor
namespace Go.Proofs.YtlkfakdghjaoaaaGreatDoor
open Go.RowKit Go.Sort
def jt (g : List Bl) (j : Nat × Nat) : ByteArray := ⟨#[au g j.1, au g j.2]⟩
theorem AV (a b : UInt8) : strOfNums [(a.toNat : Int), (b.toNat : Int)] = ⟨#[a, b]⟩ := by
 simp [strOfNums]
theorem o9 {g : List Bl} {K : Nat → Bool} {k x : Nat} (hk : k < (ac g).length) (hx : x = (ac g)[k]) :
  ((ac g).take (k + 1)).flatMap (ci g K) = ((ac g).take k).flatMap (ci g K) ++ ci g K x := by
 rw [List.take_succ_eq_append_getElem hk, List.flatMap_append, ← hx]; simp
abbrev iB (w : World) (g : List Bl) (base : Nat) (v : Value) (P : List (Nat × Nat)) : Prop := OwnStr w base v (P.map (jt g))
theorem ky {w : World} {base base' : Nat} {e : TypeId} {v : Value} {n : Nat} {xs : List Value} (h : w.ownsRow base e 1 v n xs) (hle : base' ≤ base) : w.ownsRow base' e 1 v n xs := by
 refine ⟨h.1, ?_⟩
 rcases h.2 with hn | ⟨gb, cap, cur, hv, hb, rest⟩
 ·exact .inl hn
 ·exact .inr ⟨gb, cap, cur, hv, Nat.le_trans hle hb, rest⟩
def fW (K : Nat → Bool) (w : World) (g : List Bl) (e : Ending) (w' : World) : Prop :=
 ∃ v, e = .returned (.tuple #[v, .bool (aa g)]) ∧ iB w' g w.heap.size v (if aa g = true then bw g K else []) ∧ Below w.heap.size w w'
theorem jE {a b : Bool} (h : a = b) : Ending.returned (.bool a) = .returned (.bool b) := by rw [h]
def dV (g : List Bl) : Bool := aa g && decide ((bw g dj).length = 0)
def mf (g : List Bl) : ByteArray := if aa g = true then ae g (aL g) else ⟨#[]⟩
def i9 (g : List Bl) : ByteArray := if aa g = true then ae g (ak g) else ⟨#[]⟩
end Go.Proofs.YtlkfakdghjaoaaaGreatDoor

namespace Go.Proofs.YtlkfakdghjaoaaaGreatDoor
open Go.RowKit Go.Sort
theorem zV {g : List Bl} (hv : aa g = true) {i u : Nat} (hi : i < g.length) (hu : u < g.length) : eS g[u].1 g[i].2 = decide (u ∈ ai g i) := by
 obtain ⟨c, hc, _⟩ := a8 hv (List.getElem_mem hu)
 unfold eS
 have e : g[u].1.data.toList.getD 0 0 = c := by rw [hc]; rfl
 rw [e, Bool.eq_iff_iff, decide_eq_true_iff, decide_eq_true_iff, eT, yI hv hi hu hc]
def dN (g : List Bl) (u k : Nat) : List Nat := (List.range k).filter fun j => decide (u ∈ ai g j)
theorem BQ {g : List Bl} {u k : Nat} (h : u ∈ ai g k) : dN g u (k + 1) = dN g u k ++ [k] := by
 unfold dN; rw [List.range_succ, List.filter_append, List.filter_cons, if_pos (by simpa using h)]; rfl
theorem DB {g : List Bl} {u k : Nat} (h : u ∉ ai g k) : dN g u (k + 1) = dN g u k := by
 unfold dN; rw [List.range_succ, List.filter_append, List.filter_cons, if_neg (by simpa using h), List.filter_nil, List.append_nil]
theorem DC {g : List Bl} {u k : Nat} (hk : k ≤ g.length) : ∀ i ∈ dN g u k, i < g.length := by
 intro i hi
 have := List.mem_range.1 (List.mem_filter.1 hi).1
 omega
theorem qY {g : List Bl} (hv : aa g = true) {u : Nat} (hu : u < g.length) : ∀ k, k ≤ g.length → fM (g.take k) g[u].1 = ae g (dN g u k)
 | 0, _ => by simp [fM, dN, names, ae]
 | k + 1, h => by
  have ih := qY hv hu k (by omega)
  have hk : k < g.length := by omega
  have hg := zV hv hk hu
  by_cases hm : u ∈ ai g k
  ·rw [decide_eq_true hm] at hg
   rw [tF hk hg, BQ hm, be, bp, ih, al hk]
  ·rw [decide_eq_false hm] at hg
   rw [vQ hk hg, DB hm, ih]
theorem BR {g : List Bl} (hv : aa g = true) {u : Nat} (hu : u < g.length) : fM g g[u].1 = ae g (dN g u g.length) := by
 have := qY hv hu g.length (Nat.le_refl _)
 rwa [List.take_length] at this
end Go.Proofs.YtlkfakdghjaoaaaGreatDoor

set_option maxRecDepth 100000
set_option maxHeartbeats 2000000
namespace Go.Proofs.YtlkfakdghjaoaaaGreatDoor
open Go.RowKit Go.Sort Go.Shelf
theorem ET (NB : Nat) (g : List Bl) (i j : Nat) (hi : i < g.length) (hj : j < g.length) (w : World) (hN : NodesIn w NB g) (h26 : g.length ≤ 26) :
  Calls Tryz.prog 149 #[ag NB i, ag NB j] w fun e w' => e = .returned (.int .i64 ((i : Int) - j)) ∧ ∃ q, w' = w.drewN q := by
 have c1 : w.cell? ⟨nb NB i, 0, none⟩ = some (.int .i64 i) := by have := (hN i hi).cell 0; simpa using this
 have c2 : w.cell? ⟨nb NB j, 0, none⟩ = some (.int .i64 j) := by have := (hN j hj).cell 0; simpa using this
 have hw : wrap64 ((i : Int) - j) = (i : Int) - j := by unfold wrap64; omega
 have HW := GR hw
 clear hw hN
 go_enter Tryz.func149, Tryz.ntmps149
 go_wp2_with fail
 go_quiet (fail)
 go_wp2_with fail
 go_ret
 exact ⟨bz (by first | exact HW.out | rfl), nq, rfl⟩
theorem qZ {α : Type} [Inhabited α] (enc : α → Value) (w : World) (blk off n : Nat) (d : Array α) (os : Array Obj) : Turns (fun k => k = blk) w (sortWorld enc w blk off n d os) := by
 have e : (sortWorld enc w blk off n d os).heap = (w.heap.modify blk (onCells (putCells enc off d))) ++ os := rfl
 refine ⟨rfl, rfl, rfl, by rw [e, Array.size_append, Array.size_modify]; omega, fun k hk hn => ?_⟩
 rw [e, Array.getElem?_append_left (by rw [Array.size_modify]; exact hk), Array.getElem?_modify, if_neg (fun e => hn e.symm)]
def Ei {g : List Bl} (x y : { i : Nat // i < g.length }) : Int := (x.1 : Int) - y.1
theorem rc {g : List Bl} (x y : { i : Nat // i < g.length }) : ltOf Ei x y = decide (x.1 < y.1) := by
 unfold ltOf Ei
 apply decide_eq_decide.2
 omega
theorem GM {g : List Bl} : SWO (ltOf (Ei (g := g))) where
 irrefl x := by rw [rc]; simp
 trans x y z h1 h2 := by rw [rc] at *; simp at *; omega
 ntrans x y z h1 h2 := by rw [rc] at *; simp at *; omega
theorem xM {l₁ l₂ : List Nat} (h1 : l₁.Pairwise (· < ·)) (h2 : l₂.Pairwise (· ≤ ·)) (h : l₁.Perm l₂) : l₁ = l₂ :=
 List.Perm.eq_of_pairwise (le := (· ≤ ·)) (fun _ _ _ _ h h' => Nat.le_antisymm h h') (h1.imp Nat.le_of_lt) h2 h
theorem vV {g : List Bl} {L : List Nat} (hL : ∀ x ∈ L, x < g.length) (hn : L.Nodup) : (eW g L g.length).Perm L := by
 have h1 : (eW g L g.length).Nodup := List.Pairwise.filter _ List.nodup_range
 refine (List.perm_ext_iff_of_nodup h1 hn).2 fun x => ?_
 unfold eW
 rw [List.mem_filter, List.mem_range]
 constructor
 ·intro h; simpa using h.2
 ·intro h; exact ⟨hL x h, by simpa using h⟩
theorem FI (g : List Bl) (L : List Nat) (k : Nat) : (eW g L k).Pairwise (· < ·) := List.Pairwise.filter _ List.pairwise_lt_range
theorem xN {g : List Bl} (hv : aa g = true) : (am g).Perm (cI g) := vV (fun _ h => mL hv h) (pm g)
theorem n4 (g : List Bl) : (am g).Pairwise (· < ·) := List.Pairwise.filter _ List.pairwise_lt_range
theorem vW (NB : Nat) (g : List Bl) : OneCell (fun x : { i : Nat // i < g.length } => ag NB x.1) := fun _ => rfl
theorem uu (NB B off cap : Nat) (g : List Bl) (L : List Nat) (O : Nat → Prop) (w : World) (hv : aa g = true) (hL : ∀ x ∈ L, x < g.length) (hnd : L.Nodup) (hN : NodesIn w NB g) (hB : ∀ i, i < g.length → nb NB i ≠ B)
  (hQ : Que w 95 1 O (.slice (some ⟨B, off, none⟩) L.length cap) L.length (L.map (ag NB))) :
  Calls Tryz.prog 189 #[.slice (some ⟨B, off, none⟩) L.length cap, .func (.func 149) #[] #[]] w fun e w' =>
   e = .returned (.tuple #[]) ∧ Turns (fun k => k = B) w w' ∧ ∀ k (h : k < (eW g L g.length).length), w'.cell? ⟨B, off + k, none⟩ = some (ag NB (eW g L g.length)[k]) := by
 have hpos := (aj.1 hv).1
 have h26 := (aj.1 hv).2.1
 letI : Inhabited { i : Nat // i < g.length } := ⟨⟨0, hpos⟩⟩
 obtain ⟨B', off', cap', cs, hval, hn, hb, hs, ho, hx, hc⟩ := hQ
 simp only [Value.slice.injEq, Option.some.injEq, Addr.mk.injEq, and_true, true_and] at hval
 obtain ⟨⟨rfl, rfl⟩, rfl⟩ := hval
 obtain ⟨d, hd⟩ : ∃ d : Array { i : Nat // i < g.length }, d.toList.map (·.1) = L :=
  ⟨(L.attach.map fun x => ⟨x.1, hL _ x.2⟩).toArray, by simp⟩
 have hds : d.size = L.length := by rw [← hd]; simp
 have hget : ∀ (a : Array { i : Nat // i < g.length }) (j : Nat) (h : j < a.size), a[j]! = a[j] := fun a j h => getElem!_pos a j h
 have hH : Holds (fun x : { i : Nat // i < g.length } => ag NB x.1) w B off d := by
  intro j hj
  refine ⟨?_, by simp [World.frozen?, hb]⟩
  rw [cell_of_row w B (off + j) cs _ (0, 0) hb, hc j (by rw [List.length_map, ← hds]; exact hj), ← hd, hget d j hj]
  simp [hj]
 have hcon := Any.slices_SortFunc Tryz.sortNodes (fun x : { i : Nat // i < g.length } => ag NB x.1) (vW NB g) Ei GM 149 #[] B off cap d w (enters_of Tryz.func149 (by kernel_rfl) rfl)
  (fun m os dk _ x y => (ET NB g x.1 y.1 x.2 y.2 _ (fun i hi => ((qZ _ w B off m dk os).block _ (hN i hi).lt (hB i hi)).trans (hN i hi)) h26).mono fun e w' ⟨he, q, hq⟩ => ⟨he, q, #[], by rw [hq, grow_empty]⟩)
  hH (Array.getElem?_eq_some_iff.1 hb).1 (by have := bS _ _ hnd hL; omega)
 rw [hds] at hcon
 refine hcon.mono ?_
 rintro e w' ⟨he, d', n, os, hp, hso, rfl⟩
 have hds' : d'.size = d.size := hp.1
 refine ⟨he, qZ _ w B off n d' os, fun k hk => ?_⟩
 have hperm : (d'.toList.map (·.1)).Perm L := by
  have h1 := hp.2.2
  have e1 : (d'.extract 0 L.length).toList = d'.toList := by rw [← hds, ← hds', Array.extract_size]
  have e2 : (d.extract 0 L.length).toList = d.toList := by rw [← hds, Array.extract_size]
  rw [e1, e2] at h1
  rw [← hd]; exact h1.map _
 have hup : (d'.toList.map (·.1)).Pairwise (· ≤ ·) := by
  rw [List.pairwise_map, List.pairwise_iff_getElem]
  intro i j hi hj hij
  have hi' : i < d'.size := by simpa using hi
  have hj' : j < d'.size := by simpa using hj
  have := hso i j (Nat.zero_le _) hij (by rw [← hds, ← hds']; exact hj')
  rw [rc, hget d' j hj', hget d' i hi'] at this
  simp at this
  simpa using this
 have hsame := xM (FI g L _) hup ((vV hL hnd).trans hperm.symm)
 have hk' : k < d'.size := by rw [hsame] at hk; simpa using hk
 have hh := (holds_sortWorld _ w B off n d d' os (Array.getElem?_eq_some_iff.1 hb).1 hH hds') k hk'
 rw [hh.1, hget d' k hk']
 congr 2
 have : (eW g L g.length)[k] = (d'.toList.map (·.1))[k]'(by simpa using hk') := by congr 1
 rw [this]; simp
attribute [local go_sem] Oper.semAt_some
abbrev n5 (gf : FuncId) (lb : Array Value) (NB : Nat) (R : Nat → Prop) (L : List Nat) (w : World) : Prop :=
 nD Fence.wide 3 Tryz.prog gf lb (fun x : Nat => #[ag NB x]) R (fun _ => True) (fun pre x => pre ++ [x] <+: L) (fun xs => xs = L) (fun pre => pre <+: L) w
theorem uv (NB : Nat) (gf : FuncId) (lb : Array Value) (R : Nat → Prop) (L : List Nat) (g : List Bl) (w : World) (hent : ∀ args w, (callFunc gf args).run Tryz.prog w = .ok (.enter gf args) w) (hseq : n5 gf lb NB R L w) (hRl : ∀ k, R k → k < w.heap.size)
  (hN : NodesIn w NB g) (h0 : 0 < L.length) (h26 : L.length ≤ 26) :
  Calls Tryz.prog 211 #[.slice none 0 0, .func (.func gf) #[] lb] w fun e w' =>
   ∃ B off cap, w.heap.size ≤ B ∧ e = .returned (.slice (some ⟨B, off, none⟩) L.length cap) ∧ Que w' 95 1 (fun k => w.heap.size ≤ k) (.slice (some ⟨B, off, none⟩) L.length cap) L.length (L.map (ag NB)) ∧ NodesIn w' NB g ∧ Below w.heap.size w w' := by
 obtain ⟨i0, hi0, hz0, hz1, hz2⟩ := info_parts f7
 have HSEQ := GR hseq
 have HN := GR hN
 have HNL := GR (fun i hi => (hN i hi).lt)
 have HRL := GR hRl
 clear hseq hN hRl
 refine (callsIn_wide (n := 4)).1 ?_
 refine callsIn_of_wp_marks Tryz.func211 rfl trivial ?_ rfl
 simp only [Tryz.ntmps211, List.size_toArray, List.length_cons, List.length_nil, Nat.reduceAdd, Nat.reduceSub, Array.replicate_succ, Array.replicate_zero, List.push_toArray, List.append_toArray, List.nil_append, List.cons_append]
 refine wpIn_mono (Q := rR _) ?_ lE
 gi_wp2_with fail
 obtain ⟨w3, hw3⟩ : ∃ w3, w3 = w.alloc (.cells #[.slice none 0 0] 58) := ⟨_, rfl⟩
 rw [← hw3]
 have hs3 : w3.heap.size = w.heap.size + 1 := by rw [hw3]; simp
 have k1 : Boxed w3 w.heap.size 58 (.slice none 0 0) := by rw [hw3]; exact Boxed.new w _ _
 have hb3 : Below w.heap.size w w3 := by rw [hw3]; exact (Below.refl _ w).alloc (Nat.le_refl _) _
 have HN3 := GR (HN.out.below hb3)
 have HB3 := GR hb3
 clear hw3
 refine fF rfl (by decide) (gf := gf) (lb := lb) rfl trivial hent HSEQ.out hb3 (fun _ => rfl) (fun k hk => by have := HRL.out k hk; omega)
  (fun O pre W => ∃ v, Boxed W w.heap.size 58 v ∧ Row W 95 1 (fun k => w3.heap.size ≤ k ∧ ¬ O k) v pre.length (pre.map (ag NB)) ∧ NodesIn W NB g ∧ Below w.heap.size w W)
  (fun _ _ _ => False)
  ?hI (fun _ _ _ _ _ h _ => h) (fun _ _ _ _ => trivial) ?h0
  (fun x => { tmps := #[.slice none 0 0, .func (.func gf) #[] lb, .pointer (some ⟨w.heap.size, 0, none⟩), undef, .slice none 0 0, ag NB x, .func (.func gf) #[] lb, ag NB x, undef, undef, undef, undef, undef], defers := [] }) ?assign ?body ?done ?stop
 case hI =>
  rintro O pre X Y hle hO ⟨v, h1, h2, h3, h4⟩ hT
  refine ⟨v, (hT.block _ h1.lt fun h => by have := hO _ h; omega).trans h1, h2.kept (hT.keeps fun k h => h.2) fun k hk h => ⟨h.1, fun h' => ?_⟩,
   fun i hi => (hT.block _ (h3 i hi).lt fun h => by have := hO _ h; have := HNL.out i hi; omega).trans (h3 i hi), h4.trans (hT.below h4.size fun k h => by have := hO k h; have := HB3.out.size; omega)⟩
  rcases h' with h' | h'
  ·exact h.2 h'
  ·omega
 case h0 => exact ⟨_, k1, Row.nil _ _ _ _, HN3.out, HB3.out⟩
 case assign =>
  intro l x W K hK
  gi_wp2
  exact hK
 case body =>
  rintro l O pre x W hle2 hO ⟨v, h1, h2, h3, h4⟩ hx
  have hpl : pre.length + 1 ≤ 26 := by have := hx.length_le; simp at this; omega
  have c1 := h1.cell
  have f1 := h1.frozen
  have hbl := h1.lt
  have K1 := GR h1
  have K3 := GR h3
  have K4 := GR h4
  have HRW := GR (h2.kept (O' := fun k => w3.heap.size ≤ k ∧ ¬ O k) (Turns.keeps (O := fun _ => False) (Turns.alloc _ W (.cells #[ag NB x] 95)) fun _ _ h => h) fun _ _ h => h)
  have HNEW := GR (cell_one_new W (ag NB x) 95)
  clear h1 h2 h3 h4 hx
  gi_wp2_with (gi_at_builtin; refine iy _ rfl _ _ 58 rfl 95 i0 (.pointer none) 1 Tryz.underlying58 hi0 hz0 hz1 (by rw [hz2]; decide) rfl (fun k => w3.heap.size ≤ k ∧ ¬ O k) v pre.length (pre.map (ag NB)) rfl HRW.out ⟨W.heap.size, 0, none⟩ 1 1 [ag NB x] rfl rfl HNEW.out (by simp [Value.oneCell']) (by omega) (by decide) ?_; intro v' w2 hq' hT'; obtain ⟨B', off', cap', rfl, _⟩ := hq'.cells; have k2 : Boxed w2 w.heap.size 58 v := (hT'.block _ (by simp; omega) fun h => by have := h.1; omega).trans (K1.out.alloc _); have c2 := k2.cell; have f2 := k2.frozen; have KB := GR k2; have HQQ := GR hq'; have HTT := GR hT'; clear k2 hq' hT')
  have hsA : (W.alloc (.cells #[ag NB x] 95)).heap.size = W.heap.size + 1 := by simp
  have T0 := Turns.alloc (fun k => w3.heap.size ≤ k ∧ ¬ O k) W (.cells #[ag NB x] 95)
  have T1 : Turns (fun k => w3.heap.size ≤ k ∧ ¬ O k) W w2 := T0.trans (HTT.out.wider fun k h => .inl h)
  have T2 : Turns (fun k => k = w.heap.size) w2 (w2.setCell ⟨w.heap.size, 0, none⟩ (.slice (some ⟨B', off', none⟩) (pre.length + 1) cap')) := Turns.setCell (O := fun k => k = w.heap.size) (p := ⟨w.heap.size, 0, none⟩) rfl _
  have hk : Keeps (fun k => R k ∨ O k) W (w2.setCell ⟨w.heap.size, 0, none⟩ (.slice (some ⟨B', off', none⟩) (pre.length + 1) cap')) :=
   (T1.keeps fun k h h' => h.elim (fun h => by have := h'.1; have := HRL.out k h; omega) h'.2).trans (T2.keeps fun k h h' => h.elim (fun h => by have := HRL.out k h; omega) fun h => by have := hO k h; omega)
  refine ⟨hk, _, KB.out.set _, .inr ?_, fun i hi => ?_, ?_⟩
  ·have hq := HQQ.out
   have e1 : (pre ++ [x]).length = pre.length + 1 := by simp
   have e2 : (pre ++ [x]).map (ag NB) = pre.map (ag NB) ++ [ag NB x] := by simp
   rw [e1, e2]
   refine hq.kept (T2.keeps fun k h h' => ?_) fun k hk h => ?_
   ·rcases h with h | h
    ·have := h.1; omega
    ·rw [hsA] at h; omega
   ·rcases h with h | h
    ·exact h
    ·rw [hsA] at h
     exact ⟨by omega, fun h' => by have := hO k h'; omega⟩
  ·have hil := HNL.out i hi
   exact (T2.block _ (by have := T1.size; have := (K3.out i hi).lt; omega) fun h => by omega).trans ((T1.block _ (K3.out i hi).lt fun h => by have := h.1; omega).trans (K3.out i hi))
  ·have h5 := K4.out.trans (T1.below K4.out.size fun k h => by have := HB3.out.size; omega)
   exact h5.trans (T2.below h5.size fun k h => by omega)
 case done =>
  rintro D O xs W rfl hO rfl ⟨v, h1, h2, h3, h4⟩ hOD hK
  have hq : Que W 95 1 (fun k => w3.heap.size ≤ k ∧ ¬ O k) v xs.length (xs.map (ag NB)) := by
   rcases h2 with ⟨_, h, _⟩ | h
   ·omega
   ·exact h
  obtain ⟨B', off', cap', rfl, _, hMB, hBl, _⟩ := hq.cells
  have c1 := h1.cell
  have K3 := GR h3
  have K4 := GR h4
  have HK := GR hK
  have HMB := GR hMB
  have HQ := GR hq
  clear h1 h2 h3 h4 hK hq hMB
  gi_wp2_with fail
  refine ⟨by simp, .inl ⟨_, _, rfl, run_takeDeferred HK.out, ?_⟩⟩
  refine ⟨_, results_tmp rfl _ _ _, B', off', cap', by have := HMB.out.1; omega, rfl, ?_, fun i hi => ?_, ?_⟩
  ·exact HQ.out.kept (Turns.keeps (Turns.putObj (O := fun k => k = w3.heap.size) (l := w3.heap.size) rfl (.deferred none)) fun k h e => h.2 (e ▸ hOD)) fun k _ h => by have := h.1; omega
  ·exact (World.putObj_heap_other (by have := HNL.out i hi; omega)).trans (K3.out i hi)
  ·exact oi K4.out (l := w3.heap.size) (by omega) (.deferred none)
 case stop =>
  rintro D c pre W _ _ h _
  exact h.elim
theorem xO (NB : Nat) (gf : FuncId) (lb : Array Value) (R : Nat → Prop) (L : List Nat) (g : List Bl) (w : World) (hent : ∀ args w, (callFunc gf args).run Tryz.prog w = .ok (.enter gf args) w) (hseq : n5 gf lb NB R L w) (hRl : ∀ k, R k → k < w.heap.size)
  (hN : NodesIn w NB g) (h0 : 0 < L.length) (h26 : L.length ≤ 26) :
  Calls Tryz.prog 188 #[.func (.func gf) #[] lb] w fun e w' =>
   ∃ B off cap, w.heap.size ≤ B ∧ e = .returned (.slice (some ⟨B, off, none⟩) L.length cap) ∧ Que w' 95 1 (fun k => w.heap.size ≤ k) (.slice (some ⟨B, off, none⟩) L.length cap) L.length (L.map (ag NB)) ∧ NodesIn w' NB g ∧ Below w.heap.size w w' := by
 have HC := GR (uv NB gf lb R L g w hent hseq hRl hN h0 h26)
 clear hent hseq hRl hN h0 h26
 go_enter Tryz.func188, Tryz.ntmps188
 go_wp2_with fail
 refine HC.out.mono ?_
 rintro e w1 ⟨B, off, cap, hB, rfl, h⟩
 have H := GR h
 clear h
 go_wp2_with fail
 go_ret
 exact ⟨B, off, cap, hB, rfl, H.out⟩
def re (w : World) (NB : Nat) (g : List Bl) (L : List Nat) (e : Ending) (w' : World) : Prop :=
 ∃ B off cap, w.heap.size ≤ B ∧ e = .returned (.slice (some ⟨B, off, none⟩) L.length cap) ∧ B < w'.heap.size ∧ (∀ k (h : k < (eW g L g.length).length), w'.cell? ⟨B, off + k, none⟩ = some (ag NB (eW g L g.length)[k])) ∧ NodesIn w' NB g ∧ Below w.heap.size w w'
theorem sc (NB : Nat) (gf : FuncId) (lb : Array Value) (R : Nat → Prop) (L : List Nat) (g : List Bl) (w : World) (hv : aa g = true) (hent : ∀ args w, (callFunc gf args).run Tryz.prog w = .ok (.enter gf args) w) (hseq : n5 gf lb NB R L w) (hRl : ∀ k, R k → k < w.heap.size)
  (hN : NodesIn w NB g) (h0 : 0 < L.length) (hL : ∀ x ∈ L, x < g.length) (hnd : L.Nodup) :
  Calls Tryz.prog 148 #[.func (.func gf) #[] lb, .func (.func 149) #[] #[]] w (re w NB g L) := by
 have h26 := (aj.1 hv).2.1
 have HNL := GR (fun i hi => (hN i hi).lt)
 have HC := GR (xO NB gf lb R L g w hent hseq hRl hN h0 (by have := bS _ _ hnd hL; omega))
 have HV := GR hv
 have HL := GR hL
 have HND := GR hnd
 clear hv hent hseq hRl hN h0 hL hnd
 go_enter Tryz.func148, Tryz.ntmps148
 go_wp2_with fail
 refine HC.out.mono ?_
 rintro e w1 ⟨B, off, cap, hB, rfl, hq, hN1, b1⟩
 have HS := GR (uu NB B off cap g L _ w1 HV.out HL.out HND.out hN1 (fun i hi e => by have := HNL.out i hi; omega) hq)
 have hBl : B < w1.heap.size := by obtain ⟨B', off', cap', e, _, _, h, _⟩ := hq.cells; simp only [Value.slice.injEq, Option.some.injEq, Addr.mk.injEq] at e; omega
 have HN1 := GR hN1
 have HB1 := GR b1
 clear hq hN1 b1
 go_wp2_with fail
 refine HS.out.mono ?_
 rintro e w2 ⟨rfl, hT, hc⟩
 have HT := GR hT
 have HCC := GR hc
 clear hT hc
 go_wp2_with fail
 go_ret
 exact ⟨B, off, cap, hB, rfl, by have := HT.out.size; omega, HCC.out, fun i hi => (HT.out.block _ (HN1.out i hi).lt (by have := HNL.out i hi; omega)).trans (HN1.out i hi), HB1.out.trans (HT.out.below HB1.out.size fun k h => by omega)⟩
theorem xP (NB : Nat) (gf : FuncId) (lb : Array Value) (R : Nat → Prop) (L : List Nat) (g : List Bl) (w : World) (hv : aa g = true) (hent : ∀ args w, (callFunc gf args).run Tryz.prog w = .ok (.enter gf args) w) (hseq : n5 gf lb NB R L w) (hRl : ∀ k, R k → k < w.heap.size)
  (hN : NodesIn w NB g) (h0 : 0 < L.length) (hL : ∀ x ∈ L, x < g.length) (hnd : L.Nodup) :
  Calls Tryz.prog 102 #[.func (.func gf) #[] lb] w (re w NB g L) := by
 have HC := GR (sc NB gf lb R L g w hv hent hseq hRl hN h0 hL hnd)
 clear hv hent hseq hRl hN h0 hL hnd
 go_enter Tryz.func102, Tryz.ntmps102
 go_wp2_with fail
 refine HC.out.mono ?_
 rintro e w1 ⟨B, off, cap, hB, rfl, h⟩
 have H := GR h
 clear h
 go_wp2_with fail
 go_ret
 exact ⟨B, off, cap, hB, rfl, H.out⟩
end Go.Proofs.YtlkfakdghjaoaaaGreatDoor
namespace Go.Proofs.YtlkfakdghjaoaaaGreatDoor
open Go.RowKit Go.Sort Go.Shelf
attribute [local go_sem] Oper.semAt_some
def ec (NB : Nat) (g : List Bl) (l : List Nat) : List (Nat × ByteArray) := l.map fun i => (nb NB i, ay g i)
theorem cu (NB : Nat) (g : List Bl) (l : List Nat) : (ec NB g l).length = l.length := by simp [ec]
theorem iK (NB : Nat) (g : List Bl) : ∀ l, cn (ec NB g l) = ae g l
 | [] => rfl
 | i :: l => by
  have ih := iK NB g l
  unfold ec at ih ⊢
  simp only [List.map_cons, cn, ae, ih]
theorem EU {A : Option Addr} {n n' c : Nat} {b : Bool} (h : n = n') : Ending.returned (.tuple #[.slice A n c, .bool b]) = .returned (.tuple #[.slice A n' c, .bool b]) := by rw [h]
def xQ (w : World) (g : List Bl) (e : Ending) (w' : World) : Prop :=
 ∃ NB A cap, w.heap.size ≤ NB ∧ e = .returned (.tuple #[.slice A (am g).length cap, .bool true]) ∧ Pts w' A (ec NB g (am g)) ∧ NodesIn w' NB g ∧ Below w.heap.size w w'
theorem rf (A : Option Addr) (cap : Nat) (g : List Bl) (w : World) (hg : Gr w A g) (hn : g.length + aO g ≤ 1048576) (hv : aa g = false) :
  Calls Tryz.prog 59 #[.slice A g.length cap] w fun e w' => e = .returned (.tuple #[.slice none 0 0, .bool false]) ∧ Below w.heap.size w w' := by
 have HC := GR (mF A cap g w hg hn hv)
 clear hv
 go_enter Tryz.func59, Tryz.ntmps59
 go_wp2_with fail
 refine HC.out.mono ?_
 rintro e w1 ⟨rfl, b1⟩
 go_wp2_with fail
 go_ret2
 exact ⟨rfl, b1⟩
theorem xR (NB : Nat) (g : List Bl) (hv : aa g = true) (R : Nat → Prop) (w : World) : Follows (ai g) NB g R 151 #[] w where
 enter := enters_of Tryz.func151 (by kernel_rfl) rfl
 goes := by
  intro W i hi _ hN
  obtain ⟨T, tv, F2, hd⟩ := rv (NB := NB) hv hi
  have x2 : W.cell? ⟨nb NB i, 2, none⟩ = some (.iface T tv) := by have := (hN i hi).cell 2; rw [hd.val] at this; simpa using this
  have hlook := hd.look
  have hent := hd.enter
  have HD := GR hd.goes
  show Calls Tryz.prog 151 #[ag NB i] W _
  clear hd hN
  go_enter Tryz.func151, Tryz.ntmps151
  go_wp2_with fail
  refine (HD.out W).mono ?_
  rintro e W2 ⟨A, rfl, hB, hrow⟩
  have HR := GR hrow
  have HB := GR hB
  clear hrow hB
  go_wp2_with fail
  go_ret
  refine ⟨A, _, rfl, fun h => ?_, fun b off h e => ?_, HB.out⟩
  ·obtain ⟨b, rfl, hb, hk⟩ := HR.out h
   refine ⟨b, 0, rfl, hk.lt, fun k hk2 => ?_⟩
   rw [Nat.zero_add, hk.cell, List.getElem?_toArray, List.getElem?_map, List.getElem?_eq_getElem hk2]; rfl
  ·obtain ⟨b', rfl, hb, _⟩ := HR.out h
   simp only [Option.some.injEq, Addr.mk.injEq] at e
   omega
theorem rg (u : Option Addr) (w : World) :
  Calls Tryz.prog 103 #[.pointer u] w fun e w' =>
   e = .returned (.func (.func 190) #[] #[.pointer (some ⟨w.heap.size + 1, 0, none⟩), .pointer (some ⟨w.heap.size + 2, 0, none⟩)]) ∧
   w' = ((w.alloc (.cells #[.pointer u] 95)).alloc (.cells #[.slice (some ⟨w.heap.size, 0, none⟩) 1 1] 58)).alloc (.cells #[.func (.func 151) #[] #[]] 112) := by
 have HS := GR (sk (.slice (some ⟨w.heap.size, 0, none⟩) 1 1) (.func (.func 151) #[] #[]) (w.alloc (.cells #[.pointer u] 95)) rfl rfl)
 go_enter Tryz.func103, Tryz.ntmps103
 go_wp2_with fail
 refine HS.out.mono ?_
 rintro e w1 ⟨rfl, rfl⟩
 go_wp2_with fail
 go_ret
 exact ⟨by simp, rfl⟩
theorem vX (NB : Nat) (g : List Bl) (hv : aa g = true) (w w3 : World) (hN : NodesIn w NB g) (hw3 : w3 = ((w.alloc (.cells #[ag NB 0] 95)).alloc (.cells #[.slice (some ⟨w.heap.size, 0, none⟩) 1 1] 58)).alloc (.cells #[.func (.func 151) #[] #[]] 112)) :
  n5 190 #[.pointer (some ⟨w.heap.size + 1, 0, none⟩), .pointer (some ⟨w.heap.size + 2, 0, none⟩)] NB (fun k => k < w3.heap.size) (cI g) w3 ∧ NodesIn w3 NB g ∧ Below w.heap.size w w3 ∧ w3.heap.size = w.heap.size + 3 := by
 have hpos := (aj.1 hv).1
 have hs3 : w3.heap.size = w.heap.size + 3 := by rw [hw3]; simp
 have hb : Below w.heap.size w w3 := by rw [hw3]; exact (((Below.refl _ w).alloc (Nat.le_refl _) _).alloc (by simp) _).alloc (by simp; omega) _
 have hN3 := hN.below hb
 have k0 : Boxed w3 w.heap.size 95 (ag NB 0) := by rw [hw3]; exact ((Boxed.new w _ _).alloc _).alloc _
 have k1 : Boxed w3 (w.heap.size + 1) 58 (.slice (some ⟨w.heap.size, 0, none⟩) 1 1) := by
  have := (Boxed.new (w.alloc (.cells #[ag NB 0] 95)) 58 (.slice (some ⟨w.heap.size, 0, none⟩) 1 1)).alloc (.cells #[.func (.func 151) #[] #[]] 112)
  rw [hw3]; simpa using this
 have k2 : Boxed w3 (w.heap.size + 2) 112 (.func (.func 151) #[] #[]) := by
  have := Boxed.new ((w.alloc (.cells #[ag NB 0] 95)).alloc (.cells #[.slice (some ⟨w.heap.size, 0, none⟩) 1 1] 58)) 112 (.func (.func 151) #[] #[])
  rw [hw3]; simpa using this
 refine ⟨?_, hN3, hb, hs3⟩
 have h := ry 3 NB (w.heap.size + 2) (w.heap.size + 1) 1 (some ⟨w.heap.size, 0, none⟩) g (ai g) [0] 151 #[] (fun k => k < w3.heap.size) w3 (by decide) hv (fun t ht => by simp at ht; omega) (by simp) (fun i hi t ht => bP hv hi ht) (fun i hi => by have := iO hv hi; omega)
  k1.cell (fun _ => ⟨_, _, rfl, by omega, fun k hk => by
   have : k = 0 := by simp at hk; omega
   subst this; exact k0.cell⟩) k2.cell (xR NB g hv _ w3) hN3 (fun i hi => (hN3 i hi).lt) (by show w.heap.size + 2 < w3.heap.size; omega) (fun k hk => hk) (by omega) (by omega)
 rw [wN] at h
 exact h
theorem pX (A : Option Addr) (cap : Nat) (g : List Bl) (w : World) (hg : Gr w A g) (hn : g.length + aO g ≤ 1048576) (hv : aa g = true) :
  Calls Tryz.prog 59 #[.slice A g.length cap] w (xQ w g) := by
 have HC := GR (iV A cap g w hg hn hv)
 have hpos := (aj.1 hv).1
 have HV := GR hv
 have h0r : 0 < (cI g).length := by have := (B4 (g := g) (k := 0) (Nat.zero_le _)).length_le; simp [bR] at this; omega
 clear hv
 go_enter Tryz.func59, Tryz.ntmps59
 go_wp2_with fail
 refine HC.out.mono ?_
 rintro e w1 ⟨NB, hle, rfl, hN, b1⟩
 have HN := GR hN
 have HB1 := GR b1
 have x0 := hN.ptr hpos
 have HNI := GR (NodesIn.of hN)
 clear hN b1
 go_wp2_with fail
 refine (rg _ _).mono ?_
 rintro e w3 ⟨rfl, hw3⟩
 obtain ⟨hy, hN3, hb3, hs3⟩ := vX NB g HV.out w1 w3 HNI.out hw3
 have HIO := GR (xP NB 190 #[.pointer (some ⟨w1.heap.size + 1, 0, none⟩), .pointer (some ⟨w1.heap.size + 2, 0, none⟩)] (fun k => k < w3.heap.size) (cI g) g w3 HV.out (enters_of Tryz.func190 (by kernel_rfl) rfl) hy (fun k hk => hk) hN3 h0r (fun x hx => mL HV.out hx) (pm g))
 have HB3 := GR (af HB1.out hb3)
 clear hw3 hy hN3 hb3
 go_wp2_with fail
 refine HIO.out.mono ?_
 rintro e w4 ⟨B, off, cap4, hB, rfl, hBl, hc, hN4, b4⟩
 have HCC := GR hc
 have HN4 := GR hN4
 have HB4 := GR (af HB3.out b4)
 clear hc hN4 b4
 go_wp2_with fail
 go_ret2
 have hrl : (am g).length = (cI g).length := (xN HV.out).length_eq
 refine ⟨NB, some ⟨B, off, none⟩, cap4, hle, EU hrl.symm, fun _ => ⟨B, off, rfl, hBl, fun k hk => ?_⟩, HN4.out, HB4.out⟩
 rw [cu] at hk
 have hi : (am g)[k] < g.length := by
  have : (am g)[k] ∈ am g := List.getElem_mem hk
  exact List.mem_range.1 (List.mem_filter.1 this).1
 have hget : (ec NB g (am g))[k]'(by rw [cu]; exact hk) = (nb NB (am g)[k], ay g (am g)[k]) := by simp [ec]
 rw [hget]
 have hn1 := HN4.out _ hi
 exact ⟨HCC.out k hk, hn1.lt, by rw [hn1.cell 1, al hi]; rfl⟩
theorem EV {w : World} {A : Option Addr} {NB : Nat} {g : List Bl} {l : List Nat} (h : Pts w A (ec NB g l)) : PtsI w A NB l := by
 intro hl
 obtain ⟨b, off, rfl, hb, hc⟩ := h (by rw [cu]; exact hl)
 refine ⟨b, off, rfl, hb, fun k hk => ?_⟩
 obtain ⟨h1, _, _⟩ := hc k (by rw [cu]; exact hk)
 rw [h1]; simp [ec]
end Go.Proofs.YtlkfakdghjaoaaaGreatDoor

set_option maxRecDepth 100000
set_option maxHeartbeats 2000000
namespace Go.Proofs.YtlkfakdghjaoaaaGreatDoor
open Go.RowKit Go.Sort
theorem FU {a a' b b' : ByteArray} (h1 : a = a') (h2 : b = b') : Ending.returned (.tuple #[.string a, .string b]) = .returned (.tuple #[.string a', .string b']) := by rw [h1, h2]
theorem B8 (l : List Nat) (k : Nat) (hk : k < l.length) : (l.drop k).reverse = (l.drop (k + 1)).reverse ++ [l[k]] := by
 rw [List.drop_eq_getElem_cons hk, List.reverse_cons]
theorem Gone.refl {g : List Bl} {s d : List Nat} (h : Seen g s) (hd : ∀ x ∈ d, x < g.length) (hl : d.length ≤ s.length) : Gone g s d s d := ⟨h, List.prefix_refl _, hd, hl⟩
theorem Gone.trans {g : List Bl} {s d s1 d1 s2 d2 : List Nat} (h : Gone g s d s1 d1) (k : Gone g s1 d1 s2 d2) : Gone g s d s2 d2 := ⟨k.ok, h.pre.trans k.pre, k.lt, k.len⟩
theorem pp (A : Option Addr) (cap : Nat) (g : List Bl) (hn : g.length ≤ 1048576) (hv : aa g = true) : ∀ (m i : Nat) (s d : List Nat) (nm ss ds : ByteArray) (w : World), Gr w A g → i ∉ s → Rch g [] i → Seen g s → g.length ≤ m + s.length → (∀ x ∈ d, x < g.length) → d.length ≤ s.length →
  nm = ay g i → ss = ae g s → ds = ae g d →
  Calls Tryz.prog 177 #[.slice A g.length cap, .string nm, .string ss, .string ds] w fun e w' =>
   e = .returned (.tuple #[.string (ae g (df (ai g) m i (s, d)).1), .string (ae g (df (ai g) m i (s, d)).2)]) ∧ Below w.heap.size w w'
 | 0, i, s, d, nm, ss, ds, w, _, hi, hr, hs, hm, _, _, _, _, _ => by
  have := (hs.snoc (hr.lt hv) hi).len
  simp at this; omega
 | m + 1, i, s, d, nm, ss, ds, w, hg, hi, hr, hs, hm, hd, hl, hnm, hss, hds => by
  have ih := pp A cap g hn hv m
  have hil := hr.lt hv
  have h26 := (aj.1 hv).2.1
  have hs1 := hs.snoc hil hi
  have hsl := hs1.len
  have hn1 : nm.size = 1 := by rw [hnm]; exact e8 hv hil
  have hsz : ss.size = s.length := by rw [hss]; exact ax hv _ hs.lt
  have hz1 : ss.size + nm.size ≤ 1048576 := by simp at hsl; omega
  have HN := GR (gq A cap g nm i w hg hn (by rw [hnm, al hil]; exact gu hv hil) hil)
  have HS1 := GR (show ss ++ nm = ae g (s ++ [i]) by rw [be, bp, hss, hnm])
  have HDS := GR hds
  have HGO := GR (Gone.refl hs1 hd (by simp; omega))
  have HNM := GR hnm
  obtain ⟨nx, hnx⟩ : ∃ nx, nx = g[i].2 := ⟨_, rfl⟩
  rw [← hnx] at HN
  have hnl : nx.size ≤ 2 := hnx ▸ gR hv hil
  have hnn : (ai g i).length = nx.size := by rw [d6 hil, hnx]
  have hw1 : wrap64 ((nx.size : Int) - 1) = (nx.size : Int) - 1 := by unfold wrap64; omega
  have HNX := GR hnx
  have HNN := GR hnn
  have HG := GR hg
  have HIH := GR ih
  have HV := GR hv
  have HR := GR hr
  have HM := GR hm
  clear hnx hnn hg ih hss hds hnm hi hs hs1 hd hl hm hsz hr hsl hv
  go_enter Tryz.func177, Tryz.ntmps177
  go_wp2_with fail
  refine HN.out.mono ?_
  rintro e w1 ⟨rfl, b1⟩
  have HB1 := GR b1
  clear b1
  go_wp2_with fail
  rw [HS1.out]
  go_loopw [2, 3, 11] (fun sv dv iv wr => ∃ (k : Nat) (s1 d1 : List Nat), k ≤ nx.size ∧ iv = .int .i64 ((k : Int) - 1) ∧ sv = .string (ae g s1) ∧ dv = .string (ae g d1) ∧
   Hid ((s1, d1) = bN (ai g) m (s ++ [i], d) ((ai g i).drop k).reverse) ∧ Hid (Gone g (s ++ [i]) d s1 d1) ∧ Below w.heap.size w wr) (fun _ _ iv _ => (intOf iv + 1).toNat)
  case atStart => exact ⟨nx.size, s ++ [i], d, Nat.le_refl _, rfl, rfl, by rw [HDS.out], by rw [List.drop_of_length_le (by rw [HNN.out]; exact Nat.le_refl _)]; rfl, HGO.out, HB1.out⟩
  case round =>
   obtain ⟨k, s1, d1, hk, rfl, rfl, rfl, HST, HG1, hB⟩ := hrel
   have HB := GR hB
   obtain ⟨p, hp⟩ : ∃ p, p = ae g s1 := ⟨_, rfl⟩
   obtain ⟨q, hq⟩ : ∃ q, q = ae g d1 := ⟨_, rfl⟩
   have hps : p.size = s1.length := by rw [hp]; exact ax HV.out _ HG1.out.ok.lt
   have hqs : q.size = d1.length := by rw [hq]; exact ax HV.out _ HG1.out.lt
   have hsl := HG1.out.ok.len
   have hdl := HG1.out.len
   rw [← hp, ← hq]
   have HP := GR hp
   have HQ := GR hq
   clear hB hp hq
   cases k with
   | zero =>
    rw [show (((0 : Nat) : Int) - 1) = -1 from rfl]
    have hz2 : nm.size + q.size ≤ 1048576 := by omega
    have HE := GR (show (s1, d1) = bN (ai g) m (s ++ [i], d) (ai g i).reverse by rw [HST.out]; rfl)
    have HE1 := GR (show p = ae g (df (ai g) (m + 1) i (s, d)).1 by rw [ia, ← HE.out, HP.out])
    have HE2 := GR (show nm ++ q = ae g (df (ai g) (m + 1) i (s, d)).2 by rw [ia, ← HE.out, HQ.out, HNM.out]; rfl)
    go_wp2_with fail
    go_ret2
    exact ⟨FU HE1.out HE2.out, HB.out⟩
   | succ j =>
    rw [show (((j + 1 : Nat) : Int) - 1) = (j : Int) by omega]
    have hjn : j < nx.size := by omega
    obtain ⟨t, htl, hget, _, hnt⟩ := jR HV.out (HR.out.lt HV.out) (k := j) (by rw [← HNX.out]; exact hjn)
    have hbyte : g[i].2[j]'(by rw [← HNX.out]; exact hjn) = nx[j] := by congr 1; exact HNX.out.symm
    rw [hbyte] at hnt
    have hjl : j < (ai g i).length := by rw [HNN.out]; exact hjn
    have hte : (ai g i)[j] = t := (List.getElem?_eq_some_iff.1 hget).2
    have htm : t ∈ ai g i := hte ▸ List.getElem_mem hjl
    have hidx := co HV.out HG1.out.ok.lt htl hnt
    rw [← HP.out] at hidx
    have HEX := GR (show nx.extract j (j + 1) = ay g t by rw [d9 nx (a := j) (b := j + 1) (by omega) (by omega) (by omega), al htl, hnt])
    obtain ⟨z, hz⟩ : ∃ z, z = Lib.indexByte p.data.toList nx[j] := ⟨_, rfl⟩
    have HFC : Hid (∀ w, Calls Tryz.prog 114 #[.string p, .int .u8 nx[j].toNat] w fun e w' => e = .returned (.int .i64 z) ∧ w = w') := fun w => by
     rw [hz]; exact bf p nx[j] w (by omega)
    rw [← hz] at hidx
    have HSN := GR (show bN (ai g) m (s ++ [i], d) ((ai g i).drop j).reverse = if t ∈ s1 then (s1, d1) else df (ai g) m t (s1, d1) by
     rw [B8 _ _ hjl, hte, oU, ← HST.out])
    have hj1 : j + 1 ≤ nx.size := by omega
    have hw2 : wrap64 ((j : Int) - 1) = (j : Int) - 1 := by unfold wrap64; omega
    have HTR := GR (Rch.step HR.out htm (by simp))
    clear hget hbyte hnt hte hz hjl htm
    by_cases hin : t ∈ s1
    ·have q2 : ¬ z < 0 := by have := hidx.2 hin; omega
     rw [if_pos hin] at HSN
     clear hidx hin
     go_wp2_with fail
     refine (HFC.out _).mono ?_
     rintro e w4 ⟨rfl, rfl⟩
     go_wp2_with fail
     go_roundw
     case rel => exact ⟨j, s1, d1, by omega, rfl, by rw [HP.out], by rw [HQ.out], HSN.out.symm, HG1, HB.out⟩
     case measure => simp [intOf]
    ·have q2 : z < 0 := by
      rcases Int.lt_or_le z 0 with h | h
      ·exact h
      ·exact absurd (hidx.1 h) hin
     rw [if_neg hin] at HSN
     have hfu : g.length ≤ m + s1.length := by
      have := HG1.out.pre.length_le; have := HM.out; simp at *; omega
     have HV1 := GR (qn HV.out (d := d1) hin HTR.out HG1.out.ok hfu HG1.out.lt HG1.out.len)
     have HC := GR (fun W (hW : Gr W A g) => HIH.out t s1 d1 (nx.extract j (j + 1)) p q W hW hin HTR.out HG1.out.ok hfu HG1.out.lt HG1.out.len HEX.out HP.out HQ.out)
     obtain ⟨v, hvv⟩ : ∃ v, v = df (ai g) m t (s1, d1) := ⟨_, rfl⟩
     rw [← hvv] at HC HV1 HSN
     clear hidx hin hfu hvv
     go_wp2_with fail
     refine (HFC.out _).mono ?_
     rintro e w4 ⟨rfl, rfl⟩
     go_wp2_with fail
     refine (HC.out _ (HG.out.below HB.out)).mono ?_
     rintro e w5 ⟨rfl, b5⟩
     have HB5 := GR (af HB.out b5)
     clear b5
     go_wp2_with fail
     go_roundw
     case rel => exact ⟨j, v.1, v.2, by omega, rfl, rfl, rfl, HSN.out.symm, HG1.out.trans HV1.out, HB5.out⟩
     case measure => simp [intOf]
theorem iY (A : Option Addr) (cap : Nat) (g : List Bl) (w : World) (hg : Gr w A g) (hn : g.length ≤ 1048576) (hv : aa g = true) :
  Calls Tryz.prog 141 #[.slice A g.length cap] w fun e w' => e = .returned (.string (ae g (ac g))) ∧ Below w.heap.size w w' := by
 have hpos := (aj.1 hv).1
 obtain ⟨b, off, t, t2, hA, hb, hc0, hc1, he, he2⟩ := gn hg hpos
 have hc0' : w.cell? ⟨b, off, none⟩ = some (.string t) := by simpa using hc0
 have H1 := GR (pp A cap g hn hv g.length 0 [] [] t ⟨#[]⟩ ⟨#[]⟩ w hg (by simp) (.start (by simp)) ⟨.nil, by simp⟩ (by simp) (by simp) (by simp) (by rw [al hpos, he]) rfl rfl)
 clear hc0 hc1 he he2 hg hv hn
 subst hA
 go_enter Tryz.func141, Tryz.ntmps141
 go_wp2_with fail
 refine H1.out.mono ?_
 rintro e w1 ⟨rfl, b1⟩
 go_wp2_with fail
 go_ret
 exact ⟨rfl, b1⟩
theorem eO {p : Nat → Bool} {l : List Nat} {k : Nat} (h : k < l.length) : (l.take (k + 1)).filter p = (l.take k).filter p ++ (if p l[k] then [l[k]] else []) := by
 rw [List.take_succ_eq_append_getElem h, List.filter_append]
 congr 1
 cases hp : p l[k] <;> simp [hp]
theorem DR (A : Option Addr) (cap : Nat) (g : List Bl) (nm : ByteArray) (n : Nat) (w : World) (hg : Gr w A g) (hn : g.length ≤ 1048576) (hv : aa g = true) (hnl : n < g.length) (hnm : nm = ay g n) :
  Calls Tryz.prog 207 #[.slice A g.length cap, .string nm] w fun e w' => e = .returned (.string (ae g (dT g n))) ∧ Below w.heap.size w w' := by
 have h26 := (aj.1 hv).2.1
 have HO := GR (iY A cap g w hg hn hv)
 obtain ⟨o, ho⟩ : ∃ o, o = ae g (ac g) := ⟨_, rfl⟩
 have hos : o.size = (ac g).length := by rw [ho]; exact ax hv _ (aX hv)
 have hol := bK hv
 rw [← ho] at HO
 have HOO := GR ho
 have HOS := GR hos
 have hos2 : o.size ≤ 26 := by omega
 have HG := GR hg
 have HV := GR hv
 have HNM := GR hnm
 have HNL := GR hnl
 clear ho hg hv hnm hnl hos
 go_enter Tryz.func207, Tryz.ntmps207
 go_wp2_with fail
 refine HO.out.mono ?_
 rintro e w1 ⟨rfl, b1⟩
 have HB1 := GR b1
 clear b1
 go_wp2_with fail
 go_loopw [5, 12] (fun ov iv wr => ∃ (k : Nat) (out : ByteArray), k ≤ o.size ∧ iv = .int .i64 k ∧ ov = .string out ∧ Hid (out = ae g (((ac g).take k).filter fun a => bU g a n)) ∧ Below w.heap.size w wr) (fun _ iv _ => o.size - (intOf iv).toNat)
 case atStart => exact ⟨0, ⟨#[]⟩, Nat.zero_le _, rfl, rfl, rfl, HB1.out⟩
 case round =>
  obtain ⟨k, out, hk, rfl, rfl, HOUT, hB⟩ := hrel
  have HB := GR hB
  have hoz : out.size ≤ k := by
   rw [HOUT.out, ax HV.out _ fun i hi => aX HV.out i ((List.take_subset _ _) (List.mem_filter.1 hi).1)]
   have := List.length_filter_le (fun a => bU g a n) ((ac g).take k)
   have := List.length_take_le k (ac g)
   omega
  clear hB
  by_cases hlt : k < o.size
  ·have hlt' : k < (ac g).length := by rw [← HOS.out]; exact hlt
   obtain ⟨x, hx⟩ : ∃ x, x = (ac g)[k] := ⟨_, rfl⟩
   have hxl : x < g.length := hx ▸ aX HV.out _ (List.getElem_mem hlt')
   obtain ⟨_, hcut⟩ := dD HV.out (aX HV.out) hlt'
   have HEX := GR (show o.extract k (k + 1) = ay g x by rw [HOO.out, hcut, al hxl]; congr 2; exact hx.symm)
   have hk1 : k + 1 ≤ o.size := by omega
   have hxz : (o.extract k (k + 1)).size = 1 := by rw [HEX.out]; exact e8 HV.out hxl
   have hz : out.size + (o.extract k (k + 1)).size ≤ 1048576 := by omega
   have HD := GR (ic A cap g (o.extract k (k + 1)) nm x n wr (HG.out.below HB.out) hn HV.out hxl HNL.out HEX.out HNM.out)
   have HFT := GR (eO (p := fun a => bU g a n) hlt')
   have HX := GR hx
   clear hx hcut hxz
   cases hd : bU g x n with
   | true =>
    rw [hd] at HD
    have HO2 := GR (show out ++ o.extract k (k + 1) = ae g (((ac g).take (k + 1)).filter fun a => bU g a n) by
     rw [HFT.out, ← HX.out, hd, if_pos rfl, be, bp, HOUT.out, HEX.out])
    clear hd
    go_wp2_with fail
    refine HD.out.mono ?_
    rintro e w4 ⟨rfl, b4⟩
    have HB4 := GR (af HB.out b4)
    clear b4
    go_wp2_with fail
    go_roundw
    case rel => exact ⟨k + 1, _, by omega, by go_num, rfl, HO2.out, HB4.out⟩
    case measure => simp [intOf]; omega
   | false =>
    rw [hd] at HD
    have HO2 := GR (show out = ae g (((ac g).take (k + 1)).filter fun a => bU g a n) by
     rw [HFT.out, ← HX.out, hd, if_neg (by simp), List.append_nil, HOUT.out])
    clear hd
    go_wp2_with fail
    refine HD.out.mono ?_
    rintro e w4 ⟨rfl, b4⟩
    have HB4 := GR (af HB.out b4)
    clear b4
    go_wp2_with fail
    go_roundw
    case rel => exact ⟨k + 1, _, by omega, by go_num, rfl, HO2.out, HB4.out⟩
    case measure => simp [intOf]; omega
  ·have HE := GR (show out = ae g (dT g n) by
    rw [HOUT.out, List.take_of_length_le (by rw [← HOS.out]; omega)]; rfl)
   go_wp2_with fail
   go_ret
   exact ⟨cO HE.out, HB.out⟩
def ob (g : List Bl) (n : Nat) : ByteArray := match bF g n with | some p => ay g p | none => ⟨#[]⟩
theorem tL {g : List Bl} {n p : Nat} (h : bF g n = some p) : ob g n = ay g p := by unfold ob; rw [h]
theorem tN {g : List Bl} {n : Nat} (h : bF g n = none) : ob g n = ⟨#[]⟩ := by unfold ob; rw [h]
theorem wE (A : Option Addr) (cap : Nat) (g : List Bl) (nm : ByteArray) (n : Nat) (w : World) (hg : Gr w A g) (hn : g.length ≤ 1048576) (hv : aa g = true) (hr : Rch g [] n) (hnm : nm = ay g n) :
  Calls Tryz.prog 179 #[.slice A g.length cap, .string nm] w fun e w' => e = .returned (.string (ob g n)) ∧ Below w.heap.size w w' := by
 have HO := GR (DR A cap g nm n w hg hn hv (hr.lt hv) hnm)
 obtain ⟨o, ho⟩ : ∃ o, o = ae g (dT g n) := ⟨_, rfl⟩
 have hlt : ∀ x ∈ dT g n, x < g.length := fun x hx => (((eK hv hr).1 hx).live hr).lt hv
 have hos : o.size = (dT g n).length := by rw [ho]; exact ax hv _ hlt
 have hol := CQ hv n
 have h26 := (aj.1 hv).2.1
 have hstep := AF hv hr
 rw [← ho] at HO
 cases hp : bF g n with
 | none =>
  rw [hp] at hstep
  have h1 : o.size = 1 := by rw [hos, hstep]; rfl
  have h2 : ((o.size : Int) < 2) := by omega
  have HR := GR (tN hp)
  clear hp hg hv hr hnm ho hos hstep hlt
  go_enter Tryz.func179, Tryz.ntmps179
  go_wp2_with fail
  refine HO.out.mono ?_
  rintro e w1 ⟨rfl, b1⟩
  go_wp2_with fail
  go_ret
  exact ⟨cO HR.out.symm, b1⟩
 | some p =>
  rw [hp] at hstep
  have hpar := (db hv hr).1 hp
  obtain ⟨l, hl⟩ := uM hv hpar.2.1
  have hstep' : dT g n = dT g p ++ [n] := hstep
  rw [hl] at hstep'
  have h1 : o.size = l.length + 2 := by rw [hos, hstep']; simp
  have h2 : ¬ ((o.size : Int) < 2) := by omega
  have hk : o.size - 2 < (dT g n).length := by omega
  obtain ⟨_, hcut⟩ := dD hv hlt hk
  have hpl := hpar.2.1.lt hv
  have HR := GR (show o.extract (o.size - 2) (o.size - 1) = ob g n by
   rw [tL hp, show o.size - 1 = o.size - 2 + 1 by omega]
   have e : (dT g n)[o.size - 2]? = some p := by rw [hstep', h1]; simp
   have e2 : (dT g n)[o.size - 2] = p := by rw [List.getElem?_eq_getElem hk] at e; exact Option.some.inj e
   have h3 : o.extract (o.size - 2) (o.size - 2 + 1) = (ae g (dT g n)).extract (o.size - 2) (o.size - 2 + 1) := by rw [ho]
   rw [h3, hcut, al hpl]
   congr 2)
  have q1 : wrap64 ((o.size : Int) - 2) = ((o.size - 2 : Nat) : Int) := by unfold wrap64; omega
  have q2 : wrap64 ((o.size : Int) - 1) = ((o.size - 1 : Nat) : Int) := by unfold wrap64; omega
  have q3 : o.size - 1 ≤ o.size := by omega
  have q4 : o.size - 2 ≤ o.size - 1 := by omega
  have q5 : (2 : Int) ≤ o.size := by omega
  clear hp hg hv hr hnm ho hos hstep hlt hpar hl hstep' hcut h1
  go_enter Tryz.func179, Tryz.ntmps179
  go_wp2_with fail
  refine HO.out.mono ?_
  rintro e w1 ⟨rfl, b1⟩
  go_wp2_with fail
  go_ret
  exact ⟨cO HR.out, b1⟩
end Go.Proofs.YtlkfakdghjaoaaaGreatDoor
namespace Go.Proofs.YtlkfakdghjaoaaaGreatDoor
open Go.RowKit Go.Sort
theorem E3 {g : List Bl} (hv : aa g = true) {n c : Nat} (hn : n < g.length) (hc : Rch g [] c) : ((ob g c).toList == (ay g n).toList) = decide (bF g c = some n) := by
 rw [Bool.eq_iff_iff, dS, decide_eq_true_iff]
 cases hp : bF g c with
 | none =>
  rw [tN hp]
  constructor
  ·intro e
   have := congrArg ByteArray.size e
   rw [e8 hv hn] at this; cases this
  ·intro e; cases e
 | some p =>
  rw [tL hp]
  have hpl := ((db hv hc).1 hp).2.1.lt hv
  constructor
  ·intro e
   rw [al hpl, al hn] at e
   rw [ge hv hpl hn e]
  ·intro e; cases e; rfl
theorem E4 {g : List Bl} (hv : aa g = true) {n c : Nat} (hc : Rch g [] c) (h : bU g n c = false) : decide (bF g c = some n) = false := by
 rw [decide_eq_false_iff_not]
 intro e
 have := ((db hv hc).1 e).2.2 n
 have h2 : bU g n c = true := (fw hv).2 (this.2 (.inr (.refl g n)))
 rw [h] at h2; cases h2
theorem si (A : Option Addr) (cap : Nat) (g : List Bl) (nm : ByteArray) (n : Nat) (w : World) (hg : Gr w A g) (hn : g.length + aO g ≤ 1048576) (hv : aa g = true) (hnl : n < g.length) (hnm : nm = ay g n) :
  Calls Tryz.prog 143 #[.slice A g.length cap, .string nm] w fun e w' => e = .returned (.string (ae g (di g n))) ∧ Below w.heap.size w w' := by
 have h26 := (aj.1 hv).2.1
 have hrl : ∀ j ∈ am g, j < g.length := fun j hj => ((aU hv).1 hj).lt hv
 have HO := GR (nd A cap g w hg hn hv)
 obtain ⟨o, ho⟩ : ∃ o, o = ae g (am g) := ⟨_, rfl⟩
 have hos : o.size = (am g).length := by rw [ho]; exact ax hv _ hrl
 have hol : (am g).length ≤ g.length := oI g (cI g) g.length
 rw [← ho] at HO
 have HOO := GR ho
 have HOS := GR hos
 have hos2 : o.size ≤ 26 := by omega
 have HG := GR hg
 have HV := GR hv
 have HNM := GR hnm
 have HNL := GR hnl
 have HRL := GR hrl
 clear ho hg hv hnm hnl hos hrl
 go_enter Tryz.func143, Tryz.ntmps143
 go_wp2_with fail
 refine HO.out.mono ?_
 rintro e w1 ⟨rfl, b1⟩
 have HB1 := GR b1
 clear b1
 go_wp2_with fail
 go_loopw [5, 12] (fun ov iv wr => ∃ (k : Nat) (out : ByteArray), k ≤ o.size ∧ iv = .int .i64 k ∧ ov = .string out ∧ Hid (out = ae g (((am g).take k).filter fun c => decide (bF g c = some n))) ∧ Below w.heap.size w wr) (fun _ iv _ => o.size - (intOf iv).toNat)
 case atStart => exact ⟨0, ⟨#[]⟩, Nat.zero_le _, rfl, rfl, rfl, HB1.out⟩
 case round =>
  obtain ⟨k, out, hk, rfl, rfl, HOUT, hB⟩ := hrel
  have HB := GR hB
  have hoz : out.size ≤ k := by
   rw [HOUT.out, ax HV.out _ fun i hi => HRL.out i ((List.take_subset _ _) (List.mem_filter.1 hi).1)]
   have := List.length_filter_le (fun c => decide (bF g c = some n)) ((am g).take k)
   have := List.length_take_le k (am g)
   omega
  clear hB
  by_cases hlt : k < o.size
  ·have hlt' : k < (am g).length := by rw [← HOS.out]; exact hlt
   obtain ⟨x, hx⟩ : ∃ x, x = (am g)[k] := ⟨_, rfl⟩
   have hxm : x ∈ am g := hx ▸ List.getElem_mem hlt'
   have hxl : x < g.length := HRL.out x hxm
   have hxr := (aU HV.out).1 hxm
   obtain ⟨_, hcut⟩ := dD HV.out HRL.out hlt'
   have HEX := GR (show o.extract k (k + 1) = ay g x by rw [HOO.out, hcut, al hxl]; congr 2; exact hx.symm)
   have hk1 : k + 1 ≤ o.size := by omega
   have hxz : (o.extract k (k + 1)).size = 1 := by rw [HEX.out]; exact e8 HV.out hxl
   have hz : out.size + (o.extract k (k + 1)).size ≤ 1048576 := by omega
   have HD := GR (fun W (h : Gr W A g) => ic A cap g nm (o.extract k (k + 1)) n x W h (by omega) HV.out HNL.out hxl HNM.out HEX.out)
   have HPA := GR (fun W (h : Gr W A g) => wE A cap g (o.extract k (k + 1)) x W h (by omega) HV.out hxr HEX.out)
   have HFT := GR (eO (p := fun c => decide (bF g c = some n)) hlt')
   have hpi := E3 HV.out HNL.out hxr
   rw [← HNM.out] at hpi
   obtain ⟨ps, hps⟩ : ∃ ps, ps = ob g x := ⟨_, rfl⟩
   rw [← hps] at HPA hpi
   have HX := GR hx
   have hkd := E4 HV.out (n := n) hxr
   clear hx hcut hxz hxm hps
   cases hd : bU g n x with
   | false =>
    rw [hd] at HD
    have HO2 := GR (show out = ae g (((am g).take (k + 1)).filter fun c => decide (bF g c = some n)) by
     rw [HFT.out, ← HX.out, hkd hd, if_neg (by simp), List.append_nil, HOUT.out])
    clear hd hkd hpi hxr
    go_wp2_with fail
    refine (HD.out _ (HG.out.below HB.out)).mono ?_
    rintro e w4 ⟨rfl, b4⟩
    have HB4 := GR (af HB.out b4)
    clear b4
    go_wp2_with fail
    go_roundw
    case rel => exact ⟨k + 1, _, by omega, by go_num, rfl, HO2.out, HB4.out⟩
    case measure => simp [intOf]; omega
   | true =>
    rw [hd] at HD
    clear hkd
    cases hq : decide (bF g x = some n) with
    | true =>
     rw [hq] at hpi
     have HO2 := GR (show out ++ o.extract k (k + 1) = ae g (((am g).take (k + 1)).filter fun c => decide (bF g c = some n)) by
      rw [HFT.out, ← HX.out, hq, if_pos rfl, be, bp, HOUT.out, HEX.out])
     clear hd hq hxr
     go_wp2_with fail
     refine (HD.out _ (HG.out.below HB.out)).mono ?_
     rintro e w4 ⟨rfl, b4⟩
     have HB4 := GR (af HB.out b4)
     clear b4
     go_wp2_with fail
     refine (HPA.out _ (HG.out.below HB4.out)).mono ?_
     rintro e w5 ⟨rfl, b5⟩
     have HB5 := GR (af HB4.out b5)
     clear b5
     go_wp2_with fail
     go_roundw
     case rel => exact ⟨k + 1, _, by omega, by go_num, rfl, HO2.out, HB5.out⟩
     case measure => simp [intOf]; omega
    | false =>
     rw [hq] at hpi
     have HO2 := GR (show out = ae g (((am g).take (k + 1)).filter fun c => decide (bF g c = some n)) by
      rw [HFT.out, ← HX.out, hq, if_neg (by simp), List.append_nil, HOUT.out])
     clear hd hq hxr
     go_wp2_with fail
     refine (HD.out _ (HG.out.below HB.out)).mono ?_
     rintro e w4 ⟨rfl, b4⟩
     have HB4 := GR (af HB.out b4)
     clear b4
     go_wp2_with fail
     refine (HPA.out _ (HG.out.below HB4.out)).mono ?_
     rintro e w5 ⟨rfl, b5⟩
     have HB5 := GR (af HB4.out b5)
     clear b5
     go_wp2_with fail
     go_roundw
     case rel => exact ⟨k + 1, _, by omega, by go_num, rfl, HO2.out, HB5.out⟩
     case measure => simp [intOf]; omega
  ·have HE := GR (show out = ae g (di g n) by
    rw [HOUT.out, List.take_of_length_le (by rw [← HOS.out]; omega)]; rfl)
   go_wp2_with fail
   go_ret
   exact ⟨cO HE.out, HB.out⟩
end Go.Proofs.YtlkfakdghjaoaaaGreatDoor
namespace Go.Proofs.YtlkfakdghjaoaaaGreatDoor
def AllMeet (g : List Bl) (P : List Nat) (m : Nat) : Prop := Rch g [] m ∧ ∀ x, (∀ p ∈ P, Dm g x p) ↔ Dm g x m
theorem AllMeet.one {g : List Bl} {p : Nat} (h : Rch g [] p) : AllMeet g [p] p := ⟨h, fun x => by simp⟩
theorem AllMeet.more {g : List Bl} {P : List Nat} {m p m' : Nat} (h : AllMeet g P m) (k : AG g m p m') : AllMeet g (P ++ [p]) m' := by
 refine ⟨k.1.live h.1, fun x => ?_⟩
 constructor
 ·intro hx
  exact k.2.2 x ((h.2 x).1 fun q hq => hx q (List.mem_append_left _ hq)) (hx p (by simp))
 ·intro hx q hq
  rcases List.mem_append.1 hq with hq | hq
  ·exact (h.2 x).2 (hx.trans k.1) q hq
  ·rw [List.mem_singleton.1 hq]; exact hx.trans k.2.1
end Go.Proofs.YtlkfakdghjaoaaaGreatDoor
