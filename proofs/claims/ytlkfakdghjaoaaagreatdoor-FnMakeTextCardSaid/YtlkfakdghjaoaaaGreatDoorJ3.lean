import Derived.Test.YtlkfakdghjaoaaaGreatDoorJ2
import Derived.ProofKit
import Derived.ChangeSlices
import Derived.Deep.SlicePairs
import Derived.Test.YtlkfakdghjaoaaaGreatDoorJ1
import Derived.Test.YtlkfakdghjaoaaaGreatDoorIter
import Derived.IntWalk
import Derived.Laws.BytesArg
import Derived.Lib.QuietBelow
set_option maxRecDepth 100000
namespace Go.Proofs.YtlkfakdghjaoaaaGreatDoor
open Go.ChangeShapes Go.WideShapes Go.ChangeAt Go.RowKit Go.Deep Go.Sort
theorem cellsByte : Tryz.prog.cellsOf 5 = 1 := by kernel_rfl
theorem x4 {H : Type} {enc : TypeId × Value → H} {W : World} {r : Reach} {b0 : Nat} {v : Value} {d : DataW H} {ps : List MemPlace}
  (hval : Value.okWide Tryz.prog W r b0 22 v) (h : DataW.Trod enc Tryz.prog W 0 (fun _ => true) true 22 v d ps) (hlt : ∀ x ∈ ps, x.block < W.heap.size) :
  ∃ (A : Option Addr) (len cap : Nat), v = .slice A len cap ∧ len ≤ cap ∧ cap ≤ 9223372036854775807 ∧ Bytes W A len := by
 obtain ⟨a0, len, cap, rfl⟩ := okWide_slice Tryz.underlying22 hval
 obtain ⟨fuel, hf⟩ := h
 rcases open_ints Tryz.underlying22 Tryz.underlying5 cellsByte hf with ⟨hcs, _⟩ | ⟨a, len', cap', zs, hcs, _, hl, hm, hz, hx, hc, hw⟩
 ·simp [Value.cells] at hcs
  obtain ⟨rfl, rfl, rfl⟩ := hcs
  exact ⟨none, 0, 0, rfl, Nat.le_refl _, Nat.zero_le _, fun h => absurd h (by omega)⟩
 ·simp [Value.cells] at hcs
  obtain ⟨rfl, rfl, rfl⟩ := hcs
  simp only [if_true] at hz
  refine ⟨some a, len, cap, rfl, hl, by simpa [maxLen] using hm, fun hn => ?_⟩
  have h0 := hc 0 (by omega)
  obtain ⟨b, off, spot⟩ := a
  have hspot : spot = none := by simpa [Addr.add] using World.cell?_spot h0
  subst hspot
  have hbW : b < W.heap.size := by
   have hx2 := (Prod.mk.inj hx).2
   have : MemPlace.cell b off ∈ ps := by
    rw [hx2]
    exact MemPlace.mem_row.2 ⟨0, by omega, by simp⟩
   exact hlt _ this
  refine ⟨b, off, rfl, hbW, fun k hk => ?_⟩
  have hck := hc k (by omega)
  rw [add_plain] at hck
  have hwf := hw (zs.getD k 0) (by rw [List.getD_eq_getElem?_getD, List.getElem?_eq_getElem (by omega)]; exact List.getElem_mem _)
  have hb : IntKind.u8.min ≤ zs.getD k 0 ∧ zs.getD k 0 ≤ IntKind.u8.max := by simpa [Lit.wf] using hwf
  have e0 : IntKind.u8.min = 0 := rfl
  have e1 : IntKind.u8.max = 255 := rfl
  rw [e0, e1] at hb
  refine ⟨UInt8.ofNat (zs.getD k 0).toNat, hck.trans ?_⟩
  congr 2
  rw [UInt8.toNat_ofNat']
  omega
def mS (s c : ByteArray) : Bool := (List.range s.size).any fun i => decide (s.extract i (i + 1) = c)
theorem tO {s c : ByteArray} {i : Nat} (hi : i < s.size) (h : s.extract i (i + 1) = c) : mS s c = true := by
 unfold mS; rw [List.any_eq_true]; exact ⟨i, List.mem_range.2 hi, by simpa using h⟩
theorem Dp {s c : ByteArray} (h : ∀ i, i < s.size → s.extract i (i + 1) ≠ c) : mS s c = false := by
 unfold mS; rw [List.any_eq_false]; intro i hi; simpa using h i (List.mem_range.1 hi)
theorem zw (s c : ByteArray) (w : World) (hs : s.size ≤ 1048576) :
  Calls Tryz.prog 19 #[.string s, .string c] w fun e w' => e = .returned (.bool (mS s c)) ∧ w = w' := by
 go_enter Tryz.func19, Tryz.ntmps19
 go_wp2
 go_loop [8] (fun i => ∃ k : Nat, k ≤ s.size ∧ i = .int .i64 k ∧ Hid (∀ j, j < k → s.extract j (j + 1) ≠ c)) (fun i => s.size - (intOf i).toNat)
 case atStart => exact ⟨0, Nat.zero_le _, rfl, fun j h => absurd h (by omega)⟩
 case round =>
  obtain ⟨k, hk, rfl, HK⟩ := hrel
  by_cases hlt : k < s.size
  ·have hk1 : k + 1 ≤ s.size := by omega
   by_cases hq : ((s.extract k (k + 1)).toList == c.toList) = true
   ·have HY := F7 (tO hlt (cO.1 hq))
    go_wp2
    go_ret
    exact ⟨aK HY.out.symm, rfl⟩
   ·have hq' : ((s.extract k (k + 1)).toList == c.toList) = false := by simpa using hq
    have HNE := F7 (show s.extract k (k + 1) ≠ c from fun e => hq (cO.2 e))
    clear hq
    go_wp2
    go_round
    case rel =>
     refine ⟨k + 1, by omega, by go_num, fun j hj => ?_⟩
     rcases Nat.lt_succ_iff_lt_or_eq.1 hj with hj | rfl
     ·exact HK.out j hj
     ·exact HNE.out
    case measure => simp [intOf]; omega
  ·have HN := F7 (Dp (s := s) (c := c) fun i hi => HK.out i (by omega))
   go_wp2
   go_ret
   exact ⟨aK HN.out.symm, rfl⟩
theorem Bytes.below {w w' : World} {A : Option Addr} {len : Nat} (h : Bytes w A len) (hb : Below w.heap.size w w') : Bytes w' A len := by
 intro hn
 obtain ⟨b, off, rfl, hlt, hc⟩ := h hn
 have := hb.size
 exact ⟨b, off, rfl, by omega, fun k hk => by obtain ⟨c, e⟩ := hc k hk; exact ⟨c, (hb.cell (p := ⟨b, off + k, none⟩) hlt).trans e⟩⟩
end Go.Proofs.YtlkfakdghjaoaaaGreatDoor

set_option maxHeartbeats 800000
namespace Go.Proofs.YtlkfakdghjaoaaaGreatDoor
open Go.RowKit Go.Sort
theorem ru {a b : Value} (h : a = b) : Ending.returned a = .returned b := by rw [h]
abbrev nb (NB i : Nat) : Nat := NB + 2 + 2 * i
abbrev ag (NB i : Nat) : Value := .pointer (some ⟨nb NB i, 0, none⟩)
def aY (g : List Bl) (s : ByteArray) : Option Nat := (List.range g.length).find? fun i => decide (aC g i = s)
theorem lZ {g : List Bl} {s : ByteArray} {k : Nat} (h : k < g.length) (hk : g[k].1 = s) (hb : ∀ j (h' : j < g.length), j < k → g[j].1 ≠ s) : aY g s = some k := by
 unfold aY
 rw [List.find?_range_eq_some]
 refine ⟨by rw [am h, hk]; simp, by simpa using h, fun j hj => ?_⟩
 rw [am (by omega)]
 have := hb j (by omega) hj
 simpa using this
theorem qq {g : List Bl} {s : ByteArray} (hb : ∀ j (h' : j < g.length), g[j].1 ≠ s) : aY g s = none := by
 unfold aY
 rw [List.find?_eq_none]
 intro j hj
 have hj' := List.mem_range.1 hj
 rw [am hj']
 simpa using hb j hj'
def gH (NB : Nat) : Option Nat → Value
 | some i => ag NB i
 | none => .pointer none
structure Nodes (w : World) (NB : Nat) (g : List Bl) (E : Nat → Value) : Prop where
 row : ∃ cs, Blk w NB 95 cs ∧ cs.size = g.length ∧ ∀ i, i < g.length → cs[i]? = some (ag NB i)
 node : ∀ i (h : i < g.length), Blk w (nb NB i) 101 #[.int .i64 i, .string g[i].1, E i]
theorem Nodes.lt {w : World} {NB : Nat} {g : List Bl} {E : Nat → Value} (h : Nodes w NB g E) : NB < w.heap.size := by
 obtain ⟨cs, hb, _⟩ := h.row; exact hb.lt
theorem Nodes.keep {w w' : World} {NB : Nat} {g : List Bl} {E : Nat → Value} (h : Nodes w NB g E) (hk : ∀ b, b < w.heap.size → w'.heap[b]? = w.heap[b]?) : Nodes w' NB g E :=
 ⟨by obtain ⟨cs, hb, hr⟩ := h.row; exact ⟨cs, (hk _ hb.lt).trans hb, hr⟩, fun i hi => (hk _ (h.node i hi).lt).trans (h.node i hi)⟩
theorem Nodes.below {w w' : World} {NB : Nat} {g : List Bl} {E : Nat → Value} (h : Nodes w NB g E) (hb : Below w.heap.size w w') : Nodes w' NB g E :=
 h.keep fun b hlt => hb.block b hlt
theorem Nodes.ptr {w : World} {NB : Nat} {g : List Bl} {E : Nat → Value} (h : Nodes w NB g E) {i : Nat} (hi : i < g.length) : w.cell? ⟨NB, i, none⟩ = some (ag NB i) := by
 obtain ⟨cs, hb, _, hr⟩ := h.row
 rw [hb.cell]; exact hr i hi
theorem nA (NB : Nat) (g : List Bl) (E : Nat → Value) (cap : Nat) (s : ByteArray) (w : World) (hN : Nodes w NB g E) (hn : g.length ≤ 26) :
  Calls Tryz.prog 72 #[.slice (some ⟨NB, 0, none⟩) g.length cap, .string s] w fun e w' => e = .returned (gH NB (aY g s)) ∧ w = w' := by
 go_enter Tryz.func72, Tryz.ntmps72
 go_wp2
 go_loop [9] (fun i => ∃ k : Nat, k ≤ g.length ∧ i = .int .i64 k ∧ Hid (∀ j (h : j < g.length), j < k → g[j].1 ≠ s)) (fun i => g.length - (intOf i).toNat)
 case atStart => exact ⟨0, Nat.zero_le _, rfl, fun j _ h => absurd h (by omega)⟩
 case round =>
  obtain ⟨k, hk, rfl, HK⟩ := hrel
  by_cases hlt : k < g.length
  ·have c0 := hN.ptr hlt
   have c1 := (hN.node k hlt).cell 1
   obtain ⟨t, ht⟩ : ∃ t, t = g[k].1 := ⟨_, rfl⟩
   rw [← ht] at c1
   have HT := F7 ht
   clear ht
   by_cases hq : (t.toList == s.toList) = true
   ·have HP := F7 (show aY g s = some k from lZ hlt (HT.out ▸ cO.1 hq) HK.out)
    go_wp2
    go_ret
    exact ⟨by rw [HP.out]; rfl, rfl⟩
   ·have hq' : (t.toList == s.toList) = false := by simpa using hq
    have HNE := F7 (show g[k].1 ≠ s from fun e => hq (cO.2 (HT.out.trans e)))
    clear hq
    go_wp2
    go_round
    case rel =>
     refine ⟨k + 1, by omega, by go_num, fun j h hj => ?_⟩
     rcases Nat.lt_succ_iff_lt_or_eq.1 hj with hj | rfl
     ·exact HK.out j h hj
     ·exact HNE.out
    case measure => simp [intOf]; omega
  ·have HP := F7 (show aY g s = none from qq fun j h => HK.out j h (by omega))
   go_wp2
   go_ret
   exact ⟨by rw [HP.out]; rfl, rfl⟩
def gI (NB : Nat) (g : List Bl) (next : ByteArray) : Value :=
 if next.size = 1 then .iface 191 (.agg #[gH NB (aY g next)])
 else if next.size = 2 then .iface 193 (.agg #[gH NB (aY g (next.extract 0 1)), gH NB (aY g (next.extract 1 next.size))])
 else .iface 230 (.agg #[])
theorem yR (NB : Nat) (g : List Bl) (next : ByteArray) : ∃ T v, gI NB g next = .iface T v := by
 unfold gI
 split
 ·exact ⟨_, _, rfl⟩
 ·split
  ·exact ⟨_, _, rfl⟩
  ·exact ⟨_, _, rfl⟩
theorem iS (NB : Nat) (o : Option Nat) : ∃ u, gH NB o = .pointer u := by
 cases o with
 | none => exact ⟨none, rfl⟩
 | some i => exact ⟨_, rfl⟩
theorem yS (NB : Nat) (g : List Bl) (E : Nat → Value) (cap : Nat) (s : ByteArray) (w : World) (hN : Nodes w NB g E) (hn : g.length ≤ 26) :
  Calls Tryz.prog 119 #[.slice (some ⟨NB, 0, none⟩) g.length cap, .string s] w fun e w' => e = .returned (gI NB g s) ∧ ∃ n, w' = w.drewN n := by
 by_cases h1 : s.size = 1
 ·have HE := F7 (show gI NB g s = .iface 191 (.agg #[gH NB (aY g s)]) by unfold gI; rw [if_pos h1])
  obtain ⟨u, hu⟩ := iS NB (aY g s)
  rw [hu] at HE
  have HU := F7 hu
  have g1 : ((s.size : Int) == 1) = true := by rw [h1]; rfl
  clear h1 hu
  go_enter Tryz.func119, Tryz.ntmps119
  go_wp2_with fail
  refine (nA NB g E cap s w hN hn).mono ?_
  rintro e w' ⟨rfl, rfl⟩
  rw [HU.out]
  go_wp2
  go_ret
  exact ⟨ru HE.out.symm, 0, rfl⟩
 ·by_cases h2 : s.size = 2
  ·have HE := F7 (show gI NB g s = .iface 193 (.agg #[gH NB (aY g (s.extract 0 1)), gH NB (aY g (s.extract 1 s.size))]) by unfold gI; rw [if_neg h1, if_pos h2])
   obtain ⟨u, hu⟩ := iS NB (aY g (s.extract 0 1))
   obtain ⟨v, hv⟩ := iS NB (aY g (s.extract 1 s.size))
   rw [hu, hv] at HE
   have cU : ∀ n, Calls Tryz.prog 72 #[.slice (some ⟨NB, 0, none⟩) g.length cap, .string (s.extract 0 1)] (w.drewN n) fun e w'' => e = .returned (.pointer u) ∧ ∃ m, w'' = w.drewN m := fun n => by
    have := nA NB g E cap (s.extract 0 1) (w.drewN n) (hN.below (ab w n)) hn
    rw [hu] at this
    exact Calls.quiet_of_same (this.mono fun _ _ ⟨a, b⟩ => ⟨a, b.symm⟩)
   have cV : ∀ n, Calls Tryz.prog 72 #[.slice (some ⟨NB, 0, none⟩) g.length cap, .string (s.extract 1 s.size)] (w.drewN n) fun e w'' => e = .returned (.pointer v) ∧ ∃ m, w'' = w.drewN m := fun n => by
    have := nA NB g E cap (s.extract 1 s.size) (w.drewN n) (hN.below (ab w n)) hn
    rw [hv] at this
    exact Calls.quiet_of_same (this.mono fun _ _ ⟨a, b⟩ => ⟨a, b.symm⟩)
   have g1 : ((s.size : Int) == 1) = false := by simp; omega
   have g2 : ((s.size : Int) == 2) = true := by rw [h2]; rfl
   have l1 : 1 ≤ s.size := by omega
   have l2 : (1 : Int) ≤ s.size := by omega
   clear h1 h2 hu hv
   go_enter Tryz.func119, Tryz.ntmps119
   go_wp2_with fail
   go_quiet (first | with_reducible exact cU _ | with_reducible exact cV _)
   go_wp2
   go_ret
   exact ⟨ru HE.out.symm, nq, rfl⟩
  ·have HE := F7 (show gI NB g s = .iface 230 (.agg #[]) by unfold gI; rw [if_neg h1, if_neg h2])
   have g1 : ((s.size : Int) == 1) = false := by simp; omega
   have g2 : ((s.size : Int) == 2) = false := by simp; omega
   clear h1 h2
   go_enter Tryz.func119, Tryz.ntmps119
   go_wp2
   go_ret
   exact ⟨ru HE.out.symm, 0, rfl⟩
def k7 (g : List Bl) (k : Nat) : ByteArray := (g.map (·.2)).getD k ⟨#[]⟩
theorem gJ {g : List Bl} {k : Nat} (h : k < g.length) : k7 g k = g[k].2 := by
 unfold k7
 rw [List.getD_eq_getElem?_getD, List.getElem?_map, List.getElem?_eq_getElem h]; rfl
def ends (NB : Nat) (g : List Bl) (i : Nat) : Value := gI NB g (k7 g i)
structure Part (w : World) (NB : Nat) (g : List Bl) (k : Nat) : Prop where
 row : ∃ cs, Blk w NB 95 cs ∧ cs.size = g.length ∧ ∀ i, i < k → cs[i]? = some (ag NB i)
 node : ∀ i (h : i < g.length), i < k → Blk w (nb NB i) 101 #[.int .i64 i, .string g[i].1, .nilIface]
 size : w.heap.size = NB + 1 + 2 * k
theorem Part.step {w : World} {NB : Nat} {g : List Bl} {k : Nat} {s : ByteArray} {o : Obj} (h : Part w NB g k) (hk : k < g.length) (hs : g[k].1 = s) :
  Part (((w.setCell ⟨NB, k, none⟩ (.pointer (some ⟨w.heap.size + 1, 0, none⟩))).alloc o).alloc (.cells #[.int .i64 k, .string s, .nilIface] 101)) NB g (k + 1) := by
 obtain ⟨cs, hb, hsz, hr⟩ := h.row
 have hz := h.size
 have hnb : w.heap.size + 1 = nb NB k := by unfold nb; omega
 rw [hnb]
 have hsz2 : (w.setCell ⟨NB, k, none⟩ (ag NB k)).heap.size = w.heap.size := by simp
 refine ⟨⟨_, ((hb.set_ k _).alloc _).alloc _, by simpa using hsz, fun i hi => ?_⟩, fun i hi hik => ?_, ?_⟩
 ·rw [Array.getElem?_setIfInBounds]
  by_cases e : k = i
  ·subst e; rw [if_pos rfl, if_pos (by omega)]
  ·rw [if_neg e]; exact hr i (by omega)
 ·by_cases e : i = k
  ·subst e
   have h2 := Blk.new ((w.setCell ⟨NB, i, none⟩ (ag NB i)).alloc o) 101 #[.int .i64 (i : Int), .string s, .nilIface]
   have h3 : ((w.setCell ⟨NB, i, none⟩ (ag NB i)).alloc o).heap.size = nb NB i := by unfold nb; simp; omega
   rw [h3] at h2
   rw [hs]; exact h2
  ·have h4 : Blk (w.setCell ⟨NB, k, none⟩ (ag NB k)) (nb NB i) 101 #[.int .i64 i, .string g[i].1, .nilIface] :=
    (Below.heap_setCell _ _ _ _ (by show nb NB i ≠ NB; unfold nb; omega)).trans (h.node i hi (by omega))
   exact (h4.alloc _).alloc _
 ·simp; omega
def dm (NB : Nat) (g : List Bl) (k i : Nat) : Value := if i < k then ends NB g i else .nilIface
theorem Part.nodes {w : World} {NB : Nat} {g : List Bl} (h : Part w NB g g.length) : Nodes w NB g (dm NB g 0) :=
 ⟨h.row, fun i hi => by simpa [dm] using h.node i hi hi⟩
theorem Nodes.alloc {w : World} {NB : Nat} {g : List Bl} {E : Nat → Value} (h : Nodes w NB g E) (o : Obj) : Nodes (w.alloc o) NB g E :=
 h.keep fun b hlt => Below.heap_alloc w o b hlt
theorem Nodes.set_ {w : World} {NB : Nat} {g : List Bl} {k : Nat} {t : ByteArray} (h : Nodes w NB g (dm NB g k)) (hk : k < g.length) (ht : g[k].2 = t) :
  Nodes (w.setCell ⟨nb NB k, 2, none⟩ (gI NB g t)) NB g (dm NB g (k + 1)) := by
 obtain ⟨cs, hb, hr⟩ := h.row
 refine ⟨⟨cs, (Below.heap_setCell _ _ _ _ (by show NB ≠ nb NB k; unfold nb; omega)).trans hb, hr⟩, fun i hi => ?_⟩
 by_cases e : i = k
 ·subst e
  have h2 := (h.node i hi).set_ 2 (gI NB g t)
  have e1 : dm NB g (i + 1) i = gI NB g t := by unfold dm ends; rw [if_pos (by omega), gJ hi, ht]
  rw [e1]; exact h2
 ·have e1 : dm NB g (k + 1) i = dm NB g k i := by
   unfold dm
   by_cases hlt : i < k
   ·rw [if_pos hlt, if_pos (by omega)]
   ·rw [if_neg hlt, if_neg (by omega)]
  rw [e1]
  exact (Below.heap_setCell _ _ _ _ (by show nb NB i ≠ nb NB k; unfold nb; omega)).trans (h.node i hi)
theorem Nodes.done {w : World} {NB : Nat} {g : List Bl} (h : Nodes w NB g (dm NB g g.length)) : Nodes w NB g (ends NB g) :=
 ⟨h.row, fun i hi => by have := h.node i hi; unfold dm at this; rwa [if_pos hi] at this⟩
theorem gj : (Tryz.prog.info? 95).map (fun i => (i.zero, i.size, i.bytes)) = some (some (.pointer none), 1, 8) := by kernel_rfl
def AC (w : World) (g : List Bl) (e : Ending) (w' : World) : Prop :=
 ∃ NB, w.heap.size ≤ NB ∧ e = .returned (.tuple #[.slice (some ⟨NB, 0, none⟩) g.length g.length, .bool true]) ∧ Nodes w' NB g (ends NB g) ∧ Below w.heap.size w w'
theorem qr (A : Option Addr) (cap : Nat) (g : List Bl) (w : World) (hg : Gr w A g) (hn : g.length + aM g ≤ 1048576) (hv : aa g = false) :
  Calls Tryz.prog 71 #[.slice A g.length cap] w fun e w' => e = .returned (.tuple #[.slice none 0 0, .bool false]) ∧ Below w.heap.size w w' := by
 have hc := ge A cap g w hg hn
 rw [hv] at hc
 have HC := F7 hc
 clear hc hv
 go_enter Tryz.func71, Tryz.ntmps71
 go_wp2_with fail
 refine HC.out.mono ?_
 rintro e w1 ⟨rfl, b1⟩
 go_wp2_with fail
 go_ret2
 exact ⟨rfl, b1⟩
theorem kx (A : Option Addr) (cap : Nat) (g : List Bl) (w : World) (hg : Gr w A g) (hn : g.length + aM g ≤ 1048576) (hv : aa g = true) :
  Calls Tryz.prog 71 #[.slice A g.length cap] w (AC w g) := by
 have hc := ge A cap g w hg hn
 rw [hv] at hc
 have HC := F7 hc
 have h26 := (ak.1 hv).2.1
 have hmk := run_make_row' (P := Tryz.prog) 58 95 (.pointer none) 8 Tryz.underlying58 gj rfl .i64 .i64 g.length (by omega) (by omega)
 clear hc hv
 go_enter Tryz.func71, Tryz.ntmps71
 go_wp2_with fail
 refine HC.out.mono ?_
 rintro e w1 ⟨rfl, b1⟩
 go_wp2_with fail
 clear hmk
 obtain ⟨NB, hNB⟩ : ∃ NB, NB = w1.heap.size := ⟨_, rfl⟩
 have HNB : Hid (w.heap.size ≤ NB) := hNB ▸ b1.size
 have hp0 : Part (w1.alloc (.cells (madeCells #[.pointer none] g.length) 95)) NB g 0 := by
  rw [hNB]
  exact ⟨⟨_, Blk.new _ _ _, size_madeCells _ _, fun i hi => absurd hi (by omega)⟩, fun i _ hi => absurd hi (by omega), by simp⟩
 have HP0 := F7 hp0
 have HBE := F7 (b1.alloc b1.size (.cells (madeCells #[.pointer none] g.length) 95))
 rw [← hNB] at ⊢
 clear hNB b1 hp0
 go_loopw [17] (fun i wr => ∃ k : Nat, k ≤ g.length ∧ i = .int .i64 k ∧ Part wr NB g k ∧ Below w.heap.size w wr) (fun i _ => g.length - (intOf i).toNat)
 case atStart => exact ⟨0, Nat.zero_le _, rfl, HP0.out, HBE.out⟩
 case round =>
  obtain ⟨k, hk, rfl, hP, hB⟩ := hrel
  have HP := F7 hP
  by_cases hlt : k < g.length
  ·obtain ⟨b, off, s, t, rfl, hb, hc0, hc1, he, he2⟩ := fF (hg.below hB) hlt
   have HS := F7 he
   obtain ⟨cs, hbk, hsz, _⟩ := hP.row
   have hlt2 := hbk.lt
   obtain ⟨v0, x0⟩ := hbk.some_cell (i := k) (by omega)
   have f0 := hbk.frozen k
   have hle := HNB.out
   clear he he2 hP hbk hsz
   go_wp2_with fail
   go_roundw
   case rel => exact ⟨k + 1, by omega, by go_num, HP.out.step hlt HS.out, ((hB.setCell (p := ⟨NB, k, none⟩) hle _).alloc (by simpa using hB.size) _).alloc (by have := hB.size; simp; omega) _⟩
   case measure => simp [intOf]; omega
  ·have hkk : k = g.length := by omega
   have HN2 : Hid (Nodes wr NB g (dm NB g 0)) := (hkk ▸ hP).nodes
   clear hP hkk
   go_wp2_with fail
   obtain ⟨wo, hwo⟩ : ∃ wo : World, wo = wr := ⟨_, rfl⟩
   rw [← hwo] at hB HN2 ⊢
   clear hwo HP
   go_loopw [33] (fun i wr => ∃ k : Nat, k ≤ g.length ∧ i = .int .i64 k ∧ Nodes wr NB g (dm NB g k) ∧ Below w.heap.size w wr) (fun i _ => g.length - (intOf i).toNat)
   case atStart => exact ⟨0, Nat.zero_le _, rfl, HN2.out, hB⟩
   case round =>
    obtain ⟨k, hk, rfl, hN, hB2⟩ := hrel
    by_cases hlt : k < g.length
    ·obtain ⟨b, off, s, t, rfl, hb, hc0, hc1, he, he2⟩ := fF (hg.below hB2) hlt
     have HT := F7 he2
     have hts := jh g k hlt
     rw [he, he2] at hts
     clear he he2
     have x0 := hN.ptr hlt
     have hblk := hN.node k hlt
     have l0 := hN.lt
     have l1 := hblk.lt
     obtain ⟨v2, x2⟩ := hblk.some_cell (i := 2) (by simp)
     have f2 := hblk.frozen 2
     obtain ⟨T, v, hTv⟩ := yR NB g t
     have HN := F7 hN
     have HTV := F7 hTv
     have HC2 : Hid (∀ n, Calls Tryz.prog 119 #[.slice (some ⟨NB, 0, none⟩) g.length g.length, .string t] ((wr.alloc (.cells #[.string s, .string t] 45)).drewN n) fun e w' => e = .returned (.iface T v) ∧ ∃ m, w' = ((wr.alloc (.cells #[.string s, .string t] 45)).drewN n).drewN m) := fun n => by
      rw [← hTv]
      exact yS NB g _ g.length t _ ((HN.out.alloc _).below (ab _ n)) h26
     clear hblk hN hTv
     go_wp2_with fail
     have HC3 : Hid (Calls Tryz.prog 119 #[.slice (some ⟨NB, 0, none⟩) g.length g.length, .string t] ((wr.alloc (.cells #[.string s, .string t] 45)).drew) fun e w' => e = .returned (.iface T v) ∧ ∃ m, w' = ((wr.alloc (.cells #[.string s, .string t] 45)).drew).drewN m) := HC2.out 1
     go_region_with (go_at_call 119; refine HC3.out.mono ?_; rintro e w' ⟨rfl, m, rfl⟩)
     all_goals
      go_wp2_with fail
      go_roundw
      case rel =>
       have hq := ((HN.out.alloc (.cells #[.string s, .string t] 45)).below (ab _ (1 + m))).set_ hlt HT.out
       rw [HTV.out] at hq
       exact ⟨k + 1, by omega, by go_num, hq, (ac (hB2.alloc hB2.size _) (ab _ (1 + m))).setCell (p := ⟨nb NB k, 2, none⟩) (by show w.heap.size ≤ nb NB k; have := HNB.out; unfold nb; omega) _⟩
      case measure => simp [intOf]; omega
    ·go_wp2_with fail
     exact bodyPost_ret (v := .tuple #[.slice (some ⟨NB, 0, none⟩) g.length g.length, .bool true]) (by simp [results, Tryz.results71, go_sem]) rfl ⟨NB, HNB.out, rfl, Nodes.done ((show k = g.length by omega) ▸ hN), hB2⟩
end Go.Proofs.YtlkfakdghjaoaaaGreatDoor
namespace Go.Proofs.YtlkfakdghjaoaaaGreatDoor
open Go.RowKit Go.Sort
def Pts (w : World) (A : Option Addr) (ns : List (Nat × ByteArray)) : Prop :=
 0 < ns.length → ∃ b off, A = some ⟨b, off, none⟩ ∧ b < w.heap.size ∧ ∀ k (h : k < ns.length), w.cell? ⟨b, off + k, none⟩ = some (.pointer (some ⟨ns[k].1, 0, none⟩)) ∧ ns[k].1 < w.heap.size ∧ w.cell? ⟨ns[k].1, 1, none⟩ = some (.string ns[k].2)
theorem Pts.below {w w' : World} {A : Option Addr} {ns : List (Nat × ByteArray)} (h : Pts w A ns) (hb : Below w.heap.size w w') : Pts w' A ns := by
 intro hn
 obtain ⟨b, off, rfl, hlt, hc⟩ := h hn
 have hs := hb.size
 exact ⟨b, off, rfl, by omega, fun k hk => ⟨(hb.cell (p := ⟨b, off + k, none⟩) hlt).trans (hc k hk).1, by have := (hc k hk).2.1; omega, (hb.cell (p := ⟨ns[k].1, 1, none⟩) (hc k hk).2.1).trans (hc k hk).2.2⟩⟩
def cr : List (Nat × ByteArray) → ByteArray
 | [] => ⟨#[]⟩
 | n :: ns => n.2 ++ cr ns
theorem mG (a b : List (Nat × ByteArray)) : cr (a ++ b) = cr a ++ cr b := by
 induction a with
 | nil => exact (fl _).symm
 | cons n a ih => simp only [List.cons_append, cr, ih, cM]
theorem wD (ns : List (Nat × ByteArray)) (k : Nat) (h : k < ns.length) : cr (ns.take (k + 1)) = cr (ns.take k) ++ ns[k].2 := by
 rw [List.take_succ_eq_append_getElem h, mG]; simp only [cr, ee]
theorem pq (ns : List (Nat × ByteArray)) (k : Nat) : (cr (ns.take k)).size ≤ (cr ns).size := by
 have := mG (ns.take k) (ns.drop k)
 rw [List.take_append_drop] at this
 rw [this, ByteArray.size_append]; omega
theorem uL (A : Option Addr) (cap : Nat) (ns : List (Nat × ByteArray)) (w : World) (hp : Pts w A ns) (hn : ns.length ≤ 1048576) (hj : (cr ns).size ≤ 1048576) :
  Calls Tryz.prog 60 #[.slice A ns.length cap] w fun e w' => e = .returned (.string (cr ns)) ∧ Below w.heap.size w w' := by
 have HB0 := F7 (zv w)
 go_enter Tryz.func60, Tryz.ntmps60
 go_wp2_with fail
 go_loopw [8] (fun i wr => ∃ k : Nat, k ≤ ns.length ∧ i = .int .i64 k ∧ Bd w.heap.size w.heap.size (Lib.strCells (cr (ns.take k))) wr ∧ Below w.heap.size w wr) (fun i _ => ns.length - (intOf i).toNat)
 case atStart => exact ⟨0, Nat.zero_le _, rfl, HB0.out, (Below.refl _ _).alloc (Nat.le_refl _) _⟩
 case round =>
  obtain ⟨k, hk, rfl, hbd, hB⟩ := hrel
  have HBD := F7 hbd
  clear hbd
  by_cases hlt : k < ns.length
  ·obtain ⟨b, off, rfl, hb, hc⟩ := (hp.below hB) (by omega)
   obtain ⟨x0, l0, x1⟩ := hc k hlt
   have hs1 := wD ns k hlt
   have hs2 := pq ns (k + 1)
   obtain ⟨q, s, hqs⟩ : ∃ q s, ns[k] = (q, s) := ⟨_, _, rfl⟩
   rw [hqs] at x0 l0 x1 hs1
   have x0' : wr.cell? ⟨b, off + k, none⟩ = some (.pointer (some ⟨q, 0, none⟩)) := x0
   have x1' : wr.cell? ⟨q, 1, none⟩ = some (.string s) := x1
   have hsz : (cr (ns.take k)).size + s.size ≤ 1048576 := by
    rw [hs1, ByteArray.size_append] at hs2
    have : ((q, s) : Nat × ByteArray).2.size = s.size := rfl
    omega
   have HS1 : Hid (cr (ns.take (k + 1)) = cr (ns.take k) ++ s) := hs1
   clear x0 x1 l0 hs1 hs2 hqs hc
   go_wp2_with fail
   refine (rO w.heap.size w.heap.size _ s _ HBD.out (by rw [Lib.strCells_length]; exact hsz) hB.size).mono ?_
   rintro e w1 ⟨rfl, hbd1, hb1⟩
   have HBD1 := F7 hbd1
   clear hbd1
   go_wp2_with fail
   go_roundw
   case rel => exact ⟨k + 1, by omega, by go_num, by rw [HS1.out, mR]; exact HBD1.out, hB.trans hb1⟩
   case measure => simp [intOf]; omega
  ·have HE := F7 (show cr (ns.take k) = cr ns by rw [List.take_of_length_le (by omega)])
   go_wp2_with fail
   refine (pM w.heap.size w.heap.size (cr ns) _ (HE.out ▸ HBD.out) hB.size).mono ?_
   rintro e w1 ⟨rfl, hb1⟩
   go_wp2_with fail
   go_ret
   exact ⟨rfl, hB.trans hb1⟩
end Go.Proofs.YtlkfakdghjaoaaaGreatDoor
namespace Go.Proofs.YtlkfakdghjaoaaaGreatDoor
open Go.RowKit Go.Sort
theorem uM {a a' : ByteArray} {b b' : Bool} (h1 : a = a') (h2 : b = b') : Ending.returned (.tuple #[.string a, .bool b]) = .returned (.tuple #[.string a', .bool b']) := by rw [h1, h2]
theorem AD (A : Option Addr) (cap : Nat) (w : World) :
  Calls Tryz.prog 60 #[.slice A 0 cap] w fun e w' => e = .returned (.string ⟨#[]⟩) ∧ Below w.heap.size w w' :=
 uL A cap [] w (fun h => absurd h (by simp)) (Nat.zero_le _) (Nat.zero_le _)
end Go.Proofs.YtlkfakdghjaoaaaGreatDoor
namespace Go.Proofs.YtlkfakdghjaoaaaGreatDoor
open Go.RowKit Go.Sort
theorem uN (w : World) : Calls Tryz.prog 295 #[.agg #[]] w fun e w' => e = .returned (.slice none 0 0) ∧ Below w.heap.size w w' := by
 go_enter Tryz.func295, Tryz.ntmps295
 go_wp2
 go_ret
 exact ⟨rfl, (Below.refl _ _).alloc (Nat.le_refl _) _⟩
theorem uO (u : Option Addr) (w : World) : Calls Tryz.prog 290 #[.agg #[.pointer u]] w fun e w' => e = .returned (.slice (some ⟨w.heap.size + 1, 0, none⟩) 1 1) ∧ Blk w' (w.heap.size + 1) 95 #[.pointer u] ∧ Below w.heap.size w w' := by
 go_enter Tryz.func290, Tryz.ntmps290
 go_wp2
 go_ret
 refine ⟨rfl, ?_, ((Below.refl _ _).alloc (Nat.le_refl _) _).alloc (by simp) _⟩
 have := Blk.new (w.alloc (.cells #[.pointer u] 191)) 95 #[.pointer u]
 simpa using this
theorem rv (u v : Option Addr) (w : World) : Calls Tryz.prog 291 #[.agg #[.pointer u, .pointer v]] w fun e w' => e = .returned (.slice (some ⟨w.heap.size + 1, 0, none⟩) 2 2) ∧ Blk w' (w.heap.size + 1) 95 #[.pointer u, .pointer v] ∧ Below w.heap.size w w' := by
 go_enter Tryz.func291, Tryz.ntmps291
 go_wp2
 go_ret
 refine ⟨rfl, ?_, ((Below.refl _ _).alloc (Nat.le_refl _) _).alloc (by simp) _⟩
 have := Blk.new (w.alloc (.cells #[.pointer u, .pointer v] 193)) 95 #[.pointer u, .pointer v]
 simpa using this
theorem su {g : List Bl} {c : UInt8} : c ∈ (names g).data.toList ↔ ∃ b ∈ g, c ∈ b.1.data.toList := by
 induction g with
 | nil => simp [names]
 | cons b g ih => rw [names, dl, List.mem_append, ih]; simp
theorem Cw {g : List Bl} {s : ByteArray} {i : Nat} (h : aY g s = some i) : ∃ h : i < g.length, g[i].1 = s := by
 unfold aY at h
 have h1 := List.find?_some h
 have h2 := List.mem_range.1 (List.mem_of_find?_eq_some h)
 rw [am h2] at h1
 exact ⟨h2, by simpa using h1⟩
theorem AE {g : List Bl} {s : ByteArray} {b : Bl} (hb : b ∈ g) (hs : b.1 = s) : ∃ i, aY g s = some i := by
 cases h : aY g s with
 | some i => exact ⟨i, rfl⟩
 | none =>
  obtain ⟨k, hk, rfl⟩ := List.getElem_of_mem hb
  unfold aY at h
  have := List.find?_eq_none.1 h k (List.mem_range.2 hk)
  rw [am hk, hs] at this
  simp at this
theorem bi {g : List Bl} (hv : aa g = true) {b : Bl} (hb : b ∈ g) : ∃ c, b.1 = ⟨#[c]⟩ ∧ aW c = true := by
 obtain ⟨k, hk, rfl⟩ := List.getElem_of_mem hb
 have := iy.1 (ak.1 hv).2.2.1 k hk
 unfold gP at this
 exact ox (Bool.and_eq_true_iff.1 this).1
theorem im {g : List Bl} (hv : aa g = true) {k : Nat} (hk : k < g.length) {j : Nat} (hj : j < g[k].2.size) :
  ∃ i, ∃ h : i < g.length, aY g ⟨#[g[k].2[j]'hj]⟩ = some i ∧ g[i].1 = ⟨#[g[k].2[j]'hj]⟩ := by
 have hn := dc.1 (eO.1 (ak.1 hv).2.2.2 k hk)
 have hm := eF.1 (hn.2.1 j hj)
 obtain ⟨b, hb, hcb⟩ := su.1 hm
 obtain ⟨c, hc, _⟩ := bi hv hb
 have hcc : c = g[k].2[j]'hj := by rw [hc] at hcb; have h4 : g[k].2[j]'hj = c := by simpa using hcb
                                   exact h4.symm
 obtain ⟨i, hi⟩ := AE hb (hcc ▸ hc)
 obtain ⟨h1, h2⟩ := Cw hi
 exact ⟨i, h1, hi, h2⟩
theorem uP {s : ByteArray} (h : s.size = 1) : s = ⟨#[s[0]'(by omega)]⟩ := by
 apply aV
 have hl : s.data.toList.length = 1 := by simpa using h
 obtain ⟨c, hc⟩ := List.length_eq_one_iff.1 hl
 have := aG s 0 (by omega)
 rw [hc] at this
 rw [hc]
 simpa using this
theorem fJ (s : ByteArray) {a b : Nat} (h : a < b) (hb : b ≤ s.size) (h1 : b - a = 1) : s.extract a b = ⟨#[s[a]'(by omega)]⟩ := by
 apply aV
 rw [← Lib.toList_data, Lib.extract_toList]
 have h2 := aG s a (by omega)
 have h3 : (s.data.toList.drop a)[0]? = some (s[a]'(by omega)) := by rw [List.getElem?_drop]; simpa using h2
 rw [h1]
 cases hd : s.data.toList.drop a with
 | nil => rw [hd] at h3; simp at h3
 | cons x l => rw [hd] at h3; simp at h3; simp [h3]
theorem Nodes.at_ {w : World} {NB : Nat} {g : List Bl} {E : Nat → Value} (h : Nodes w NB g E) {i : Nat} (hi : i < g.length) : nb NB i < w.heap.size ∧ w.cell? ⟨nb NB i, 1, none⟩ = some (.string g[i].1) := by
 refine ⟨(h.node i hi).lt, ?_⟩
 have := (h.node i hi).cell 1
 simpa using this
theorem AF (w : World) : (method 441 230 (.agg #[]) "loop.example/structuredjumps/impl.targets").run Tryz.prog w = .ok (295, .agg #[]) w := by kernel_rfl
theorem AG (u : Value) (w : World) : (method 441 191 (.agg #[u]) "loop.example/structuredjumps/impl.targets").run Tryz.prog w = .ok (290, .agg #[u]) w := by kernel_rfl
theorem wE (u v : Value) (w : World) : (method 441 193 (.agg #[u, v]) "loop.example/structuredjumps/impl.targets").run Tryz.prog w = .ok (291, .agg #[u, v]) w := by kernel_rfl
end Go.Proofs.YtlkfakdghjaoaaaGreatDoor
namespace Go.Proofs.YtlkfakdghjaoaaaGreatDoor
open Go.RowKit Go.Sort
def AH : Option Nat → Int
 | some i => i
 | none => -1
theorem sw (A : Option Addr) (cap : Nat) (g : List Bl) (s : ByteArray) (w : World) (hg : Gr w A g) (hn : g.length ≤ 1048576) :
  Calls Tryz.prog 76 #[.slice A g.length cap, .string s] w fun e w' => e = .returned (.int .i64 (AH (aY g s))) ∧ Below w.heap.size w w' := by
 go_enter Tryz.func76, Tryz.ntmps76
 go_wp2_with fail
 go_loopw [9] (fun i wr => ∃ k : Nat, k ≤ g.length ∧ i = .int .i64 k ∧ Hid (∀ j (h : j < g.length), j < k → g[j].1 ≠ s) ∧ Below w.heap.size w wr) (fun i _ => g.length - (intOf i).toNat)
 case atStart => exact ⟨0, Nat.zero_le _, rfl, fun j _ h => absurd h (by omega), Below.refl _ _⟩
 case round =>
  obtain ⟨k, hk, rfl, HK, hB⟩ := hrel
  by_cases hlt : k < g.length
  ·obtain ⟨b, off, t, t2, rfl, hb, hc0, hc1, he, he2⟩ := fF (hg.below hB) hlt
   have HE := F7 he
   clear he he2
   by_cases hq : (t.toList == s.toList) = true
   ·have HP := F7 (show aY g s = some k from lZ hlt (HE.out.trans (cO.1 hq)) HK.out)
    go_wp2_with fail
    go_ret
    exact ⟨cC (by rw [HP.out]; rfl), hB.alloc hB.size _⟩
   ·have hq' : (t.toList == s.toList) = false := by simpa using hq
    have HNE := F7 (show g[k].1 ≠ s from fun e => hq (cO.2 (HE.out.symm.trans e)))
    clear hq
    go_wp2_with fail
    go_roundw
    case rel =>
     refine ⟨k + 1, by omega, by go_num, fun j h hj => ?_, hB.alloc hB.size _⟩
     rcases Nat.lt_succ_iff_lt_or_eq.1 hj with hj | rfl
     ·exact HK.out j h hj
     ·exact HNE.out
    case measure => simp [intOf]; omega
  ·have HP := F7 (show aY g s = none from qq fun j h => HK.out j h (by omega))
   go_wp2_with fail
   go_ret
   exact ⟨cC (by rw [HP.out]; rfl), hB⟩
theorem fK (A : Option Addr) (cap : Nat) (g : List Bl) (s : ByteArray) (i : Nat) (w : World) (hg : Gr w A g) (hn : g.length ≤ 1048576) (hp : aY g s = some i) (hi : i < g.length) :
  Calls Tryz.prog 180 #[.slice A g.length cap, .string s] w fun e w' => e = .returned (.string g[i].2) ∧ Below w.heap.size w w' := by
 have hc := sw A cap g s w hg hn
 rw [hp] at hc
 have HC : Hid (Calls Tryz.prog 76 #[.slice A g.length cap, .string s] w fun e w' => e = .returned (.int .i64 (i : Int)) ∧ Below w.heap.size w w') := hc
 clear hc hp
 obtain ⟨b, off, t, t2, rfl, hb, hc0, hc1, he, he2⟩ := fF hg hi
 have HE := F7 he2
 clear he he2
 go_enter Tryz.func180, Tryz.ntmps180
 go_wp2_with fail
 refine HC.out.mono ?_
 rintro e w1 ⟨rfl, b1⟩
 have c1 := (b1.cell (p := ⟨b, off + i * 2 + 1, none⟩) hb).trans hc1
 go_wp2_with fail
 go_ret
 exact ⟨by rw [HE.out]; rfl, b1⟩
end Go.Proofs.YtlkfakdghjaoaaaGreatDoor

namespace Go.Proofs.YtlkfakdghjaoaaaGreatDoor
open Go.RowKit Go.Sort
def ROut.code : ROut → Nat
 | .next _ => 0
 | .leave _ _ => 0
 | .fin k _ _ => k
def ROut.trace : ROut → List UInt8
 | .next s => s.trace
 | .leave _ s => s.trace
 | .fin _ t _ => t
def ROut.num : ROut → Nat
 | .next s => s.num
 | .leave _ s => s.num
 | .fin _ _ m => m
def mH (c : List UInt8) : RSt := ⟨c, [], 0, 0⟩
theorem E4 (c : List UInt8) : (mH c).ok := ⟨Nat.zero_le _, Nat.zero_le _⟩
def RanT (s c : List UInt8) : Option ROut → Prop
 | some o => ∃ l, aP s l ∧ cg (tb c) = true ∧ Runs (.l l) (mH c) o
 | none => (∀ l, ¬ aP s l) ∨ cg (tb c) = false
theorem RanT.uniq {s c : List UInt8} {o o' : Option ROut} (h : RanT s c o) (h' : RanT s c o') : o = o' := by
 match o, o', h, h' with
 | none, none, _, _ => rfl
 | some _, some _, ⟨l, h1, _, h3⟩, ⟨l', h1', _, h3'⟩ =>
  have := fi h1 h1'
  subst this
  rw [h3.uniq h3']
 | some _, none, ⟨l, h1, h2, _⟩, h' =>
  rcases h' with h' | h'
  ·exact absurd h1 (h' l)
  ·rw [h2] at h'; cases h'
 | none, some _, h, ⟨l, h1, h2, _⟩ =>
  rcases h with h | h
  ·exact absurd h1 (h l)
  ·rw [h2] at h; cases h
def FT : Option ROut → Bool
 | some o => decide (o.code = 2) && decide (o.trace.length < 60)
 | none => false
end Go.Proofs.YtlkfakdghjaoaaaGreatDoor

set_option maxRecDepth 100000
set_option maxHeartbeats 1600000
namespace Go.Proofs.YtlkfakdghjaoaaaGreatDoor
open Go.RowKit Go.Sort
def qI : It → UInt8
 | .blk _ => 88
 | .ask .. => 63
 | .stop => 46
 | .frame b _ => et b
 | .leave _ => 94
 | .set _ => 61
 | .pick _ => 35
def qJ : It → List UInt8
 | .blk c => [c]
 | .ask c _ _ => [c]
 | _ => []
def vq : It → Nat
 | .leave n => n
 | .set n => n
 | _ => 0
def ci : It → List (List It)
 | .ask _ l r => [l, r]
 | .frame _ l => [l]
 | .pick bs => bs
 | _ => []
def fY (i : It) (vb : Value) : List Value := [.int .u8 (qI i).toNat, .string (tb (qJ i)), .int .i64 (vq i), vb]
def Reads4 (w : World) (P : Nat → Prop) (v : Value) (n : Nat) (vs : List Value) : Prop :=
 ∃ A cap, v = .slice A n cap ∧ vs.length = n * 4 ∧ (0 < n → ∃ b off, A = some ⟨b, off, none⟩ ∧ b < w.heap.size ∧ P b ∧ ∀ k (h : k < vs.length), w.cell? ⟨b, off + k, none⟩ = some vs[k])
mutual
def MBodAt (w : World) (P : Nat → Prop) : It → Value → Prop
 | .blk _, v => Reads w P v []
 | .ask _ l r, v => ∃ x y xs ys, Reads w P v [x, y] ∧ Reads4 w P x l.length xs ∧ MAllAt w P l xs ∧ Reads4 w P y r.length ys ∧ MAllAt w P r ys
 | .stop, v => Reads w P v []
 | .frame _ l, v => ∃ x xs, Reads w P v [x] ∧ Reads4 w P x l.length xs ∧ MAllAt w P l xs
 | .leave _, v => Reads w P v []
 | .set _, v => Reads w P v []
 | .pick bs, v => ∃ xs, Reads w P v xs ∧ MAllRows w P bs xs
def MAllAt (w : World) (P : Nat → Prop) : List It → List Value → Prop
 | [], vs => vs = []
 | i :: l, vs => ∃ vb t, vs = fY i vb ++ t ∧ MBodAt w P i vb ∧ MAllAt w P l t
def MAllRows (w : World) (P : Nat → Prop) : List (List It) → List Value → Prop
 | [], vs => vs = []
 | b :: bs, vs => ∃ v t xs, vs = v :: t ∧ Reads4 w P v b.length xs ∧ MAllAt w P b xs ∧ MAllRows w P bs t
end
def MRowAt (w : World) (P : Nat → Prop) (l : List It) (v : Value) : Prop := ∃ xs, Reads4 w P v l.length xs ∧ MAllAt w P l xs
def MRowsAt (w : World) (P : Nat → Prop) (bs : List (List It)) (v : Value) : Prop := ∃ xs, Reads w P v xs ∧ MAllRows w P bs xs
theorem vt {w : World} {P : Nat → Prop} {i : It} {v : Value} : MBodAt w P i v ↔ MRowsAt w P (ci i) v := by
 cases i with
 | ask c l r =>
  rw [MBodAt]
  constructor
  ·rintro ⟨x, y, xs, ys, h1, h2, h3, h4, h5⟩
   refine ⟨[x, y], h1, ?_⟩
   show MAllRows w P [l, r] [x, y]
   rw [MAllRows]
   refine ⟨x, [y], xs, rfl, h2, h3, ?_⟩
   rw [MAllRows]
   refine ⟨y, [], ys, rfl, h4, h5, ?_⟩
   rw [MAllRows]
  ·rintro ⟨vs, h1, h2⟩
   change MAllRows w P [l, r] vs at h2
   rw [MAllRows] at h2
   obtain ⟨x, t, xs, rfl, h3, h4, h5⟩ := h2
   rw [MAllRows] at h5
   obtain ⟨y, u, ys, rfl, h6, h7, h8⟩ := h5
   rw [MAllRows] at h8
   subst h8
   exact ⟨x, y, xs, ys, h1, h3, h4, h6, h7⟩
 | frame b l =>
  rw [MBodAt]
  constructor
  ·rintro ⟨x, xs, h1, h2, h3⟩
   refine ⟨[x], h1, ?_⟩
   show MAllRows w P [l] [x]
   rw [MAllRows]
   refine ⟨x, [], xs, rfl, h2, h3, ?_⟩
   rw [MAllRows]
  ·rintro ⟨vs, h1, h2⟩
   change MAllRows w P [l] vs at h2
   rw [MAllRows] at h2
   obtain ⟨x, t, xs, rfl, h3, h4, h5⟩ := h2
   rw [MAllRows] at h5
   subst h5
   exact ⟨x, xs, h1, h3, h4⟩
 | pick bs => rw [MBodAt]; exact Iff.rfl
 | _ =>
  rw [MBodAt]
  constructor
  ·intro h
   refine ⟨[], h, ?_⟩
   show MAllRows w P [] []
   rw [MAllRows]
  ·rintro ⟨vs, h1, h2⟩
   change MAllRows w P [] vs at h2
   rw [MAllRows] at h2
   subst h2
   exact h1
theorem Reads4.stay {w w' : World} {P P' : Nat → Prop} {v : Value} {n : Nat} {vs : List Value} (h : Reads4 w P v n vs) (k : Stay w P w' P') : Reads4 w' P' v n vs := by
 obtain ⟨A, cap, e, hl, hc⟩ := h
 refine ⟨A, cap, e, hl, fun hpos => ?_⟩
 obtain ⟨b, off, e2, hb, hp, hcell⟩ := hc hpos
 obtain ⟨hp', hs⟩ := k.same b hb hp
 exact ⟨b, off, e2, Nat.lt_of_lt_of_le hb k.size, hp', fun j hj => (eM hs _).trans (hcell j hj)⟩
mutual
theorem MBodAt.stay {w w' : World} {P P' : Nat → Prop} (k : Stay w P w' P') : ∀ (i : It) (v : Value), MBodAt w P i v → MBodAt w' P' i v
 | .blk c, v, h => by rw [MBodAt] at h ⊢; exact h.stay k
 | .ask c l r, v, h => by
  rw [MBodAt] at h ⊢
  obtain ⟨x, y, xs, ys, h1, h2, h3, h4, h5⟩ := h
  exact ⟨x, y, xs, ys, h1.stay k, h2.stay k, MAllAt.stay k l xs h3, h4.stay k, MAllAt.stay k r ys h5⟩
 | .stop, v, h => by rw [MBodAt] at h ⊢; exact h.stay k
 | .frame b l, v, h => by
  rw [MBodAt] at h ⊢
  obtain ⟨x, xs, h1, h2, h3⟩ := h
  exact ⟨x, xs, h1.stay k, h2.stay k, MAllAt.stay k l xs h3⟩
 | .leave n, v, h => by rw [MBodAt] at h ⊢; exact h.stay k
 | .set n, v, h => by rw [MBodAt] at h ⊢; exact h.stay k
 | .pick bs, v, h => by
  rw [MBodAt] at h ⊢
  obtain ⟨xs, h1, h2⟩ := h
  exact ⟨xs, h1.stay k, MAllRows.stay k bs xs h2⟩
theorem MAllAt.stay {w w' : World} {P P' : Nat → Prop} (k : Stay w P w' P') : ∀ (l : List It) (vs : List Value), MAllAt w P l vs → MAllAt w' P' l vs
 | [], vs, h => by rw [MAllAt] at h ⊢; exact h
 | i :: l, vs, h => by
  rw [MAllAt] at h ⊢
  obtain ⟨vb, t, e, h1, h2⟩ := h
  exact ⟨vb, t, e, MBodAt.stay k i vb h1, MAllAt.stay k l t h2⟩
theorem MAllRows.stay {w w' : World} {P P' : Nat → Prop} (k : Stay w P w' P') : ∀ (bs : List (List It)) (vs : List Value), MAllRows w P bs vs → MAllRows w' P' bs vs
 | [], vs, h => by rw [MAllRows] at h ⊢; exact h
 | b :: bs, vs, h => by
  rw [MAllRows] at h ⊢
  obtain ⟨v, t, xs, e, h1, h2, h3⟩ := h
  exact ⟨v, t, xs, e, h1.stay k, MAllAt.stay k b xs h2, MAllRows.stay k bs t h3⟩
end
theorem MRowAt.stay {w w' : World} {P P' : Nat → Prop} {l : List It} {v : Value} (h : MRowAt w P l v) (k : Stay w P w' P') : MRowAt w' P' l v := by
 obtain ⟨xs, h1, h2⟩ := h
 exact ⟨xs, h1.stay k, MAllAt.stay k l xs h2⟩
theorem MRowsAt.stay {w w' : World} {P P' : Nat → Prop} {bs : List (List It)} {v : Value} (h : MRowsAt w P bs v) (k : Stay w P w' P') : MRowsAt w' P' bs v := by
 obtain ⟨xs, h1, h2⟩ := h
 exact ⟨xs, h1.stay k, MAllRows.stay k bs xs h2⟩
theorem MAllAt.len {w : World} {P : Nat → Prop} : ∀ {l : List It} {vs : List Value}, MAllAt w P l vs → vs.length = l.length * 4
 | [], vs, h => by rw [MAllAt] at h; rw [h]; rfl
 | i :: l, vs, h => by rw [MAllAt] at h; obtain ⟨vb, t, e, _, h2⟩ := h; rw [e, List.length_append, List.length_cons, h2.len]; simp [fY]; omega
theorem MAllAt.nil (w : World) (P : Nat → Prop) : MAllAt w P [] [] := by rw [MAllAt]
theorem MAllAt.snoc {w : World} {P : Nat → Prop} {i : It} {vb : Value} (hi : MBodAt w P i vb) : ∀ {l : List It} {vs : List Value}, MAllAt w P l vs → MAllAt w P (l ++ [i]) (vs ++ fY i vb)
 | [], vs, h => by rw [MAllAt] at h; rw [h, List.nil_append, List.nil_append, MAllAt]; exact ⟨vb, [], by simp, hi, MAllAt.nil w P⟩
 | j :: l, vs, h => by
  rw [MAllAt] at h
  obtain ⟨u, t, e, h1, h2⟩ := h
  rw [e, List.cons_append, List.append_assoc, MAllAt]
  exact ⟨u, t ++ fY i vb, rfl, h1, MAllAt.snoc hi h2⟩
theorem MAllRows.nil (w : World) (P : Nat → Prop) : MAllRows w P [] [] := by rw [MAllRows]
theorem MAllRows.len {w : World} {P : Nat → Prop} : ∀ {l : List (List It)} {vs : List Value}, MAllRows w P l vs → vs.length = l.length
 | [], vs, h => by rw [MAllRows] at h; rw [h]; rfl
 | i :: l, vs, h => by rw [MAllRows] at h; obtain ⟨v, t, xs, e, _, _, h2⟩ := h; rw [e, List.length_cons, List.length_cons, h2.len]
theorem MAllRows.snoc {w : World} {P : Nat → Prop} {b : List It} {v : Value} (hb : MRowAt w P b v) : ∀ {l : List (List It)} {vs : List Value}, MAllRows w P l vs → MAllRows w P (l ++ [b]) (vs ++ [v])
 | [], vs, h => by
  obtain ⟨xs, h1, h2⟩ := hb
  rw [MAllRows] at h; rw [h, List.nil_append, List.nil_append, MAllRows]; exact ⟨v, [], xs, rfl, h1, h2, MAllRows.nil w P⟩
 | j :: l, vs, h => by
  rw [MAllRows] at h
  obtain ⟨u, t, xs, e, h1, h2, h3⟩ := h
  rw [e, List.cons_append, List.cons_append, MAllRows]
  exact ⟨u, t ++ [v], xs, rfl, h1, h2, MAllRows.snoc hb h3⟩
theorem qK {w : World} {base : Nat} {e : TypeId} {v : Value} {n : Nat} {xs : List Value} (h : w.ownsRow base e 4 v n xs) (hn : xs.length = n * 4) : Reads4 w (fun b => base ≤ b) v n xs := by
 rcases h.2 with ⟨rfl, h0⟩ | ⟨gb, cap, cur, hv, hb, hg, _⟩
 ·exact ⟨none, 0, by rw [h0], hn, fun hpos => absurd hpos (by omega)⟩
 ·subst hv
  refine ⟨_, _, rfl, hn, fun _ => ⟨gb, 0, rfl, ?_, hb, fun j hj => ?_⟩⟩
  ·rcases Nat.lt_or_ge gb w.heap.size with h' | h'
   ·exact h'
   ·rw [Array.getElem?_eq_none h'] at hg; cases hg
  ·have hc := h.cellAt j (by omega)
   rw [List.getElem?_eq_getElem hj] at hc
   rw [Nat.zero_add]; exact hc
theorem MAllAt.at_ {w : World} {P : Nat → Prop} : ∀ {l : List It} {vs : List Value} (_ : MAllAt w P l vs) (k : Nat) (hk : k < l.length), ∃ vb, MBodAt w P l[k] vb ∧ vs[k * 4]? = some (.int .u8 (qI l[k]).toNat) ∧ vs[k * 4 + 1]? = some (.string (tb (qJ l[k]))) ∧ vs[k * 4 + 2]? = some (.int .i64 (vq l[k])) ∧ vs[k * 4 + 3]? = some vb
 | i :: l, vs, h, 0, _ => by
  rw [MAllAt] at h
  obtain ⟨vb, t, rfl, h1, _⟩ := h
  exact ⟨vb, h1, rfl, rfl, rfl, rfl⟩
 | i :: l, vs, h, k + 1, hk => by
  rw [MAllAt] at h
  obtain ⟨vb, t, rfl, _, h2⟩ := h
  obtain ⟨u, h3, a, b, c, d⟩ := MAllAt.at_ h2 k (by simpa using hk)
  have e : ∀ j, (fY i vb ++ t)[(k + 1) * 4 + j]? = t[k * 4 + j]? := fun j => by
   rw [List.getElem?_append_right (by simp [fY]; omega)]
   congr 1
   simp [fY]; omega
  exact ⟨u, h3, (e 0).trans a, (e 1).trans b, (e 2).trans c, (e 3).trans d⟩
theorem MAllRows.at_ {w : World} {P : Nat → Prop} : ∀ {l : List (List It)} {vs : List Value} (_ : MAllRows w P l vs) (k : Nat) (hk : k < l.length), ∃ v, vs[k]? = some v ∧ MRowAt w P l[k] v
 | b :: l, vs, h, 0, _ => by
  rw [MAllRows] at h
  obtain ⟨v, t, xs, rfl, h1, h2, _⟩ := h
  exact ⟨v, rfl, xs, h1, h2⟩
 | b :: l, vs, h, k + 1, hk => by
  rw [MAllRows] at h
  obtain ⟨v, t, xs, rfl, _, _, h3⟩ := h
  obtain ⟨u, h4, h5⟩ := MAllRows.at_ h3 k (by simpa using hk)
  exact ⟨u, by simpa using h4, h5⟩
def EndAt (e : UInt8) (r : List UInt8) : Prop := r = [] ∨ (e = 41 ∨ e = 125 ∨ e = 93) ∧ ∃ t, r = e :: t
def qL (e : UInt8) (r : List UInt8) : Prop := r = [] ∨ ∃ t, r = e :: t
def CQ (e : UInt8) (f : Nat) (s : List UInt8) : Prop := ∀ l r, az l f → EndAt e r → s ≠ aF l ++ r
theorem EndAt.ends {e : UInt8} {r : List UInt8} (h : EndAt e r) : Ends r := by
 rcases h with h | ⟨h | h | h, t, ht⟩
 ·exact .inl h
 ·subst h; exact .inr ⟨t, .inl ht⟩
 ·subst h; exact .inr ⟨t, .inr (.inl ht)⟩
 ·subst h; exact .inr ⟨t, .inr (.inr ht)⟩
theorem Ek {e : UInt8} {f : Nat} {s t : List UInt8} {l : List It} (h : sQ f s l t) (he : ¬ EndAt e t) (hi : dr f t) : CQ e f s := by
 intro l' q hl hq es
 obtain ⟨k, hk, _, e2⟩ := h.2.2 l' q ⟨hl, hq.ends, es⟩
 cases k with
 | nil => rw [aF, List.nil_append] at e2; exact he (e2 ▸ hq)
 | cons j k =>
  rw [az] at hk
  rw [aF, List.append_assoc] at e2
  exact hi j _ hk.1 (jL hk.2 hq.ends.noBr) e2
theorem aX {s : List UInt8} {p : Nat} {c : UInt8} {t : List UInt8} (h : s.drop p = c :: t) : p < s.length ∧ s.drop (p + 1) = t ∧ s[p]? = some c := by
 have hp : p < s.length := by
  rcases Nat.lt_or_ge p s.length with h' | h'
  ·exact h'
  ·rw [List.drop_eq_nil_of_le h'] at h; cases h
 rw [List.drop_eq_getElem_cons hp] at h
 obtain ⟨h1, h2⟩ := List.cons.inj h
 exact ⟨hp, h2, by rw [List.getElem?_eq_getElem hp, h1]⟩
theorem aL {s : List UInt8} {p : Nat} {c : UInt8} (h : s[p]? = some c) : s.drop p = c :: s.drop (p + 1) := by
 have hp : p < s.length := by
  rcases Nat.lt_or_ge p s.length with h' | h'
  ·exact h'
  ·rw [List.getElem?_eq_none h'] at h; cases h
 rw [List.getElem?_eq_getElem hp] at h
 rw [List.drop_eq_getElem_cons hp, Option.some.inj h]
end Go.Proofs.YtlkfakdghjaoaaaGreatDoor
namespace Go.Proofs.YtlkfakdghjaoaaaGreatDoor
open Go.RowKit Go.Sort
def Mrd (w : World) (R : Nat) (tx : List UInt8) (p : Nat) (bad : Bool) (f : Nat) : Prop := Blk w R 225 #[.string (tb tx), .int .i64 p, .bool bad, .int .i64 f]
theorem Mrd.lt {w : World} {R : Nat} {tx : List UInt8} {p : Nat} {bad : Bool} {f : Nat} (h : Mrd w R tx p bad f) : R < w.heap.size := Blk.lt h
def fo (tx : List UInt8) (p : Nat) (c : UInt8) : Bool := decide (tx[p]? = some c)
theorem vu (R p f : Nat) (tx : List UInt8) (bad : Bool) (c : UInt8) (w : World) (h : Mrd w R tx p bad f) :
  Calls Tryz.prog 219 #[.pointer (some ⟨R, 0, none⟩), .int .u8 c.toNat] w fun e w' => e = .returned (.bool (fo tx p c)) ∧ ∃ m, w' = w.drewN m := by
 have c0 := Blk.cell h 0
 have c1 := Blk.cell h 1
 obtain ⟨x, hx⟩ : ∃ x, x = tb tx := ⟨_, rfl⟩
 have hxz : x.size = tx.length := by rw [hx, ay]
 have hxd : x.data.toList = tx := by rw [hx, aA]
 have d0 : w.cell? ⟨R, 0, none⟩ = some (.string x) := by rw [hx]; exact c0
 have d1 : w.cell? ⟨R, 1, none⟩ = some (.int .i64 p) := c1
 clear c0 c1 h
 by_cases hp : p < x.size
 ·have hb := aG x p hp
  have q1 : decide ((p : Int) < (x.size : Int)) = true := decide_eq_true (by omega)
  have hget : tx[p]? = some x[p] := by rw [← hxd]; exact hb
  obtain ⟨b, hbb⟩ : ∃ b, b = x[p] := ⟨_, rfl⟩
  rw [← hbb] at hb hget
  cases hs : fo tx p c with
  | true =>
   have hbc : b = c := by have := of_decide_eq_true hs; rw [hget] at this; exact Option.some.inj this
   have q2 : ((x[p].toNat : Int) == (c.toNat : Int)) = true := by rw [← hbb, hbc]; simp
   clear hs hget hx hb hbb hbc hxz hxd
   go_enter Tryz.func219, Tryz.ntmps219
   go_wp2_with fail
   go_quiet (fail)
   go_wp2_with fail
   go_ret
   exact ⟨rfl, _, rfl⟩
  | false =>
   have hbc : b ≠ c := fun e => by have := of_decide_eq_false hs; rw [hget, e] at this; exact this rfl
   have q2 : ((x[p].toNat : Int) == (c.toNat : Int)) = false := by rw [← hbb]; exact dA hbc
   clear hs hget hx hb hbb hbc hxz hxd
   go_enter Tryz.func219, Tryz.ntmps219
   go_wp2_with fail
   go_quiet (fail)
   go_wp2_with fail
   go_ret
   exact ⟨rfl, _, rfl⟩
 ·have q1 : decide ((p : Int) < (x.size : Int)) = false := decide_eq_false (by omega)
  have hs : fo tx p c = false := decide_eq_false (by rw [List.getElem?_eq_none (by omega)]; simp)
  rw [hs]
  clear hx hs hxz hxd
  go_enter Tryz.func219, Tryz.ntmps219
  go_wp2_with fail
  go_quiet (fail)
  go_wp2_with fail
  go_ret
  exact ⟨rfl, _, rfl⟩
theorem Mrd.drewN {w : World} {R : Nat} {tx : List UInt8} {p : Nat} {bad : Bool} {f : Nat} (h : Mrd w R tx p bad f) (m : Nat) : Mrd (w.drewN m) R tx p bad f := h
theorem cy (R : Nat) (w : World) (m : Nat) : Only R w (w.drewN m) := ⟨rfl, rfl, rfl, Nat.le_refl _, fun _ _ _ => rfl⟩
theorem nN (R p f : Nat) (tx : List UInt8) (bad : Bool) (c : UInt8) (w : World) (hp : p ≤ 8388608) (h : Mrd w R tx p bad f) :
  Calls Tryz.prog 243 #[.pointer (some ⟨R, 0, none⟩), .int .u8 c.toNat] w fun e w' => e = .returned (.tuple #[]) ∧ Mrd w' R tx (p + 1) (bad || !fo tx p c) f ∧ Only R w w' := by
 have d1 : w.cell? ⟨R, 1, none⟩ = some (.int .i64 p) := Blk.cell h 1
 have d2 : w.cell? ⟨R, 2, none⟩ = some (.bool bad) := Blk.cell h 2
 have f1 := Blk.frozen h 1
 have f2 := Blk.frozen h 2
 have e1 : ((p + 1 : Nat) : Int) = (p : Int) + 1 := by omega
 cases bad with
 | true =>
  have k1 := Blk.set_ h 2 (.bool true)
  have g1 : (w.setCell ⟨R, 2, none⟩ (.bool true)).cell? ⟨R, 1, none⟩ = some (.int .i64 p) := k1.cell 1
  have n1 := k1.frozen 1
  have HK := F7 (k1.set_ 1 (.int .i64 ((p : Int) + 1)))
  clear h k1
  go_enter Tryz.func243, Tryz.ntmps243
  go_wp2_with fail
  go_end0
  refine ⟨rfl, ?_, (Only.set R w 2 _).trans (Only.set R _ 1 _)⟩
  unfold Mrd
  rw [e1]; exact HK.out
 | false =>
  have HS := F7 (vu R p f tx false c w h)
  obtain ⟨sb, hsb⟩ : ∃ sb, sb = fo tx p c := ⟨_, rfl⟩
  rw [← hsb] at HS ⊢
  have H := F7 h
  clear h hsb d1 d2 f1 f2
  have d2 : w.cell? ⟨R, 2, none⟩ = some (.bool false) := Blk.cell H.out 2
  go_enter Tryz.func243, Tryz.ntmps243
  go_wp2_with fail
  refine HS.out.mono ?_
  rintro e w1 ⟨rfl, m, rfl⟩
  have h1 := H.out.drewN m
  have f2 : (w.drewN m).frozen? ⟨R, 2, none⟩ = false := Blk.frozen h1 2
  have c2 : (w.drewN m).cell? ⟨R, 2, none⟩ = some (.bool false) := Blk.cell h1 2
  have k1 := Blk.set_ h1 2 (.bool (!sb))
  have g1 : ((w.drewN m).setCell ⟨R, 2, none⟩ (.bool (!sb))).cell? ⟨R, 1, none⟩ = some (.int .i64 p) := k1.cell 1
  have n1 := k1.frozen 1
  have HK := F7 (k1.set_ 1 (.int .i64 ((p : Int) + 1)))
  have HO := F7 (((cy R w m).trans (Only.set R _ 2 (.bool (!sb)))).trans (Only.set R _ 1 (.int .i64 ((p : Int) + 1))))
  clear h1 k1
  go_wp2_with fail
  go_end0
  refine ⟨rfl, ?_, HO.out⟩
  unfold Mrd
  rw [e1]; exact HK.out
def fO (tx : List UInt8) (p : Nat) : Option Nat := match tx[p]? with | some c => if 48 ≤ c.toNat ∧ c.toNat ≤ 57 then some (c.toNat - 48) else none | none => none
theorem qM (R p f : Nat) (tx : List UInt8) (w : World) (hp : p ≤ 1048576) (h : Mrd w R tx p false f) :
  Calls Tryz.prog 218 #[.pointer (some ⟨R, 0, none⟩)] w fun e w' => Only R w w' ∧
   match fO tx p with
   | some n => e = .returned (.int .i64 n) ∧ Mrd w' R tx (p + 1) false f
   | none => e = .returned (.int .i64 0) ∧ Mrd w' R tx p true f := by
 have c0 := Blk.cell h 0
 obtain ⟨x, hx⟩ : ∃ x, x = tb tx := ⟨_, rfl⟩
 have hxz : x.size = tx.length := by rw [hx, ay]
 have hxd : x.data.toList = tx := by rw [hx, aA]
 have d0 : w.cell? ⟨R, 0, none⟩ = some (.string x) := by rw [hx]; exact c0
 have d1 : w.cell? ⟨R, 1, none⟩ = some (.int .i64 p) := Blk.cell h 1
 have d2 : w.cell? ⟨R, 2, none⟩ = some (.bool false) := Blk.cell h 2
 have f2 := Blk.frozen h 2
 have H := F7 h
 clear c0 h
 by_cases hlt : p < x.size
 ·have hb := aG x p hlt
  have hget : tx[p]? = some x[p] := by rw [← hxd]; exact hb
  have q0 : ¬ x.size ≤ p := by omega
  have q1 : decide ((x.size : Int) ≤ (p : Int)) = false := decide_eq_false (by omega)
  have s0 : IntKind.i64.wrap (x[p].toNat : Int) = (x[p].toNat : Int) := IntWalk.i64_in _ (by have := UInt8.toNat_lt x[p]; omega)
  have tC := fun n => Calls.quiet_of_same ((pL (x[p].toNat : Int) 48 57 (w.drewN n)).mono fun _ _ ⟨a, b⟩ => ⟨a, b.symm⟩)
  obtain ⟨ib, hib⟩ : ∃ ib, ib = kH (x[p].toNat : Int) 48 57 := ⟨_, rfl⟩
  rw [← hib] at tC
  cases ib with
  | false =>
   have hd : fO tx p = none := by
    unfold fO
    rw [hget]
    show (if 48 ≤ (x[p]).toNat ∧ (x[p]).toNat ≤ 57 then some ((x[p]).toNat - 48) else none) = none
    rw [if_neg]
    intro q
    unfold kH at hib
    rw [decide_eq_true (by omega : (48 : Int) ≤ (x[p].toNat : Int)), decide_eq_true (by omega : (x[p].toNat : Int) ≤ 57)] at hib
    cases hib
   rw [hd]
   have HK := F7 (fun m => Blk.set_ (H.out.drewN m) 2 (.bool true))
   have HF := F7 (fun m => Blk.frozen (H.out.drewN m) 2)
   clear hb hget hib hxz hxd hd hx
   go_enter Tryz.func218, Tryz.ntmps218
   go_wp2_with fail
   go_quiet (with_reducible exact tC _)
   have f9 := HF.out nq
   clear tC
   go_wp2_with fail
   go_ret
   exact ⟨(cy R w nq).trans (Only.set R _ 2 _), rfl, HK.out nq⟩
  | true =>
   have hr : 48 ≤ (x[p]).toNat ∧ (x[p]).toNat ≤ 57 := by
    have h9 := hib.symm
    unfold kH at h9
    have := Bool.and_eq_true_iff.1 h9
    have a := of_decide_eq_true this.1
    have b := of_decide_eq_true this.2
    omega
   have hd : fO tx p = some ((x[p]).toNat - 48) := by
    unfold fO
    rw [hget]
    show (if 48 ≤ (x[p]).toNat ∧ (x[p]).toNat ≤ 57 then some ((x[p]).toNat - 48) else none) = _
    rw [if_pos hr]
   rw [hd]
   have e1 : ((p + 1 : Nat) : Int) = (p : Int) + 1 := by omega
   have s1 : IntKind.i64.wrap ((p : Int) + 1 - 1) = (p : Int) := by rw [show (p : Int) + 1 - 1 = (p : Int) by omega]; exact IntWalk.i64_in _ (by omega)
   have s2 : (p : Int) + 1 - 1 = (p : Int) := by omega
   have HR := F7 (show (x[p].toNat : Int) - 48 = ((x[p].toNat - 48 : Nat) : Int) by omega)
   have s3 : IntKind.i64.wrap ((x[p].toNat : Int) - 48) = (x[p].toNat : Int) - 48 := IntWalk.i64_in _ (by omega)
   have HK := F7 (fun m => Blk.set_ (H.out.drewN m) 1 (.int .i64 ((p : Int) + 1)))
   have HF := F7 (fun m => Blk.frozen (H.out.drewN m) 1)
   clear hb hget hib hxz hxd hd hx f2
   go_enter Tryz.func218, Tryz.ntmps218
   go_wp2_with fail
   go_quiet (with_reducible exact tC _)
   have f9 := HF.out nq
   have k9 := HK.out nq
   have c90 : ((w.drewN nq).setCell ⟨R, 1, none⟩ (.int .i64 ((p : Int) + 1))).cell? ⟨R, 0, none⟩ = some (.string x) := by
    have := (World.cell?_setCell_other (w.drewN nq) ⟨R, 1, none⟩ ⟨R, 0, none⟩ (.int .i64 ((p : Int) + 1)) (fun e => by injection e with _ e2 _; exact absurd e2 (by decide)))
    rw [this]; exact d0
   have c91 : ((w.drewN nq).setCell ⟨R, 1, none⟩ (.int .i64 ((p : Int) + 1))).cell? ⟨R, 1, none⟩ = some (.int .i64 ((p : Int) + 1)) := k9.cell 1
   have HK9 := F7 k9
   clear tC k9
   go_wp2_with fail
   have HO9 := F7 ((cy R w nq).trans (Only.set R (w.drewN nq) 1 (.int .i64 ((p : Int) + 1))))
   generalize hw9 : (w.drewN nq).setCell ⟨R, 1, none⟩ (.int .i64 ((p : Int) + 1)) = w9 at *
   clear d0 d1 d2 f9 hw9
   go_quiet (fail)
   go_wp2_with fail
   go_ret
   refine ⟨HO9.out.trans (cy R w9 _), cC HR.out, ?_⟩
   unfold Mrd
   rw [e1]; exact HK9.out
 ·have hd : fO tx p = none := by unfold fO; rw [List.getElem?_eq_none (by omega)]
  rw [hd]
  have HK := F7 (fun m => Blk.set_ (H.out.drewN m) 2 (.bool true))
  have HF := F7 (fun m => Blk.frozen (H.out.drewN m) 2)
  have q0 : x.size ≤ p := by omega
  have q1 : decide ((x.size : Int) ≤ (p : Int)) = true := decide_eq_true (by omega)
  clear hxz hxd hd hx
  go_enter Tryz.func218, Tryz.ntmps218
  go_wp2_with fail
  go_quiet (fail)
  have f9 := HF.out nq
  go_wp2_with fail
  go_ret
  exact ⟨(cy R w nq).trans (Only.set R _ 2 _), rfl, HK.out nq⟩
end Go.Proofs.YtlkfakdghjaoaaaGreatDoor

namespace Go.Proofs.YtlkfakdghjaoaaaGreatDoor
open Go.RowKit Go.Sort
def FM (k : Nat) : ByteArray := strOfNums [48 + (k : Int) % 10]
def FU : Nat → Nat → ByteArray → ByteArray
 | 0, _, o => o
 | f + 1, k, o => if k = 0 then o else FU f (k / 10) (FM k ++ o)
def mT (n : Nat) : ByteArray := ⟨#[109]⟩ ++ FU 7 n ⟨#[]⟩
def Marked (cs : Array Value) (n m k : Nat) : Prop := m ≤ cs.size ∧ ∀ j, j < k → cs[j]? = some (.string (mT (n + j)))
theorem Marked.step {cs : Array Value} {n m k : Nat} (h : Marked cs n m k) (hk : k < m) : Marked (cs.setIfInBounds k (.string (mT (n + k)))) n m (k + 1) := by
 refine ⟨by simpa using h.1, fun j hj => ?_⟩
 have hsz := h.1
 rw [Array.getElem?_setIfInBounds]
 by_cases e : k = j
 ·subst e; rw [if_pos rfl, if_pos (by omega)]
 ·rw [if_neg e]; exact h.2 j (by omega)
theorem Only.setCell {R : Nat} {a w : World} (h : Only R a w) (j : Nat) (v : Value) : Only R a (w.setCell ⟨R, j, none⟩ v) :=
 h.trans ⟨rfl, rfl, rfl, by simp, fun k hk _ => Below.heap_setCell w ⟨R, j, none⟩ v k hk⟩
def MarkedV (w : World) (v : Value) (n : Nat) : Prop := (v = .slice none 0 0 ∧ n = 0) ∨ ∃ B cap cs t, v = .slice (some ⟨B, 0, none⟩) n cap ∧ Blk w B t cs ∧ Marked cs 1 n n
theorem MarkedV.below {w w' : World} {v : Value} {n : Nat} (h : MarkedV w v n) (hb : Below w.heap.size w w') : MarkedV w' v n := by
 rcases h with h | ⟨B, cap, cs, t, e, hk, hm⟩
 ·exact .inl h
 ·exact .inr ⟨B, cap, cs, t, e, hk.below hb hk.lt, hm⟩
end Go.Proofs.YtlkfakdghjaoaaaGreatDoor
