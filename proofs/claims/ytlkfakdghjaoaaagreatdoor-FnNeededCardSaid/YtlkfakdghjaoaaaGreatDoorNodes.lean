import Derived.Test.YtlkfakdghjaoaaaGreatDoorJ2
import Derived.Test.YtlkfakdghjaoaaaGreatDoorJ1
set_option maxHeartbeats 800000
namespace Go.Proofs.YtlkfakdghjaoaaaGreatDoor
open Go.RowKit Go.Sort
theorem r9 {a b : Value} (h : a = b) : Ending.returned a = .returned b := by rw [h]
abbrev nb (NB i : Nat) : Nat := NB + 2 + 2 * i
abbrev ag (NB i : Nat) : Value := .pointer (some ⟨nb NB i, 0, none⟩)
def aP (g : List Bl) (s : ByteArray) : Option Nat := (List.range g.length).find? fun i => decide (ay g i = s)
theorem mE {g : List Bl} {s : ByteArray} {k : Nat} (h : k < g.length) (hk : g[k].1 = s) (hb : ∀ j (h' : j < g.length), j < k → g[j].1 ≠ s) : aP g s = some k := by
 unfold aP
 rw [List.find?_range_eq_some]
 refine ⟨by rw [al h, hk]; simp, by simpa using h, fun j hj => ?_⟩
 rw [al (by omega)]
 have := hb j (by omega) hj
 simpa using this
theorem qT {g : List Bl} {s : ByteArray} (hb : ∀ j (h' : j < g.length), g[j].1 ≠ s) : aP g s = none := by
 unfold aP
 rw [List.find?_eq_none]
 intro j hj
 have hj' := List.mem_range.1 hj
 rw [al hj']
 simpa using hb j hj'
def il (NB : Nat) : Option Nat → Value
 | some i => ag NB i
 | none => .pointer none
structure Nodes (w : World) (NB : Nat) (g : List Bl) (E : Nat → Value) : Prop where
 row : ∃ cs, Blk w NB 95 cs ∧ cs.size = g.length ∧ ∀ i, i < g.length → cs[i]? = some (ag NB i)
 node : ∀ i (h : i < g.length), Blk w (nb NB i) 101 #[.int .i64 i, .string g[i].1, E i]
theorem Nodes.lt {w : World} {NB : Nat} {g : List Bl} {E : Nat → Value} (h : Nodes w NB g E) : NB < w.heap.size := by
 obtain ⟨cs, hb, _⟩ := h.row; exact hb.lt
theorem Nodes.keep {w w' : World} {NB : Nat} {g : List Bl} {E : Nat → Value} (h : Nodes w NB g E) (hk : ∀ b, b < w.heap.size → w'.heap[b]? = w.heap[b]?) : Nodes w' NB g E :=
 ⟨by obtain ⟨cs, hb, hr⟩ := h.row; exact ⟨cs, (hk _ hb.lt).trans hb, hr⟩, fun i hi => (hk _ (h.node i hi).lt).trans (h.node i hi)⟩
theorem Nodes.below {w w' : World} {NB : Nat} {g : List Bl} {E : Nat → Value} (h : Nodes w NB g E) (hb : Below w.heap.size w w') : Nodes w' NB g E :=
 h.keep fun b hlt => hb.block b hlt
theorem Nodes.ptr {w : World} {NB : Nat} {g : List Bl} {E : Nat → Value} (h : Nodes w NB g E) {i : Nat} (hi : i < g.length) : w.cell? ⟨NB, i, none⟩ = some (ag NB i) := by
 obtain ⟨cs, hb, _, hr⟩ := h.row
 rw [hb.cell]; exact hr i hi
theorem jc (NB : Nat) (g : List Bl) (E : Nat → Value) (cap : Nat) (s : ByteArray) (w : World) (hN : Nodes w NB g E) (hn : g.length ≤ 26) :
  Calls Tryz.prog 72 #[.slice (some ⟨NB, 0, none⟩) g.length cap, .string s] w fun e w' => e = .returned (il NB (aP g s)) ∧ w = w' := by
 go_enter Tryz.func72, Tryz.ntmps72
 go_wp2
 go_loop [9] (fun i => ∃ k : Nat, k ≤ g.length ∧ i = .int .i64 k ∧ Hid (∀ j (h : j < g.length), j < k → g[j].1 ≠ s)) (fun i => g.length - (intOf i).toNat)
 case atStart => exact ⟨0, Nat.zero_le _, rfl, fun j _ h => absurd h (by omega)⟩
 case round =>
  obtain ⟨k, hk, rfl, HK⟩ := hrel
  by_cases hlt : k < g.length
  ·have c0 := hN.ptr hlt
   have c1 := (hN.node k hlt).cell 1
   obtain ⟨t, ht⟩ : ∃ t, t = g[k].1 := ⟨_, rfl⟩
   rw [← ht] at c1
   have HT := GR ht
   clear ht
   by_cases hq : (t.toList == s.toList) = true
   ·have HP := GR (show aP g s = some k from mE hlt (HT.out ▸ dS.1 hq) HK.out)
    go_wp2
    go_ret
    exact ⟨by rw [HP.out]; rfl, rfl⟩
   ·have hq' : (t.toList == s.toList) = false := by simpa using hq
    have HNE := GR (show g[k].1 ≠ s from fun e => hq (dS.2 (HT.out.trans e)))
    clear hq
    go_wp2
    go_round
    case rel =>
     refine ⟨k + 1, by omega, by go_num, fun j h hj => ?_⟩
     rcases Nat.lt_succ_iff_lt_or_eq.1 hj with hj | rfl
     ·exact HK.out j h hj
     ·exact HNE.out
    case measure => simp [intOf]; omega
  ·have HP := GR (show aP g s = none from qT fun j h => HK.out j h (by omega))
   go_wp2
   go_ret
   exact ⟨by rw [HP.out]; rfl, rfl⟩
theorem BL (s : ByteArray) (w : World) (A : Option Addr) (cap : Nat) :
  Calls Tryz.prog 72 #[.slice A 0 cap, .string s] w fun e w' => e = .returned (.pointer none) ∧ w = w' := by
 go_enter Tryz.func72, Tryz.ntmps72
 go_wp2
 refine wp_loop_rounds 1 ?_
 rw [rounds_succ]
 go_wp2
 go_ret
 exact ⟨rfl, rfl⟩
def fH (NB : Nat) (g : List Bl) (next : ByteArray) : Value :=
 if next.size = 1 then .iface 191 (.agg #[il NB (aP g next)])
 else if next.size = 2 then .iface 193 (.agg #[il NB (aP g (next.extract 0 1)), il NB (aP g (next.extract 1 next.size))])
 else .iface 230 (.agg #[])
theorem zQ (NB : Nat) (g : List Bl) (next : ByteArray) : ∃ T v, fH NB g next = .iface T v := by
 unfold fH
 split
 ·exact ⟨_, _, rfl⟩
 ·split
  ·exact ⟨_, _, rfl⟩
  ·exact ⟨_, _, rfl⟩
theorem jq (NB : Nat) (o : Option Nat) : ∃ u, il NB o = .pointer u := by
 cases o with
 | none => exact ⟨none, rfl⟩
 | some i => exact ⟨_, rfl⟩
theorem zR (NB : Nat) (g : List Bl) (E : Nat → Value) (cap : Nat) (s : ByteArray) (w : World) (hN : Nodes w NB g E) (hn : g.length ≤ 26) :
  Calls Tryz.prog 119 #[.slice (some ⟨NB, 0, none⟩) g.length cap, .string s] w fun e w' => e = .returned (fH NB g s) ∧ ∃ n, w' = w.drewN n := by
 by_cases h1 : s.size = 1
 ·have HE := GR (show fH NB g s = .iface 191 (.agg #[il NB (aP g s)]) by unfold fH; rw [if_pos h1])
  obtain ⟨u, hu⟩ := jq NB (aP g s)
  rw [hu] at HE
  have HU := GR hu
  have g1 : ((s.size : Int) == 1) = true := by rw [h1]; rfl
  clear h1 hu
  go_enter Tryz.func119, Tryz.ntmps119
  go_wp2_with fail
  refine (jc NB g E cap s w hN hn).mono ?_
  rintro e w' ⟨rfl, rfl⟩
  rw [HU.out]
  go_wp2
  go_ret
  exact ⟨r9 HE.out.symm, 0, rfl⟩
 ·by_cases h2 : s.size = 2
  ·have HE := GR (show fH NB g s = .iface 193 (.agg #[il NB (aP g (s.extract 0 1)), il NB (aP g (s.extract 1 s.size))]) by unfold fH; rw [if_neg h1, if_pos h2])
   obtain ⟨u, hu⟩ := jq NB (aP g (s.extract 0 1))
   obtain ⟨v, hv⟩ := jq NB (aP g (s.extract 1 s.size))
   rw [hu, hv] at HE
   have cU : ∀ n, Calls Tryz.prog 72 #[.slice (some ⟨NB, 0, none⟩) g.length cap, .string (s.extract 0 1)] (w.drewN n) fun e w'' => e = .returned (.pointer u) ∧ ∃ m, w'' = w.drewN m := fun n => by
    have := jc NB g E cap (s.extract 0 1) (w.drewN n) (hN.below (ab w n)) hn
    rw [hu] at this
    exact Calls.quiet_of_same (this.mono fun _ _ ⟨a, b⟩ => ⟨a, b.symm⟩)
   have cV : ∀ n, Calls Tryz.prog 72 #[.slice (some ⟨NB, 0, none⟩) g.length cap, .string (s.extract 1 s.size)] (w.drewN n) fun e w'' => e = .returned (.pointer v) ∧ ∃ m, w'' = w.drewN m := fun n => by
    have := jc NB g E cap (s.extract 1 s.size) (w.drewN n) (hN.below (ab w n)) hn
    rw [hv] at this
    exact Calls.quiet_of_same (this.mono fun _ _ ⟨a, b⟩ => ⟨a, b.symm⟩)
   have g1 : ((s.size : Int) == 1) = false := by simp; omega
   have g2 : ((s.size : Int) == 2) = true := by rw [h2]; rfl
   have l1 : 1 ≤ s.size := by omega
   have l2 : (1 : Int) ≤ s.size := by omega
   clear h1 h2 hu hv
   go_enter Tryz.func119, Tryz.ntmps119
   go_wp2_with fail
   go_quiet (first | with_reducible exact cU _ | with_reducible exact cV _)
   go_wp2
   go_ret
   exact ⟨r9 HE.out.symm, nq, rfl⟩
  ·have HE := GR (show fH NB g s = .iface 230 (.agg #[]) by unfold fH; rw [if_neg h1, if_neg h2])
   have g1 : ((s.size : Int) == 1) = false := by simp; omega
   have g2 : ((s.size : Int) == 2) = false := by simp; omega
   clear h1 h2
   go_enter Tryz.func119, Tryz.ntmps119
   go_wp2
   go_ret
   exact ⟨r9 HE.out.symm, 0, rfl⟩
def jQ (g : List Bl) (k : Nat) : ByteArray := (g.map (·.2)).getD k ⟨#[]⟩
theorem eE {g : List Bl} {k : Nat} (h : k < g.length) : jQ g k = g[k].2 := by
 unfold jQ
 rw [List.getD_eq_getElem?_getD, List.getElem?_map, List.getElem?_eq_getElem h]; rfl
def ends (NB : Nat) (g : List Bl) (i : Nat) : Value := fH NB g (jQ g i)
structure Part (w : World) (NB : Nat) (g : List Bl) (k : Nat) : Prop where
 row : ∃ cs, Blk w NB 95 cs ∧ cs.size = g.length ∧ ∀ i, i < k → cs[i]? = some (ag NB i)
 node : ∀ i (h : i < g.length), i < k → Blk w (nb NB i) 101 #[.int .i64 i, .string g[i].1, .nilIface]
 size : w.heap.size = NB + 1 + 2 * k
theorem Part.step {w : World} {NB : Nat} {g : List Bl} {k : Nat} {s : ByteArray} {o : Obj} (h : Part w NB g k) (hk : k < g.length) (hs : g[k].1 = s) :
  Part (((w.setCell ⟨NB, k, none⟩ (.pointer (some ⟨w.heap.size + 1, 0, none⟩))).alloc o).alloc (.cells #[.int .i64 k, .string s, .nilIface] 101)) NB g (k + 1) := by
 obtain ⟨cs, hb, hsz, hr⟩ := h.row
 have hz := h.size
 have hnb : w.heap.size + 1 = nb NB k := by unfold nb; omega
 rw [hnb]
 have hsz2 : (w.setCell ⟨NB, k, none⟩ (ag NB k)).heap.size = w.heap.size := by simp
 refine ⟨⟨_, ((hb.set_ k _).alloc _).alloc _, by simpa using hsz, fun i hi => ?_⟩, fun i hi hik => ?_, ?_⟩
 ·rw [Array.getElem?_setIfInBounds]
  by_cases e : k = i
  ·subst e; rw [if_pos rfl, if_pos (by omega)]
  ·rw [if_neg e]; exact hr i (by omega)
 ·by_cases e : i = k
  ·subst e
   have h2 := Blk.new ((w.setCell ⟨NB, i, none⟩ (ag NB i)).alloc o) 101 #[.int .i64 (i : Int), .string s, .nilIface]
   have h3 : ((w.setCell ⟨NB, i, none⟩ (ag NB i)).alloc o).heap.size = nb NB i := by unfold nb; simp; omega
   rw [h3] at h2
   rw [hs]; exact h2
  ·have h4 : Blk (w.setCell ⟨NB, k, none⟩ (ag NB k)) (nb NB i) 101 #[.int .i64 i, .string g[i].1, .nilIface] :=
    (Below.heap_setCell _ _ _ _ (by show nb NB i ≠ NB; unfold nb; omega)).trans (h.node i hi (by omega))
   exact (h4.alloc _).alloc _
 ·simp; omega
def dz (NB : Nat) (g : List Bl) (k i : Nat) : Value := if i < k then ends NB g i else .nilIface
theorem Part.nodes {w : World} {NB : Nat} {g : List Bl} (h : Part w NB g g.length) : Nodes w NB g (dz NB g 0) :=
 ⟨h.row, fun i hi => by simpa [dz] using h.node i hi hi⟩
theorem Nodes.alloc {w : World} {NB : Nat} {g : List Bl} {E : Nat → Value} (h : Nodes w NB g E) (o : Obj) : Nodes (w.alloc o) NB g E :=
 h.keep fun b hlt => Below.heap_alloc w o b hlt
theorem Nodes.set_ {w : World} {NB : Nat} {g : List Bl} {k : Nat} {t : ByteArray} (h : Nodes w NB g (dz NB g k)) (hk : k < g.length) (ht : g[k].2 = t) :
  Nodes (w.setCell ⟨nb NB k, 2, none⟩ (fH NB g t)) NB g (dz NB g (k + 1)) := by
 obtain ⟨cs, hb, hr⟩ := h.row
 refine ⟨⟨cs, (Below.heap_setCell _ _ _ _ (by show NB ≠ nb NB k; unfold nb; omega)).trans hb, hr⟩, fun i hi => ?_⟩
 by_cases e : i = k
 ·subst e
  have h2 := (h.node i hi).set_ 2 (fH NB g t)
  have e1 : dz NB g (i + 1) i = fH NB g t := by unfold dz ends; rw [if_pos (by omega), eE hi, ht]
  rw [e1]; exact h2
 ·have e1 : dz NB g (k + 1) i = dz NB g k i := by
   unfold dz
   by_cases hlt : i < k
   ·rw [if_pos hlt, if_pos (by omega)]
   ·rw [if_neg hlt, if_neg (by omega)]
  rw [e1]
  exact (Below.heap_setCell _ _ _ _ (by show nb NB i ≠ nb NB k; unfold nb; omega)).trans (h.node i hi)
theorem Nodes.done {w : World} {NB : Nat} {g : List Bl} (h : Nodes w NB g (dz NB g g.length)) : Nodes w NB g (ends NB g) :=
 ⟨h.row, fun i hi => by have := h.node i hi; unfold dz at this; rwa [if_pos hi] at this⟩
theorem f7 : (Tryz.prog.info? 95).map (fun i => (i.zero, i.size, i.bytes)) = some (some (.pointer none), 1, 8) := by kernel_rfl
def BM (w : World) (g : List Bl) (e : Ending) (w' : World) : Prop :=
 ∃ NB, w.heap.size ≤ NB ∧ e = .returned (.tuple #[.slice (some ⟨NB, 0, none⟩) g.length g.length, .bool true]) ∧ Nodes w' NB g (ends NB g) ∧ Below w.heap.size w w'
theorem mF (A : Option Addr) (cap : Nat) (g : List Bl) (w : World) (hg : Gr w A g) (hn : g.length + aO g ≤ 1048576) (hv : aa g = false) :
  Calls Tryz.prog 71 #[.slice A g.length cap] w fun e w' => e = .returned (.tuple #[.slice none 0 0, .bool false]) ∧ Below w.heap.size w w' := by
 have hc := nh A cap g w hg hn
 rw [hv] at hc
 have HC := GR hc
 clear hc hv
 go_enter Tryz.func71, Tryz.ntmps71
 go_wp2_with fail
 refine HC.out.mono ?_
 rintro e w1 ⟨rfl, b1⟩
 go_wp2_with fail
 go_ret2
 exact ⟨rfl, b1⟩
theorem iV (A : Option Addr) (cap : Nat) (g : List Bl) (w : World) (hg : Gr w A g) (hn : g.length + aO g ≤ 1048576) (hv : aa g = true) :
  Calls Tryz.prog 71 #[.slice A g.length cap] w (BM w g) := by
 have hc := nh A cap g w hg hn
 rw [hv] at hc
 have HC := GR hc
 have h26 := (aj.1 hv).2.1
 have hmk := run_make_row' (P := Tryz.prog) 58 95 (.pointer none) 8 Tryz.underlying58 f7 rfl .i64 .i64 g.length (by omega) (by omega)
 clear hc hv
 go_enter Tryz.func71, Tryz.ntmps71
 go_wp2_with fail
 refine HC.out.mono ?_
 rintro e w1 ⟨rfl, b1⟩
 go_wp2_with fail
 clear hmk
 obtain ⟨NB, hNB⟩ : ∃ NB, NB = w1.heap.size := ⟨_, rfl⟩
 have HNB : Hid (w.heap.size ≤ NB) := hNB ▸ b1.size
 have hp0 : Part (w1.alloc (.cells (madeCells #[.pointer none] g.length) 95)) NB g 0 := by
  rw [hNB]
  exact ⟨⟨_, Blk.new _ _ _, size_madeCells _ _, fun i hi => absurd hi (by omega)⟩, fun i _ hi => absurd hi (by omega), by simp⟩
 have HP0 := GR hp0
 have HBE := GR (b1.alloc b1.size (.cells (madeCells #[.pointer none] g.length) 95))
 rw [← hNB] at ⊢
 clear hNB b1 hp0
 go_loopw [17] (fun i wr => ∃ k : Nat, k ≤ g.length ∧ i = .int .i64 k ∧ Part wr NB g k ∧ Below w.heap.size w wr) (fun i _ => g.length - (intOf i).toNat)
 case atStart => exact ⟨0, Nat.zero_le _, rfl, HP0.out, HBE.out⟩
 case round =>
  obtain ⟨k, hk, rfl, hP, hB⟩ := hrel
  have HP := GR hP
  by_cases hlt : k < g.length
  ·obtain ⟨b, off, s, t, rfl, hb, hc0, hc1, he, he2⟩ := gn (hg.below hB) hlt
   have HS := GR he
   obtain ⟨cs, hbk, hsz, _⟩ := hP.row
   have hlt2 := hbk.lt
   obtain ⟨v0, x0⟩ := hbk.some_cell (i := k) (by omega)
   have f0 := hbk.frozen k
   have hle := HNB.out
   clear he he2 hP hbk hsz
   go_wp2_with fail
   go_roundw
   case rel => exact ⟨k + 1, by omega, by go_num, HP.out.step hlt HS.out, ((hB.setCell (p := ⟨NB, k, none⟩) hle _).alloc (by simpa using hB.size) _).alloc (by have := hB.size; simp; omega) _⟩
   case measure => simp [intOf]; omega
  ·have hkk : k = g.length := by omega
   have HN2 : Hid (Nodes wr NB g (dz NB g 0)) := (hkk ▸ hP).nodes
   clear hP hkk
   go_wp2_with fail
   obtain ⟨wo, hwo⟩ : ∃ wo : World, wo = wr := ⟨_, rfl⟩
   rw [← hwo] at hB HN2 ⊢
   clear hwo HP
   go_loopw [33] (fun i wr => ∃ k : Nat, k ≤ g.length ∧ i = .int .i64 k ∧ Nodes wr NB g (dz NB g k) ∧ Below w.heap.size w wr) (fun i _ => g.length - (intOf i).toNat)
   case atStart => exact ⟨0, Nat.zero_le _, rfl, HN2.out, hB⟩
   case round =>
    obtain ⟨k, hk, rfl, hN, hB2⟩ := hrel
    by_cases hlt : k < g.length
    ·obtain ⟨b, off, s, t, rfl, hb, hc0, hc1, he, he2⟩ := gn (hg.below hB2) hlt
     have HT := GR he2
     have hts := jM g k hlt
     rw [he, he2] at hts
     clear he he2
     have x0 := hN.ptr hlt
     have hblk := hN.node k hlt
     have l0 := hN.lt
     have l1 := hblk.lt
     obtain ⟨v2, x2⟩ := hblk.some_cell (i := 2) (by simp)
     have f2 := hblk.frozen 2
     obtain ⟨T, v, hTv⟩ := zQ NB g t
     have HN := GR hN
     have HTV := GR hTv
     have HC2 : Hid (∀ n, Calls Tryz.prog 119 #[.slice (some ⟨NB, 0, none⟩) g.length g.length, .string t] ((wr.alloc (.cells #[.string s, .string t] 45)).drewN n) fun e w' => e = .returned (.iface T v) ∧ ∃ m, w' = ((wr.alloc (.cells #[.string s, .string t] 45)).drewN n).drewN m) := fun n => by
      rw [← hTv]
      exact zR NB g _ g.length t _ ((HN.out.alloc _).below (ab _ n)) h26
     clear hblk hN hTv
     go_wp2_with fail
     have HC3 : Hid (Calls Tryz.prog 119 #[.slice (some ⟨NB, 0, none⟩) g.length g.length, .string t] ((wr.alloc (.cells #[.string s, .string t] 45)).drew) fun e w' => e = .returned (.iface T v) ∧ ∃ m, w' = ((wr.alloc (.cells #[.string s, .string t] 45)).drew).drewN m) := HC2.out 1
     go_region_with (go_at_call 119; refine HC3.out.mono ?_; rintro e w' ⟨rfl, m, rfl⟩)
     all_goals
      go_wp2_with fail
      go_roundw
      case rel =>
       have hq := ((HN.out.alloc (.cells #[.string s, .string t] 45)).below (ab _ (1 + m))).set_ hlt HT.out
       rw [HTV.out] at hq
       exact ⟨k + 1, by omega, by go_num, hq, (af (hB2.alloc hB2.size _) (ab _ (1 + m))).setCell (p := ⟨nb NB k, 2, none⟩) (by show w.heap.size ≤ nb NB k; have := HNB.out; unfold nb; omega) _⟩
      case measure => simp [intOf]; omega
    ·go_wp2_with fail
     exact bodyPost_ret (v := .tuple #[.slice (some ⟨NB, 0, none⟩) g.length g.length, .bool true]) (by simp [results, Tryz.results71, go_sem]) rfl ⟨NB, HNB.out, rfl, Nodes.done ((show k = g.length by omega) ▸ hN), hB2⟩
end Go.Proofs.YtlkfakdghjaoaaaGreatDoor
namespace Go.Proofs.YtlkfakdghjaoaaaGreatDoor
open Go.RowKit Go.Sort
def Pts (w : World) (A : Option Addr) (ns : List (Nat × ByteArray)) : Prop :=
 0 < ns.length → ∃ b off, A = some ⟨b, off, none⟩ ∧ b < w.heap.size ∧ ∀ k (h : k < ns.length), w.cell? ⟨b, off + k, none⟩ = some (.pointer (some ⟨ns[k].1, 0, none⟩)) ∧ ns[k].1 < w.heap.size ∧ w.cell? ⟨ns[k].1, 1, none⟩ = some (.string ns[k].2)
theorem Pts.below {w w' : World} {A : Option Addr} {ns : List (Nat × ByteArray)} (h : Pts w A ns) (hb : Below w.heap.size w w') : Pts w' A ns := by
 intro hn
 obtain ⟨b, off, rfl, hlt, hc⟩ := h hn
 have hs := hb.size
 exact ⟨b, off, rfl, by omega, fun k hk => ⟨(hb.cell (p := ⟨b, off + k, none⟩) hlt).trans (hc k hk).1, by have := (hc k hk).2.1; omega, (hb.cell (p := ⟨ns[k].1, 1, none⟩) (hc k hk).2.1).trans (hc k hk).2.2⟩⟩
def cn : List (Nat × ByteArray) → ByteArray
 | [] => ⟨#[]⟩
 | n :: ns => n.2 ++ cn ns
theorem jr (a b : List (Nat × ByteArray)) : cn (a ++ b) = cn a ++ cn b := by
 induction a with
 | nil => exact (fK _).symm
 | cons n a ih => simp only [List.cons_append, cn, ih, dh]
theorem xJ (ns : List (Nat × ByteArray)) (k : Nat) (h : k < ns.length) : cn (ns.take (k + 1)) = cn (ns.take k) ++ ns[k].2 := by
 rw [List.take_succ_eq_append_getElem h, jr]; simp only [cn, cC]
theorem pU (ns : List (Nat × ByteArray)) (k : Nat) : (cn (ns.take k)).size ≤ (cn ns).size := by
 have := jr (ns.take k) (ns.drop k)
 rw [List.take_append_drop] at this
 rw [this, ByteArray.size_append]; omega
theorem mG (A : Option Addr) (cap : Nat) (ns : List (Nat × ByteArray)) (w : World) (hp : Pts w A ns) (hn : ns.length ≤ 1048576) (hj : (cn ns).size ≤ 1048576) :
  Calls Tryz.prog 60 #[.slice A ns.length cap] w fun e w' => e = .returned (.string (cn ns)) ∧ Below w.heap.size w w' := by
 have HB0 := GR (AC w)
 go_enter Tryz.func60, Tryz.ntmps60
 go_wp2_with fail
 go_loopw [8] (fun i wr => ∃ k : Nat, k ≤ ns.length ∧ i = .int .i64 k ∧ Bd w.heap.size w.heap.size (Lib.strCells (cn (ns.take k))) wr ∧ Below w.heap.size w wr) (fun i _ => ns.length - (intOf i).toNat)
 case atStart => exact ⟨0, Nat.zero_le _, rfl, HB0.out, (Below.refl _ _).alloc (Nat.le_refl _) _⟩
 case round =>
  obtain ⟨k, hk, rfl, hbd, hB⟩ := hrel
  have HBD := GR hbd
  clear hbd
  by_cases hlt : k < ns.length
  ·obtain ⟨b, off, rfl, hb, hc⟩ := (hp.below hB) (by omega)
   obtain ⟨x0, l0, x1⟩ := hc k hlt
   have hs1 := xJ ns k hlt
   have hs2 := pU ns (k + 1)
   obtain ⟨q, s, hqs⟩ : ∃ q s, ns[k] = (q, s) := ⟨_, _, rfl⟩
   rw [hqs] at x0 l0 x1 hs1
   have x0' : wr.cell? ⟨b, off + k, none⟩ = some (.pointer (some ⟨q, 0, none⟩)) := x0
   have x1' : wr.cell? ⟨q, 1, none⟩ = some (.string s) := x1
   have hsz : (cn (ns.take k)).size + s.size ≤ 1048576 := by
    rw [hs1, ByteArray.size_append] at hs2
    have : ((q, s) : Nat × ByteArray).2.size = s.size := rfl
    omega
   have HS1 : Hid (cn (ns.take (k + 1)) = cn (ns.take k) ++ s) := hs1
   clear x0 x1 l0 hs1 hs2 hqs hc
   go_wp2_with fail
   refine (sB w.heap.size w.heap.size _ s _ HBD.out (by rw [Lib.strCells_length]; exact hsz) hB.size).mono ?_
   rintro e w1 ⟨rfl, hbd1, hb1⟩
   have HBD1 := GR hbd1
   clear hbd1
   go_wp2_with fail
   go_roundw
   case rel => exact ⟨k + 1, by omega, by go_num, by rw [HS1.out, nr]; exact HBD1.out, hB.trans hb1⟩
   case measure => simp [intOf]; omega
  ·have HE := GR (show cn (ns.take k) = cn ns by rw [List.take_of_length_le (by omega)])
   go_wp2_with fail
   refine (qh w.heap.size w.heap.size (cn ns) _ (HE.out ▸ HBD.out) hB.size).mono ?_
   rintro e w1 ⟨rfl, hb1⟩
   go_wp2_with fail
   go_ret
   exact ⟨rfl, hB.trans hb1⟩
end Go.Proofs.YtlkfakdghjaoaaaGreatDoor
namespace Go.Proofs.YtlkfakdghjaoaaaGreatDoor
open Go.RowKit Go.Sort
theorem qU {a a' : ByteArray} {b b' : Bool} (h1 : a = a') (h2 : b = b') : Ending.returned (.tuple #[.string a, .bool b]) = .returned (.tuple #[.string a', .bool b']) := by rw [h1, h2]
theorem tt (A : Option Addr) (cap : Nat) (w : World) :
  Calls Tryz.prog 60 #[.slice A 0 cap] w fun e w' => e = .returned (.string ⟨#[]⟩) ∧ Below w.heap.size w w' :=
 mG A cap [] w (fun h => absurd h (by simp)) (Nat.zero_le _) (Nat.zero_le _)
end Go.Proofs.YtlkfakdghjaoaaaGreatDoor
namespace Go.Proofs.YtlkfakdghjaoaaaGreatDoor
open Go.RowKit Go.Sort
theorem nW (w : World) : Calls Tryz.prog 295 #[.agg #[]] w fun e w' => e = .returned (.slice none 0 0) ∧ Below w.heap.size w w' := by
 go_enter Tryz.func295, Tryz.ntmps295
 go_wp2
 go_ret
 exact ⟨rfl, (Below.refl _ _).alloc (Nat.le_refl _) _⟩
theorem nX (u : Option Addr) (w : World) : Calls Tryz.prog 290 #[.agg #[.pointer u]] w fun e w' => e = .returned (.slice (some ⟨w.heap.size + 1, 0, none⟩) 1 1) ∧ Blk w' (w.heap.size + 1) 95 #[.pointer u] ∧ Below w.heap.size w w' := by
 go_enter Tryz.func290, Tryz.ntmps290
 go_wp2
 go_ret
 refine ⟨rfl, ?_, ((Below.refl _ _).alloc (Nat.le_refl _) _).alloc (by simp) _⟩
 have := Blk.new (w.alloc (.cells #[.pointer u] 191)) 95 #[.pointer u]
 simpa using this
theorem lL (u v : Option Addr) (w : World) : Calls Tryz.prog 291 #[.agg #[.pointer u, .pointer v]] w fun e w' => e = .returned (.slice (some ⟨w.heap.size + 1, 0, none⟩) 2 2) ∧ Blk w' (w.heap.size + 1) 95 #[.pointer u, .pointer v] ∧ Below w.heap.size w w' := by
 go_enter Tryz.func291, Tryz.ntmps291
 go_wp2
 go_ret
 refine ⟨rfl, ?_, ((Below.refl _ _).alloc (Nat.le_refl _) _).alloc (by simp) _⟩
 have := Blk.new (w.alloc (.cells #[.pointer u, .pointer v] 193)) 95 #[.pointer u, .pointer v]
 simpa using this
def dR (NB : Nat) (g : List Bl) (next : ByteArray) : List (Nat × ByteArray) :=
 if next.size = 1 then [(nb NB ((aP g next).getD 0), next)]
 else if next.size = 2 then [(nb NB ((aP g (next.extract 0 1)).getD 0), next.extract 0 1), (nb NB ((aP g (next.extract 1 next.size)).getD 0), next.extract 1 next.size)]
 else []
def Dz (NB : Nat) (g : List Bl) (next : ByteArray) (w : World) (e : Ending) (w' : World) : Prop :=
 ∃ A, e = .returned (.slice A next.size next.size) ∧ Pts w' A (dR NB g next) ∧ Below w.heap.size w w'
theorem tu {g : List Bl} {c : UInt8} : c ∈ (names g).data.toList ↔ ∃ b ∈ g, c ∈ b.1.data.toList := by
 induction g with
 | nil => simp [names]
 | cons b g ih => rw [names, dy, List.mem_append, ih]; simp
theorem pV {g : List Bl} {s : ByteArray} {i : Nat} (h : aP g s = some i) : ∃ h : i < g.length, g[i].1 = s := by
 unfold aP at h
 have h1 := List.find?_some h
 have h2 := List.mem_range.1 (List.mem_of_find?_eq_some h)
 rw [al h2] at h1
 exact ⟨h2, by simpa using h1⟩
theorem BN {g : List Bl} {s : ByteArray} {b : Bl} (hb : b ∈ g) (hs : b.1 = s) : ∃ i, aP g s = some i := by
 cases h : aP g s with
 | some i => exact ⟨i, rfl⟩
 | none =>
  obtain ⟨k, hk, rfl⟩ := List.getElem_of_mem hb
  unfold aP at h
  have := List.find?_eq_none.1 h k (List.mem_range.2 hk)
  rw [al hk, hs] at this
  simp at this
theorem a8 {g : List Bl} (hv : aa g = true) {b : Bl} (hb : b ∈ g) : ∃ c, b.1 = ⟨#[c]⟩ ∧ a7 c = true := by
 obtain ⟨k, hk, rfl⟩ := List.getElem_of_mem hb
 have := i7.1 (aj.1 hv).2.2.1 k hk
 unfold iz at this
 exact oS (Bool.and_eq_true_iff.1 this).1
theorem d8 {g : List Bl} (hv : aa g = true) {k : Nat} (hk : k < g.length) {j : Nat} (hj : j < g[k].2.size) :
  ∃ i, ∃ h : i < g.length, aP g ⟨#[g[k].2[j]'hj]⟩ = some i ∧ g[i].1 = ⟨#[g[k].2[j]'hj]⟩ := by
 have hn := bG.1 (cR.1 (aj.1 hv).2.2.2 k hk)
 have hm := eT.1 (hn.2.1 j hj)
 obtain ⟨b, hb, hcb⟩ := tu.1 hm
 obtain ⟨c, hc, _⟩ := a8 hv hb
 have hcc : c = g[k].2[j]'hj := by rw [hc] at hcb; have h4 : g[k].2[j]'hj = c := by simpa using hcb
                                   exact h4.symm
 obtain ⟨i, hi⟩ := BN hb (hcc ▸ hc)
 obtain ⟨h1, h2⟩ := pV hi
 exact ⟨i, h1, hi, h2⟩
theorem mH {s : ByteArray} (h : s.size = 1) : s = ⟨#[s[0]'(by omega)]⟩ := by
 apply bg
 have hl : s.data.toList.length = 1 := by simpa using h
 obtain ⟨c, hc⟩ := List.length_eq_one_iff.1 hl
 have := aF s 0 (by omega)
 rw [hc] at this
 rw [hc]
 simpa using this
theorem d9 (s : ByteArray) {a b : Nat} (h : a < b) (hb : b ≤ s.size) (h1 : b - a = 1) : s.extract a b = ⟨#[s[a]'(by omega)]⟩ := by
 apply bg
 rw [← Lib.toList_data, Lib.extract_toList]
 have h2 := aF s a (by omega)
 have h3 : (s.data.toList.drop a)[0]? = some (s[a]'(by omega)) := by rw [List.getElem?_drop]; simpa using h2
 rw [h1]
 cases hd : s.data.toList.drop a with
 | nil => rw [hd] at h3; simp at h3
 | cons x l => rw [hd] at h3; simp at h3; simp [h3]
theorem Nodes.at_ {w : World} {NB : Nat} {g : List Bl} {E : Nat → Value} (h : Nodes w NB g E) {i : Nat} (hi : i < g.length) : nb NB i < w.heap.size ∧ w.cell? ⟨nb NB i, 1, none⟩ = some (.string g[i].1) := by
 refine ⟨(h.node i hi).lt, ?_⟩
 have := (h.node i hi).cell 1
 simpa using this
theorem ft (NB : Nat) (g : List Bl) {next : ByteArray} (h : next.size ≤ 2) : (dR NB g next).length = next.size := by
 unfold dR
 by_cases h1 : next.size = 1
 ·rw [if_pos h1, h1]; rfl
 ·by_cases h2 : next.size = 2
  ·rw [if_neg h1, if_pos h2, h2]; rfl
  ·rw [if_neg h1, if_neg h2]; simp; omega
structure Disp (NB : Nat) (g : List Bl) (next : ByteArray) (T : TypeId) (v : Value) (F : FuncId) : Prop where
 val : fH NB g next = .iface T v
 look : ∀ w, (method 441 T v "loop.example/structuredjumps/impl.targets").run Tryz.prog w = .ok (F, v) w
 enter : ∀ args w, (callFunc F args).run Tryz.prog w = .ok (.enter F args) w
 goes : ∀ w E, Nodes w NB g E → Calls Tryz.prog F #[v] w (Dz NB g next w)
theorem tw (w : World) : (method 441 230 (.agg #[]) "loop.example/structuredjumps/impl.targets").run Tryz.prog w = .ok (295, .agg #[]) w := by kernel_rfl
theorem tz (u : Value) (w : World) : (method 441 191 (.agg #[u]) "loop.example/structuredjumps/impl.targets").run Tryz.prog w = .ok (290, .agg #[u]) w := by kernel_rfl
theorem pi (u v : Value) (w : World) : (method 441 193 (.agg #[u, v]) "loop.example/structuredjumps/impl.targets").run Tryz.prog w = .ok (291, .agg #[u, v]) w := by kernel_rfl
theorem GK {NB : Nat} {g : List Bl} (hv : aa g = true) {k : Nat} (hk : k < g.length) : ∃ T v F, Disp NB g g[k].2 T v F := by
 have h2 := (bG.1 (cR.1 (aj.1 hv).2.2.2 k hk)).1
 by_cases e1 : g[k].2.size = 1
 ·obtain ⟨i, hi, hp, hs⟩ := d8 hv hk (j := 0) (by omega)
  rw [← mH e1] at hp hs
  refine ⟨_, _, _, by unfold fH; rw [if_pos e1, hp], fun w => tz _ w, enters_of Tryz.func290 (by kernel_rfl) rfl, fun w E hN => ?_⟩
  refine (nX _ w).mono ?_
  rintro e w' ⟨rfl, hb, hB⟩
  refine ⟨some ⟨w.heap.size + 1, 0, none⟩, by rw [e1], fun _ => ⟨_, 0, rfl, hb.lt, fun j hj => ?_⟩, hB⟩
  have e : dR NB g g[k].2 = [(nb NB i, g[k].2)] := by unfold dR; rw [if_pos e1, hp]; rfl
  have hj0 : j = 0 := by rw [e] at hj; simpa using hj
  subst hj0
  have hx : (dR NB g g[k].2)[0] = (nb NB i, g[k].2) := by simp [e]
  rw [hx]
  obtain ⟨q1, q2⟩ := (hN.below hB).at_ hi
  rw [hs] at q2
  exact ⟨by rw [hb.cell]; rfl, q1, q2⟩
 ·by_cases e2 : g[k].2.size = 2
  ·obtain ⟨i, hi, hp, hs⟩ := d8 hv hk (j := 0) (by omega)
   obtain ⟨i', hi', hp', hs'⟩ := d8 hv hk (j := 1) (by omega)
   rw [← d9 g[k].2 (a := 0) (b := 1) (by omega) (by omega) rfl] at hp hs
   rw [← d9 g[k].2 (a := 1) (b := g[k].2.size) (by omega) (by omega) (by omega)] at hp' hs'
   refine ⟨_, _, _, by unfold fH; rw [if_neg e1, if_pos e2, hp, hp'], fun w => pi _ _ w, enters_of Tryz.func291 (by kernel_rfl) rfl, fun w E hN => ?_⟩
   refine (lL _ _ w).mono ?_
   rintro e w' ⟨rfl, hb, hB⟩
   refine ⟨some ⟨w.heap.size + 1, 0, none⟩, by rw [e2], fun _ => ⟨_, 0, rfl, hb.lt, fun j hj => ?_⟩, hB⟩
   have e : dR NB g g[k].2 = [(nb NB i, g[k].2.extract 0 1), (nb NB i', g[k].2.extract 1 g[k].2.size)] := by unfold dR; rw [if_neg e1, if_pos e2, hp, hp']; rfl
   have hj0 : j = 0 ∨ j = 1 := by rw [e] at hj; simp at hj; omega
   rcases hj0 with rfl | rfl
   ·have hx : (dR NB g g[k].2)[0] = (nb NB i, g[k].2.extract 0 1) := by simp [e]
    rw [hx]
    obtain ⟨q1, q2⟩ := (hN.below hB).at_ hi
    rw [hs] at q2
    exact ⟨by rw [hb.cell]; rfl, q1, q2⟩
   ·have hx : (dR NB g g[k].2)[1] = (nb NB i', g[k].2.extract 1 g[k].2.size) := by simp [e]
    rw [hx]
    obtain ⟨q1, q2⟩ := (hN.below hB).at_ hi'
    rw [hs'] at q2
    exact ⟨by rw [hb.cell]; rfl, q1, q2⟩
  ·refine ⟨_, _, _, by unfold fH; rw [if_neg e1, if_neg e2], fun w => tw w, enters_of Tryz.func295 (by kernel_rfl) rfl, fun w E _ => ?_⟩
   refine (nW w).mono ?_
   rintro e w' ⟨rfl, hB⟩
   have e0 : g[k].2.size = 0 := by omega
   refine ⟨none, by rw [e0], fun h => absurd h ?_, hB⟩
   rw [ft NB g h2]; omega
end Go.Proofs.YtlkfakdghjaoaaaGreatDoor
namespace Go.Proofs.YtlkfakdghjaoaaaGreatDoor
open Go.RowKit Go.Sort
def iI (g : List Bl) (s : ByteArray) : Bool := aa g && (aP g s).isSome
theorem zS {g : List Bl} {s : ByteArray} (h : aa g = false) : iI g s = false := by unfold iI; rw [h]; rfl
theorem vK {g : List Bl} {s : ByteArray} (hp : aP g s = none) : iI g s = false := by unfold iI; rw [hp]; simp
theorem vL {g : List Bl} {s : ByteArray} {i : Nat} (h : aa g = true) (hp : aP g s = some i) : iI g s = true := by unfold iI; rw [h, hp]; rfl
def BO : Option Nat → Int
 | some i => i
 | none => -1
theorem tA (A : Option Addr) (cap : Nat) (g : List Bl) (s : ByteArray) (w : World) (hg : Gr w A g) (hn : g.length ≤ 1048576) :
  Calls Tryz.prog 76 #[.slice A g.length cap, .string s] w fun e w' => e = .returned (.int .i64 (BO (aP g s))) ∧ Below w.heap.size w w' := by
 go_enter Tryz.func76, Tryz.ntmps76
 go_wp2_with fail
 go_loopw [9] (fun i wr => ∃ k : Nat, k ≤ g.length ∧ i = .int .i64 k ∧ Hid (∀ j (h : j < g.length), j < k → g[j].1 ≠ s) ∧ Below w.heap.size w wr) (fun i _ => g.length - (intOf i).toNat)
 case atStart => exact ⟨0, Nat.zero_le _, rfl, fun j _ h => absurd h (by omega), Below.refl _ _⟩
 case round =>
  obtain ⟨k, hk, rfl, HK, hB⟩ := hrel
  by_cases hlt : k < g.length
  ·obtain ⟨b, off, t, t2, rfl, hb, hc0, hc1, he, he2⟩ := gn (hg.below hB) hlt
   have HE := GR he
   clear he he2
   by_cases hq : (t.toList == s.toList) = true
   ·have HP := GR (show aP g s = some k from mE hlt (HE.out.trans (dS.1 hq)) HK.out)
    go_wp2_with fail
    go_ret
    exact ⟨bz (by rw [HP.out]; rfl), hB.alloc hB.size _⟩
   ·have hq' : (t.toList == s.toList) = false := by simpa using hq
    have HNE := GR (show g[k].1 ≠ s from fun e => hq (dS.2 (HE.out.symm.trans e)))
    clear hq
    go_wp2_with fail
    go_roundw
    case rel =>
     refine ⟨k + 1, by omega, by go_num, fun j h hj => ?_, hB.alloc hB.size _⟩
     rcases Nat.lt_succ_iff_lt_or_eq.1 hj with hj | rfl
     ·exact HK.out j h hj
     ·exact HNE.out
    case measure => simp [intOf]; omega
  ·have HP := GR (show aP g s = none from qT fun j h => HK.out j h (by omega))
   go_wp2_with fail
   go_ret
   exact ⟨bz (by rw [HP.out]; rfl), hB⟩
theorem gq (A : Option Addr) (cap : Nat) (g : List Bl) (s : ByteArray) (i : Nat) (w : World) (hg : Gr w A g) (hn : g.length ≤ 1048576) (hp : aP g s = some i) (hi : i < g.length) :
  Calls Tryz.prog 180 #[.slice A g.length cap, .string s] w fun e w' => e = .returned (.string g[i].2) ∧ Below w.heap.size w w' := by
 have hc := tA A cap g s w hg hn
 rw [hp] at hc
 have HC : Hid (Calls Tryz.prog 76 #[.slice A g.length cap, .string s] w fun e w' => e = .returned (.int .i64 (i : Int)) ∧ Below w.heap.size w w') := hc
 clear hc hp
 obtain ⟨b, off, t, t2, rfl, hb, hc0, hc1, he, he2⟩ := gn hg hi
 have HE := GR he2
 clear he he2
 go_enter Tryz.func180, Tryz.ntmps180
 go_wp2_with fail
 refine HC.out.mono ?_
 rintro e w1 ⟨rfl, b1⟩
 have c1 := (b1.cell (p := ⟨b, off + i * 2 + 1, none⟩) hb).trans hc1
 go_wp2_with fail
 go_ret
 exact ⟨by rw [HE.out]; rfl, b1⟩
end Go.Proofs.YtlkfakdghjaoaaaGreatDoor
