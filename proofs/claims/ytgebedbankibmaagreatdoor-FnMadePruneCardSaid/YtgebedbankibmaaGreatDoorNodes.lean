/-
  Contracts of the functions that make the nodes of a graph: blocks of memory that point to each other.
-/
import Derived.Test.YtgebedbankibmaaGreatDoorBuild
import Derived.Test.YtgebedbankibmaaGreatDoorValids
namespace Go.Proofs.YtgebedbankibmaaGreatDoor
open Go.RowKit Go.Sort

theorem ret_val {a b : Value} (h : a = b) : Ending.returned a = .returned b := by rw [h]

/-- The block of node i of a graph whose row of nodes is block NB. -/
abbrev nb (NB i : Nat) : Nat := NB + 2 + 2 * i
abbrev nptr (NB i : Nat) : Value := .pointer (some ⟨nb NB i, 0, none⟩)

/-- Where a name stands. -/
def posOf (g : List Bl) (s : ByteArray) : Option Nat := (List.range g.length).find? fun i => decide (nthName g i = s)

theorem posOf_some {g : List Bl} {s : ByteArray} {k : Nat} (h : k < g.length) (hk : g[k].1 = s) (hb : ∀ j (h' : j < g.length), j < k → g[j].1 ≠ s) : posOf g s = some k := by
  unfold posOf
  rw [List.find?_range_eq_some]
  refine ⟨by rw [nthName_at h, hk]; simp, by simpa using h, fun j hj => ?_⟩
  rw [nthName_at (by omega)]
  have := hb j (by omega) hj
  simpa using this

theorem posOf_none {g : List Bl} {s : ByteArray} (hb : ∀ j (h' : j < g.length), g[j].1 ≠ s) : posOf g s = none := by
  unfold posOf
  rw [List.find?_eq_none]
  intro j hj
  have hj' := List.mem_range.1 hj
  rw [nthName_at hj']
  simpa using hb j hj'

def ptrAt (NB : Nat) : Option Nat → Value
  | some i => nptr NB i
  | none => .pointer none

/-- The nodes of a graph, each with an ending. -/
structure Nodes (w : World) (NB : Nat) (g : List Bl) (E : Nat → Value) : Prop where
  row : ∃ cs, Blk w NB 54 cs ∧ cs.size = g.length ∧ ∀ i, i < g.length → cs[i]? = some (nptr NB i)
  node : ∀ i (h : i < g.length), Blk w (nb NB i) 60 #[.int .i64 i, .string g[i].1, E i]

theorem Nodes.lt {w : World} {NB : Nat} {g : List Bl} {E : Nat → Value} (h : Nodes w NB g E) : NB < w.heap.size := by
  obtain ⟨cs, hb, _⟩ := h.row; exact hb.lt

theorem Nodes.keep {w w' : World} {NB : Nat} {g : List Bl} {E : Nat → Value} (h : Nodes w NB g E) (hk : ∀ b, b < w.heap.size → w'.heap[b]? = w.heap[b]?) : Nodes w' NB g E :=
  ⟨by obtain ⟨cs, hb, hr⟩ := h.row; exact ⟨cs, (hk _ hb.lt).trans hb, hr⟩, fun i hi => (hk _ (h.node i hi).lt).trans (h.node i hi)⟩

theorem Nodes.below {w w' : World} {NB : Nat} {g : List Bl} {E : Nat → Value} (h : Nodes w NB g E) (hb : Below w.heap.size w w') : Nodes w' NB g E :=
  h.keep fun b hlt => hb.block b hlt

theorem Nodes.ptr {w : World} {NB : Nat} {g : List Bl} {E : Nat → Value} (h : Nodes w NB g E) {i : Nat} (hi : i < g.length) : w.cell? ⟨NB, i, none⟩ = some (nptr NB i) := by
  obtain ⟨cs, hb, _, hr⟩ := h.row
  rw [hb.cell]; exact hr i hi

set_option maxHeartbeats 400000 in
theorem named_any (NB : Nat) (g : List Bl) (E : Nat → Value) (cap : Nat) (s : ByteArray) (w : World) (hN : Nodes w NB g E) (hn : g.length ≤ 26) :
    Calls Tryz.prog 133 #[.slice (some ⟨NB, 0, none⟩) g.length cap, .string s] w fun e w' => e = .returned (ptrAt NB (posOf g s)) ∧ w = w' := by
  go_enter Tryz.func133, Tryz.ntmps133
  go_wp2
  go_loop [9] (fun i => ∃ k : Nat, k ≤ g.length ∧ i = .int .i64 k ∧ Hid (∀ j (h : j < g.length), j < k → g[j].1 ≠ s)) (fun i => g.length - (intOf i).toNat)
  case atStart => exact ⟨0, Nat.zero_le _, rfl, fun j _ h => absurd h (by omega)⟩
  case round =>
    obtain ⟨k, hk, rfl, HK⟩ := hrel
    by_cases hlt : k < g.length
    · have c0 := hN.ptr hlt
      have c1 := (hN.node k hlt).cell 1
      obtain ⟨t, ht⟩ : ∃ t, t = g[k].1 := ⟨_, rfl⟩
      rw [← ht] at c1
      have HT := Lib.hid ht
      clear ht
      by_cases hq : (t.toList == s.toList) = true
      · have HP := Lib.hid (show posOf g s = some k from posOf_some hlt (HT.out ▸ beq_toList.1 hq) HK.out)
        go_wp2
        go_ret
        exact ⟨by rw [HP.out]; rfl, rfl⟩
      · have hq' : (t.toList == s.toList) = false := by simpa using hq
        have HNE := Lib.hid (show g[k].1 ≠ s from fun e => hq (beq_toList.2 (HT.out.trans e)))
        clear hq
        go_wp2
        go_round
        case rel =>
          refine ⟨k + 1, by omega, by go_num, fun j h hj => ?_⟩
          rcases Nat.lt_succ_iff_lt_or_eq.1 hj with hj | rfl
          · exact HK.out j h hj
          · exact HNE.out
        case measure => simp [intOf]; omega
    · have HP := Lib.hid (show posOf g s = none from posOf_none fun j h => HK.out j h (by omega))
      go_wp2
      go_ret
      exact ⟨by rw [HP.out]; rfl, rfl⟩

def endV (NB : Nat) (g : List Bl) (next : ByteArray) : Value :=
  if next.size = 1 then .iface 211 (.agg #[ptrAt NB (posOf g next)])
  else if next.size = 2 then .iface 213 (.agg #[ptrAt NB (posOf g (next.extract 0 1)), ptrAt NB (posOf g (next.extract 1 next.size))])
  else .iface 215 (.agg #[])

theorem endV_iface (NB : Nat) (g : List Bl) (next : ByteArray) : ∃ T v, endV NB g next = .iface T v := by
  unfold endV
  split
  · exact ⟨_, _, rfl⟩
  · split
    · exact ⟨_, _, rfl⟩
    · exact ⟨_, _, rfl⟩

theorem ptrAt_pointer (NB : Nat) (o : Option Nat) : ∃ u, ptrAt NB o = .pointer u := by
  cases o with
  | none => exact ⟨none, rfl⟩
  | some i => exact ⟨_, rfl⟩

set_option maxHeartbeats 400000 in
theorem ending_any (NB : Nat) (g : List Bl) (E : Nat → Value) (cap : Nat) (s : ByteArray) (w : World) (hN : Nodes w NB g E) (hn : g.length ≤ 26) :
    Calls Tryz.prog 92 #[.slice (some ⟨NB, 0, none⟩) g.length cap, .string s] w fun e w' => e = .returned (endV NB g s) ∧ ∃ n, w' = w.drewN n := by
  by_cases h1 : s.size = 1
  · have HE := Lib.hid (show endV NB g s = .iface 211 (.agg #[ptrAt NB (posOf g s)]) by unfold endV; rw [if_pos h1])
    obtain ⟨u, hu⟩ := ptrAt_pointer NB (posOf g s)
    rw [hu] at HE
    have HU := Lib.hid hu
    have g1 : ((s.size : Int) == 1) = true := by rw [h1]; rfl
    clear h1 hu
    go_enter Tryz.func92, Tryz.ntmps92
    go_wp2_with fail
    refine (named_any NB g E cap s w hN hn).mono ?_
    rintro e w' ⟨rfl, rfl⟩
    rw [HU.out]
    go_wp2
    go_ret
    exact ⟨ret_val HE.out.symm, 0, rfl⟩
  · by_cases h2 : s.size = 2
    · have HE := Lib.hid (show endV NB g s = .iface 213 (.agg #[ptrAt NB (posOf g (s.extract 0 1)), ptrAt NB (posOf g (s.extract 1 s.size))]) by unfold endV; rw [if_neg h1, if_pos h2])
      obtain ⟨u, hu⟩ := ptrAt_pointer NB (posOf g (s.extract 0 1))
      obtain ⟨v, hv⟩ := ptrAt_pointer NB (posOf g (s.extract 1 s.size))
      rw [hu, hv] at HE
      have cU : ∀ n, Calls Tryz.prog 133 #[.slice (some ⟨NB, 0, none⟩) g.length cap, .string (s.extract 0 1)] (w.drewN n) fun e w'' => e = .returned (.pointer u) ∧ ∃ m, w'' = w.drewN m := fun n => by
        have := named_any NB g E cap (s.extract 0 1) (w.drewN n) (hN.below (below_drewN w n)) hn
        rw [hu] at this
        exact Calls.quiet_of_same (this.mono fun _ _ ⟨a, b⟩ => ⟨a, b.symm⟩)
      have cV : ∀ n, Calls Tryz.prog 133 #[.slice (some ⟨NB, 0, none⟩) g.length cap, .string (s.extract 1 s.size)] (w.drewN n) fun e w'' => e = .returned (.pointer v) ∧ ∃ m, w'' = w.drewN m := fun n => by
        have := named_any NB g E cap (s.extract 1 s.size) (w.drewN n) (hN.below (below_drewN w n)) hn
        rw [hv] at this
        exact Calls.quiet_of_same (this.mono fun _ _ ⟨a, b⟩ => ⟨a, b.symm⟩)
      have g1 : ((s.size : Int) == 1) = false := by simp; omega
      have g2 : ((s.size : Int) == 2) = true := by rw [h2]; rfl
      have l1 : 1 ≤ s.size := by omega
      have l2 : (1 : Int) ≤ s.size := by omega
      clear h1 h2 hu hv
      go_enter Tryz.func92, Tryz.ntmps92
      go_wp2_with fail
      go_quiet (first | with_reducible exact cU _ | with_reducible exact cV _)
      go_wp2
      go_ret
      exact ⟨ret_val HE.out.symm, nq, rfl⟩
    · have HE := Lib.hid (show endV NB g s = .iface 215 (.agg #[]) by unfold endV; rw [if_neg h1, if_neg h2])
      have g1 : ((s.size : Int) == 1) = false := by simp; omega
      have g2 : ((s.size : Int) == 2) = false := by simp; omega
      clear h1 h2
      go_enter Tryz.func92, Tryz.ntmps92
      go_wp2
      go_ret
      exact ⟨ret_val HE.out.symm, 0, rfl⟩

def nthNext (g : List Bl) (k : Nat) : ByteArray := (g.map (·.2)).getD k ⟨#[]⟩
theorem nthNext_at {g : List Bl} {k : Nat} (h : k < g.length) : nthNext g k = g[k].2 := by
  unfold nthNext
  rw [List.getD_eq_getElem?_getD, List.getElem?_map, List.getElem?_eq_getElem h]; rfl

def ends (NB : Nat) (g : List Bl) (i : Nat) : Value := endV NB g (nthNext g i)

/-- While the nodes are made: the first k are there, without an ending. -/
structure Part (w : World) (NB : Nat) (g : List Bl) (k : Nat) : Prop where
  row : ∃ cs, Blk w NB 54 cs ∧ cs.size = g.length ∧ ∀ i, i < k → cs[i]? = some (nptr NB i)
  node : ∀ i (h : i < g.length), i < k → Blk w (nb NB i) 60 #[.int .i64 i, .string g[i].1, .nilIface]
  size : w.heap.size = NB + 1 + 2 * k

theorem Part.step {w : World} {NB : Nat} {g : List Bl} {k : Nat} {s : ByteArray} {o : Obj} (h : Part w NB g k) (hk : k < g.length) (hs : g[k].1 = s) :
    Part (((w.setCell ⟨NB, k, none⟩ (.pointer (some ⟨w.heap.size + 1, 0, none⟩))).alloc o).alloc (.cells #[.int .i64 k, .string s, .nilIface] 60)) NB g (k + 1) := by
  obtain ⟨cs, hb, hsz, hr⟩ := h.row
  have hz := h.size
  have hnb : w.heap.size + 1 = nb NB k := by unfold nb; omega
  rw [hnb]
  have hsz2 : (w.setCell ⟨NB, k, none⟩ (nptr NB k)).heap.size = w.heap.size := by simp
  refine ⟨⟨_, ((hb.set_ k _).alloc _).alloc _, by simpa using hsz, fun i hi => ?_⟩, fun i hi hik => ?_, ?_⟩
  · rw [Array.getElem?_setIfInBounds]
    by_cases e : k = i
    · subst e; rw [if_pos rfl, if_pos (by omega)]
    · rw [if_neg e]; exact hr i (by omega)
  · by_cases e : i = k
    · subst e
      have h2 := Blk.new ((w.setCell ⟨NB, i, none⟩ (nptr NB i)).alloc o) 60 #[.int .i64 (i : Int), .string s, .nilIface]
      have h3 : ((w.setCell ⟨NB, i, none⟩ (nptr NB i)).alloc o).heap.size = nb NB i := by unfold nb; simp; omega
      rw [h3] at h2
      rw [hs]; exact h2
    · have h4 : Blk (w.setCell ⟨NB, k, none⟩ (nptr NB k)) (nb NB i) 60 #[.int .i64 i, .string g[i].1, .nilIface] :=
        (Below.heap_setCell _ _ _ _ (by show nb NB i ≠ NB; unfold nb; omega)).trans (h.node i hi (by omega))
      exact (h4.alloc _).alloc _
  · simp; omega

/-- While the endings are laid: those of the first k are there. -/
def someEnds (NB : Nat) (g : List Bl) (k i : Nat) : Value := if i < k then ends NB g i else .nilIface

theorem Part.nodes {w : World} {NB : Nat} {g : List Bl} (h : Part w NB g g.length) : Nodes w NB g (someEnds NB g 0) :=
  ⟨h.row, fun i hi => by simpa [someEnds] using h.node i hi hi⟩

theorem Nodes.alloc {w : World} {NB : Nat} {g : List Bl} {E : Nat → Value} (h : Nodes w NB g E) (o : Obj) : Nodes (w.alloc o) NB g E :=
  h.keep fun b hlt => Below.heap_alloc w o b hlt

theorem Nodes.set_ {w : World} {NB : Nat} {g : List Bl} {k : Nat} {t : ByteArray} (h : Nodes w NB g (someEnds NB g k)) (hk : k < g.length) (ht : g[k].2 = t) :
    Nodes (w.setCell ⟨nb NB k, 2, none⟩ (endV NB g t)) NB g (someEnds NB g (k + 1)) := by
  obtain ⟨cs, hb, hr⟩ := h.row
  refine ⟨⟨cs, (Below.heap_setCell _ _ _ _ (by show NB ≠ nb NB k; unfold nb; omega)).trans hb, hr⟩, fun i hi => ?_⟩
  by_cases e : i = k
  · subst e
    have h2 := (h.node i hi).set_ 2 (endV NB g t)
    have e1 : someEnds NB g (i + 1) i = endV NB g t := by unfold someEnds ends; rw [if_pos (by omega), nthNext_at hi, ht]
    rw [e1]; exact h2
  · have e1 : someEnds NB g (k + 1) i = someEnds NB g k i := by
      unfold someEnds
      by_cases hlt : i < k
      · rw [if_pos hlt, if_pos (by omega)]
      · rw [if_neg hlt, if_neg (by omega)]
    rw [e1]
    exact (Below.heap_setCell _ _ _ _ (by show nb NB i ≠ nb NB k; unfold nb; omega)).trans (h.node i hi)

theorem Nodes.done {w : World} {NB : Nat} {g : List Bl} (h : Nodes w NB g (someEnds NB g g.length)) : Nodes w NB g (ends NB g) :=
  ⟨h.row, fun i hi => by have := h.node i hi; unfold someEnds at this; rwa [if_pos hi] at this⟩

theorem info_ptr : (Tryz.prog.info? 54).map (fun i => (i.zero, i.size, i.bytes)) = some (some (.pointer none), 1, 8) := by kernel_rfl

def NodesPost (w : World) (g : List Bl) (e : Ending) (w' : World) : Prop :=
  ∃ NB, w.heap.size ≤ NB ∧ e = .returned (.tuple #[.slice (some ⟨NB, 0, none⟩) g.length g.length, .bool true]) ∧ Nodes w' NB g (ends NB g) ∧ Below w.heap.size w w'

theorem nodesOf_no (A : Option Addr) (cap : Nat) (g : List Bl) (w : World) (hg : Gr w A g) (hn : g.length + tot g ≤ 1048576) (hv : validB g = false) :
    Calls Tryz.prog 58 #[.slice A g.length cap] w fun e w' => e = .returned (.tuple #[.slice none 0 0, .bool false]) ∧ Below w.heap.size w w' := by
  have hc := implValid_any A cap g w hg hn
  rw [hv] at hc
  have HC := Lib.hid hc
  clear hc hv
  go_enter Tryz.func58, Tryz.ntmps58
  go_wp2_with fail
  refine HC.out.mono ?_
  rintro e w1 ⟨rfl, b1⟩
  go_wp2_with fail
  go_ret2
  exact ⟨rfl, b1⟩

set_option maxHeartbeats 800000 in
theorem nodesOf_yes (A : Option Addr) (cap : Nat) (g : List Bl) (w : World) (hg : Gr w A g) (hn : g.length + tot g ≤ 1048576) (hv : validB g = true) :
    Calls Tryz.prog 58 #[.slice A g.length cap] w (NodesPost w g) := by
  have hc := implValid_any A cap g w hg hn
  rw [hv] at hc
  have HC := Lib.hid hc
  have h26 := (valid_iff.1 hv).2.1
  have hmk := run_make_row' (P := Tryz.prog) 51 54 (.pointer none) 8 Tryz.underlying51 info_ptr rfl .i64 .i64 g.length (by omega) (by omega)
  clear hc hv
  go_enter Tryz.func58, Tryz.ntmps58
  go_wp2_with fail
  refine HC.out.mono ?_
  rintro e w1 ⟨rfl, b1⟩
  go_wp2_with fail
  clear hmk
  obtain ⟨NB, hNB⟩ : ∃ NB, NB = w1.heap.size := ⟨_, rfl⟩
  have HNB : Hid (w.heap.size ≤ NB) := hNB ▸ b1.size
  have hp0 : Part (w1.alloc (.cells (madeCells #[.pointer none] g.length) 54)) NB g 0 := by
    rw [hNB]
    exact ⟨⟨_, Blk.new _ _ _, size_madeCells _ _, fun i hi => absurd hi (by omega)⟩, fun i _ hi => absurd hi (by omega), by simp⟩
  have HP0 := Lib.hid hp0
  have HBE := Lib.hid (b1.alloc b1.size (.cells (madeCells #[.pointer none] g.length) 54))
  rw [← hNB] at ⊢
  clear hNB b1 hp0
  go_loopw [17] (fun i wr => ∃ k : Nat, k ≤ g.length ∧ i = .int .i64 k ∧ Part wr NB g k ∧ Below w.heap.size w wr) (fun i _ => g.length - (intOf i).toNat)
  case atStart => exact ⟨0, Nat.zero_le _, rfl, HP0.out, HBE.out⟩
  case round =>
    obtain ⟨k, hk, rfl, hP, hB⟩ := hrel
    have HP := Lib.hid hP
    by_cases hlt : k < g.length
    · obtain ⟨b, off, s, t, rfl, hb, hc0, hc1, he, he2⟩ := gr_at (hg.below hB) hlt
      have HS := Lib.hid he
      obtain ⟨cs, hbk, hsz, _⟩ := hP.row
      have hlt2 := hbk.lt
      obtain ⟨v0, x0⟩ := hbk.some_cell (i := k) (by omega)
      have f0 := hbk.frozen k
      have hle := HNB.out
      clear he he2 hP hbk hsz
      go_wp2_with fail
      go_roundw
      case rel => exact ⟨k + 1, by omega, by go_num, HP.out.step hlt HS.out, ((hB.setCell (p := ⟨NB, k, none⟩) hle _).alloc (by simpa using hB.size) _).alloc (by have := hB.size; simp; omega) _⟩
      case measure => simp [intOf]; omega
    · have hkk : k = g.length := by omega
      have HN2 : Hid (Nodes wr NB g (someEnds NB g 0)) := (hkk ▸ hP).nodes
      clear hP hkk
      go_wp2_with fail
      obtain ⟨wo, hwo⟩ : ∃ wo : World, wo = wr := ⟨_, rfl⟩
      rw [← hwo] at hB HN2 ⊢
      clear hwo HP
      go_loopw [33] (fun i wr => ∃ k : Nat, k ≤ g.length ∧ i = .int .i64 k ∧ Nodes wr NB g (someEnds NB g k) ∧ Below w.heap.size w wr) (fun i _ => g.length - (intOf i).toNat)
      case atStart => exact ⟨0, Nat.zero_le _, rfl, HN2.out, hB⟩
      case round =>
        obtain ⟨k, hk, rfl, hN, hB2⟩ := hrel
        by_cases hlt : k < g.length
        · obtain ⟨b, off, s, t, rfl, hb, hc0, hc1, he, he2⟩ := gr_at (hg.below hB2) hlt
          have HT := Lib.hid he2
          have hts := tot_get g k hlt
          rw [he, he2] at hts
          clear he he2
          have x0 := hN.ptr hlt
          have hblk := hN.node k hlt
          have l0 := hN.lt
          have l1 := hblk.lt
          obtain ⟨v2, x2⟩ := hblk.some_cell (i := 2) (by simp)
          have f2 := hblk.frozen 2
          obtain ⟨T, v, hTv⟩ := endV_iface NB g t
          have HN := Lib.hid hN
          have HTV := Lib.hid hTv
          have HC2 : Hid (∀ n, Calls Tryz.prog 92 #[.slice (some ⟨NB, 0, none⟩) g.length g.length, .string t] ((wr.alloc (.cells #[.string s, .string t] 56)).drewN n) fun e w' => e = .returned (.iface T v) ∧ ∃ m, w' = ((wr.alloc (.cells #[.string s, .string t] 56)).drewN n).drewN m) := fun n => by
            rw [← hTv]
            exact ending_any NB g _ g.length t _ ((HN.out.alloc _).below (below_drewN _ n)) h26
          clear hblk hN hTv
          go_wp2_with fail
          have HC3 : Hid (Calls Tryz.prog 92 #[.slice (some ⟨NB, 0, none⟩) g.length g.length, .string t] ((wr.alloc (.cells #[.string s, .string t] 56)).drew) fun e w' => e = .returned (.iface T v) ∧ ∃ m, w' = ((wr.alloc (.cells #[.string s, .string t] 56)).drew).drewN m) := HC2.out 1
          go_region_with (go_at_call 92; refine HC3.out.mono ?_; rintro e w' ⟨rfl, m, rfl⟩)
          all_goals
            go_wp2_with fail
            go_roundw
            case rel =>
              have hq := ((HN.out.alloc (.cells #[.string s, .string t] 56)).below (below_drewN _ (1 + m))).set_ hlt HT.out
              rw [HTV.out] at hq
              exact ⟨k + 1, by omega, by go_num, hq, (below_trans_self (hB2.alloc hB2.size _) (below_drewN _ (1 + m))).setCell (p := ⟨nb NB k, 2, none⟩) (by show w.heap.size ≤ nb NB k; have := HNB.out; unfold nb; omega) _⟩
            case measure => simp [intOf]; omega
        · go_wp2_with fail
          exact bodyPost_ret (v := .tuple #[.slice (some ⟨NB, 0, none⟩) g.length g.length, .bool true]) (by simp [results, Tryz.results58, go_sem]) rfl ⟨NB, HNB.out, rfl, Nodes.done ((show k = g.length by omega) ▸ hN), hB2⟩
end Go.Proofs.YtgebedbankibmaaGreatDoor

/-
  Contracts: the names of nodes, one behind the other.
-/
namespace Go.Proofs.YtgebedbankibmaaGreatDoor
open Go.RowKit Go.Sort

/-- A slice of pointers to nodes: of each the block in which it lies, and its name. -/
def Pts (w : World) (A : Option Addr) (ns : List (Nat × ByteArray)) : Prop :=
  0 < ns.length → ∃ b off, A = some ⟨b, off, none⟩ ∧ b < w.heap.size ∧ ∀ k (h : k < ns.length), w.cell? ⟨b, off + k, none⟩ = some (.pointer (some ⟨ns[k].1, 0, none⟩)) ∧ ns[k].1 < w.heap.size ∧ w.cell? ⟨ns[k].1, 1, none⟩ = some (.string ns[k].2)

theorem Pts.below {w w' : World} {A : Option Addr} {ns : List (Nat × ByteArray)} (h : Pts w A ns) (hb : Below w.heap.size w w') : Pts w' A ns := by
  intro hn
  obtain ⟨b, off, rfl, hlt, hc⟩ := h hn
  have hs := hb.size
  exact ⟨b, off, rfl, by omega, fun k hk => ⟨(hb.cell (p := ⟨b, off + k, none⟩) hlt).trans (hc k hk).1, by have := (hc k hk).2.1; omega, (hb.cell (p := ⟨ns[k].1, 1, none⟩) (hc k hk).2.1).trans (hc k hk).2.2⟩⟩

def joined : List (Nat × ByteArray) → ByteArray
  | [] => ⟨#[]⟩
  | n :: ns => n.2 ++ joined ns

end Go.Proofs.YtgebedbankibmaaGreatDoor

/-
  The nodes of a graph as a list, and its names.
-/
namespace Go.Proofs.YtgebedbankibmaaGreatDoor
open Go.RowKit Go.Sort

theorem ret_sb {a a' : ByteArray} {b b' : Bool} (h1 : a = a') (h2 : b = b') : Ending.returned (.tuple #[.string a, .bool b]) = .returned (.tuple #[.string a', .bool b']) := by rw [h1, h2]


end Go.Proofs.YtgebedbankibmaaGreatDoor

/-
  Contracts of the endings' method targets, and how it is found behind the interface.
-/
namespace Go.Proofs.YtgebedbankibmaaGreatDoor
open Go.RowKit Go.Sort

theorem stop_targets (w : World) : Calls Tryz.prog 255 #[.agg #[]] w fun e w' => e = .returned (.slice none 0 0) ∧ Below w.heap.size w w' := by
  go_enter Tryz.func255, Tryz.ntmps255
  go_wp2
  go_ret
  exact ⟨rfl, (Below.refl _ _).alloc (Nat.le_refl _) _⟩

theorem jump_targets (u : Option Addr) (w : World) : Calls Tryz.prog 253 #[.agg #[.pointer u]] w fun e w' => e = .returned (.slice (some ⟨w.heap.size + 1, 0, none⟩) 1 1) ∧ Blk w' (w.heap.size + 1) 54 #[.pointer u] ∧ Below w.heap.size w w' := by
  go_enter Tryz.func253, Tryz.ntmps253
  go_wp2
  go_ret
  refine ⟨rfl, ?_, ((Below.refl _ _).alloc (Nat.le_refl _) _).alloc (by simp) _⟩
  have := Blk.new (w.alloc (.cells #[.pointer u] 211)) 54 #[.pointer u]
  simpa using this

theorem branch_targets (u v : Option Addr) (w : World) : Calls Tryz.prog 254 #[.agg #[.pointer u, .pointer v]] w fun e w' => e = .returned (.slice (some ⟨w.heap.size + 1, 0, none⟩) 2 2) ∧ Blk w' (w.heap.size + 1) 54 #[.pointer u, .pointer v] ∧ Below w.heap.size w w' := by
  go_enter Tryz.func254, Tryz.ntmps254
  go_wp2
  go_ret
  refine ⟨rfl, ?_, ((Below.refl _ _).alloc (Nat.le_refl _) _).alloc (by simp) _⟩
  have := Blk.new (w.alloc (.cells #[.pointer u, .pointer v] 213)) 54 #[.pointer u, .pointer v]
  simpa using this

theorem mem_names {g : List Bl} {c : UInt8} : c ∈ (names g).data.toList ↔ ∃ b ∈ g, c ∈ b.1.data.toList := by
  induction g with
  | nil => simp [names]
  | cons b g ih => rw [names, ba_append_toList, List.mem_append, ih]; simp

theorem posOf_is {g : List Bl} {s : ByteArray} {i : Nat} (h : posOf g s = some i) : ∃ h : i < g.length, g[i].1 = s := by
  unfold posOf at h
  have h1 := List.find?_some h
  have h2 := List.mem_range.1 (List.mem_of_find?_eq_some h)
  rw [nthName_at h2] at h1
  exact ⟨h2, by simpa using h1⟩

theorem posOf_has {g : List Bl} {s : ByteArray} {b : Bl} (hb : b ∈ g) (hs : b.1 = s) : ∃ i, posOf g s = some i := by
  cases h : posOf g s with
  | some i => exact ⟨i, rfl⟩
  | none =>
    obtain ⟨k, hk, rfl⟩ := List.getElem_of_mem hb
    unfold posOf at h
    have := List.find?_eq_none.1 h k (List.mem_range.2 hk)
    rw [nthName_at hk, hs] at this
    simp at this

/-- The names of a graph are single letters. -/
theorem valid_one {g : List Bl} (hv : validB g = true) {b : Bl} (hb : b ∈ g) : ∃ c, b.1 = ⟨#[c]⟩ ∧ letB c = true := by
  obtain ⟨k, hk, rfl⟩ := List.getElem_of_mem hb
  have := newsB_iff.1 (valid_iff.1 hv).2.2.1 k hk
  unfold newB at this
  exact one_of_name (Bool.and_eq_true_iff.1 this).1

theorem posOf_valid {g : List Bl} (hv : validB g = true) {k : Nat} (hk : k < g.length) {j : Nat} (hj : j < g[k].2.size) :
    ∃ i, ∃ h : i < g.length, posOf g ⟨#[g[k].2[j]'hj]⟩ = some i ∧ g[i].1 = ⟨#[g[k].2[j]'hj]⟩ := by
  have hn := nextB_iff.1 (nextsB_iff.1 (valid_iff.1 hv).2.2.2 k hk)
  have hm := idx_mem.1 (hn.2.1 j hj)
  obtain ⟨b, hb, hcb⟩ := mem_names.1 hm
  obtain ⟨c, hc, _⟩ := valid_one hv hb
  have hcc : c = g[k].2[j]'hj := by rw [hc] at hcb; have h4 : g[k].2[j]'hj = c := by simpa using hcb
                                    exact h4.symm
  obtain ⟨i, hi⟩ := posOf_has hb (hcc ▸ hc)
  obtain ⟨h1, h2⟩ := posOf_is hi
  exact ⟨i, h1, hi, h2⟩

theorem one_byte {s : ByteArray} (h : s.size = 1) : s = ⟨#[s[0]'(by omega)]⟩ := by
  apply ba_ext
  have hl : s.data.toList.length = 1 := by simpa using h
  obtain ⟨c, hc⟩ := List.length_eq_one_iff.1 hl
  have := byte_at s 0 (by omega)
  rw [hc] at this
  rw [hc]
  simpa using this

theorem ex_byte (s : ByteArray) {a b : Nat} (h : a < b) (hb : b ≤ s.size) (h1 : b - a = 1) : s.extract a b = ⟨#[s[a]'(by omega)]⟩ := by
  apply ba_ext
  rw [← Lib.toList_data, Lib.extract_toList]
  have h2 := byte_at s a (by omega)
  have h3 : (s.data.toList.drop a)[0]? = some (s[a]'(by omega)) := by rw [List.getElem?_drop]; simpa using h2
  rw [h1]
  cases hd : s.data.toList.drop a with
  | nil => rw [hd] at h3; simp at h3
  | cons x l => rw [hd] at h3; simp at h3; simp [h3]

theorem Nodes.at_ {w : World} {NB : Nat} {g : List Bl} {E : Nat → Value} (h : Nodes w NB g E) {i : Nat} (hi : i < g.length) : nb NB i < w.heap.size ∧ w.cell? ⟨nb NB i, 1, none⟩ = some (.string g[i].1) := by
  refine ⟨(h.node i hi).lt, ?_⟩
  have := (h.node i hi).cell 1
  simpa using this

theorem look_stop (w : World) : (method 414 215 (.agg #[]) "loop.example/structuredjumps/impl.targets").run Tryz.prog w = .ok (255, .agg #[]) w := by kernel_rfl
theorem look_jump (u : Value) (w : World) : (method 414 211 (.agg #[u]) "loop.example/structuredjumps/impl.targets").run Tryz.prog w = .ok (253, .agg #[u]) w := by kernel_rfl
theorem look_branch (u v : Value) (w : World) : (method 414 213 (.agg #[u, v]) "loop.example/structuredjumps/impl.targets").run Tryz.prog w = .ok (254, .agg #[u, v]) w := by kernel_rfl

end Go.Proofs.YtgebedbankibmaaGreatDoor

/-
  Where a name stands in a graph: the model's search, and what NextOf returns.
-/
namespace Go.Proofs.YtgebedbankibmaaGreatDoor
open Go.RowKit Go.Sort

def idxInt : Option Nat → Int
  | some i => i
  | none => -1

theorem index_any (A : Option Addr) (cap : Nat) (g : List Bl) (s : ByteArray) (w : World) (hg : Gr w A g) (hn : g.length ≤ 1048576) :
    Calls Tryz.prog 47 #[.slice A g.length cap, .string s] w fun e w' => e = .returned (.int .i64 (idxInt (posOf g s))) ∧ Below w.heap.size w w' := by
  go_enter Tryz.func47, Tryz.ntmps47
  go_wp2_with fail
  go_loopw [9] (fun i wr => ∃ k : Nat, k ≤ g.length ∧ i = .int .i64 k ∧ Hid (∀ j (h : j < g.length), j < k → g[j].1 ≠ s) ∧ Below w.heap.size w wr) (fun i _ => g.length - (intOf i).toNat)
  case atStart => exact ⟨0, Nat.zero_le _, rfl, fun j _ h => absurd h (by omega), Below.refl _ _⟩
  case round =>
    obtain ⟨k, hk, rfl, HK, hB⟩ := hrel
    by_cases hlt : k < g.length
    · obtain ⟨b, off, t, t2, rfl, hb, hc0, hc1, he, he2⟩ := gr_at (hg.below hB) hlt
      have HE := Lib.hid he
      clear he he2
      by_cases hq : (t.toList == s.toList) = true
      · have HP := Lib.hid (show posOf g s = some k from posOf_some hlt (HE.out.trans (beq_toList.1 hq)) HK.out)
        go_wp2_with fail
        go_ret
        exact ⟨ret_int (by rw [HP.out]; rfl), hB.alloc hB.size _⟩
      · have hq' : (t.toList == s.toList) = false := by simpa using hq
        have HNE := Lib.hid (show g[k].1 ≠ s from fun e => hq (beq_toList.2 (HE.out.symm.trans e)))
        clear hq
        go_wp2_with fail
        go_roundw
        case rel =>
          refine ⟨k + 1, by omega, by go_num, fun j h hj => ?_, hB.alloc hB.size _⟩
          rcases Nat.lt_succ_iff_lt_or_eq.1 hj with hj | rfl
          · exact HK.out j h hj
          · exact HNE.out
        case measure => simp [intOf]; omega
    · have HP := Lib.hid (show posOf g s = none from posOf_none fun j h => HK.out j h (by omega))
      go_wp2_with fail
      go_ret
      exact ⟨ret_int (by rw [HP.out]; rfl), hB⟩

theorem l1Next_any (A : Option Addr) (cap : Nat) (g : List Bl) (s : ByteArray) (i : Nat) (w : World) (hg : Gr w A g) (hn : g.length ≤ 1048576) (hp : posOf g s = some i) (hi : i < g.length) :
    Calls Tryz.prog 147 #[.slice A g.length cap, .string s] w fun e w' => e = .returned (.string g[i].2) ∧ Below w.heap.size w w' := by
  have hc := index_any A cap g s w hg hn
  rw [hp] at hc
  have HC : Hid (Calls Tryz.prog 47 #[.slice A g.length cap, .string s] w fun e w' => e = .returned (.int .i64 (i : Int)) ∧ Below w.heap.size w w') := hc
  clear hc hp
  obtain ⟨b, off, t, t2, rfl, hb, hc0, hc1, he, he2⟩ := gr_at hg hi
  have HE := Lib.hid he2
  clear he he2
  go_enter Tryz.func147, Tryz.ntmps147
  go_wp2_with fail
  refine HC.out.mono ?_
  rintro e w1 ⟨rfl, b1⟩
  have c1 := (b1.cell (p := ⟨b, off + i * 2 + 1, none⟩) hb).trans hc1
  go_wp2_with fail
  go_ret
  exact ⟨by rw [HE.out]; rfl, b1⟩
end Go.Proofs.YtgebedbankibmaaGreatDoor
