/-
  Contracts of the functions that make the nodes of a graph: blocks of memory that point to each other.
-/
import Derived.Test.YtdpjdhllaokbfaaGreatBuild
import Derived.Test.YtdpjdhllaokbfaaGreatValids
namespace Go.Proofs.YtdpjdhllaokbfaaGreat
open Go.RowKit Go.Sort

theorem ret_val {a b : Value} (h : a = b) : Ending.returned a = .returned b := by rw [h]

/-- The block of node i of a graph whose row of nodes is block NB. -/
abbrev nb (NB i : Nat) : Nat := NB + 2 + 2 * i
abbrev nptr (NB i : Nat) : Value := .pointer (some ⟨nb NB i, 0, none⟩)

/-- Where a name stands. -/
def posOf (g : List Bl) (s : ByteArray) : Option Nat := (List.range g.length).find? fun i => decide (nthName g i = s)

theorem posOf_some {g : List Bl} {s : ByteArray} {k : Nat} (h : k < g.length) (hk : g[k].1 = s) (hb : ∀ j (h' : j < g.length), j < k → g[j].1 ≠ s) : posOf g s = some k := by
  unfold posOf
  rw [List.find?_range_eq_some]
  refine ⟨by rw [nthName_at h, hk]; simp, by simpa using h, fun j hj => ?_⟩
  rw [nthName_at (by omega)]
  have := hb j (by omega) hj
  simpa using this

theorem posOf_none {g : List Bl} {s : ByteArray} (hb : ∀ j (h' : j < g.length), g[j].1 ≠ s) : posOf g s = none := by
  unfold posOf
  rw [List.find?_eq_none]
  intro j hj
  have hj' := List.mem_range.1 hj
  rw [nthName_at hj']
  simpa using hb j hj'

def ptrAt (NB : Nat) : Option Nat → Value
  | some i => nptr NB i
  | none => .pointer none

/-- The nodes of a graph, each with an ending. -/
structure Nodes (w : World) (NB : Nat) (g : List Bl) (E : Nat → Value) : Prop where
  row : ∃ cs, Blk w NB 73 cs ∧ cs.size = g.length ∧ ∀ i, i < g.length → cs[i]? = some (nptr NB i)
  node : ∀ i (h : i < g.length), Blk w (nb NB i) 72 #[.int .i64 i, .string g[i].1, E i]

theorem Nodes.lt {w : World} {NB : Nat} {g : List Bl} {E : Nat → Value} (h : Nodes w NB g E) : NB < w.heap.size := by
  obtain ⟨cs, hb, _⟩ := h.row; exact hb.lt

theorem Nodes.keep {w w' : World} {NB : Nat} {g : List Bl} {E : Nat → Value} (h : Nodes w NB g E) (hk : ∀ b, b < w.heap.size → w'.heap[b]? = w.heap[b]?) : Nodes w' NB g E :=
  ⟨by obtain ⟨cs, hb, hr⟩ := h.row; exact ⟨cs, (hk _ hb.lt).trans hb, hr⟩, fun i hi => (hk _ (h.node i hi).lt).trans (h.node i hi)⟩

theorem Nodes.below {w w' : World} {NB : Nat} {g : List Bl} {E : Nat → Value} (h : Nodes w NB g E) (hb : Below w.heap.size w w') : Nodes w' NB g E :=
  h.keep fun b hlt => hb.block b hlt

theorem Nodes.ptr {w : World} {NB : Nat} {g : List Bl} {E : Nat → Value} (h : Nodes w NB g E) {i : Nat} (hi : i < g.length) : w.cell? ⟨NB, i, none⟩ = some (nptr NB i) := by
  obtain ⟨cs, hb, _, hr⟩ := h.row
  rw [hb.cell]; exact hr i hi

set_option maxHeartbeats 400000 in
theorem named_any (NB : Nat) (g : List Bl) (E : Nat → Value) (cap : Nat) (s : ByteArray) (w : World) (hN : Nodes w NB g E) (hn : g.length ≤ 26) :
    Calls Tryz.prog 55 #[.slice (some ⟨NB, 0, none⟩) g.length cap, .string s] w fun e w' => e = .returned (ptrAt NB (posOf g s)) ∧ w = w' := by
  go_enter Tryz.func55, Tryz.ntmps55
  go_wp2
  go_loop [9] (fun i => ∃ k : Nat, k ≤ g.length ∧ i = .int .i64 k ∧ Hid (∀ j (h : j < g.length), j < k → g[j].1 ≠ s)) (fun i => g.length - (intOf i).toNat)
  case atStart => exact ⟨0, Nat.zero_le _, rfl, fun j _ h => absurd h (by omega)⟩
  case round =>
    obtain ⟨k, hk, rfl, HK⟩ := hrel
    by_cases hlt : k < g.length
    · have c0 := hN.ptr hlt
      have c1 := (hN.node k hlt).cell 1
      obtain ⟨t, ht⟩ : ∃ t, t = g[k].1 := ⟨_, rfl⟩
      rw [← ht] at c1
      have HT := Lib.hid ht
      clear ht
      by_cases hq : (t.toList == s.toList) = true
      · have HP := Lib.hid (show posOf g s = some k from posOf_some hlt (HT.out ▸ beq_toList.1 hq) HK.out)
        go_wp2
        go_ret
        exact ⟨by rw [HP.out]; rfl, rfl⟩
      · have hq' : (t.toList == s.toList) = false := by simpa using hq
        have HNE := Lib.hid (show g[k].1 ≠ s from fun e => hq (beq_toList.2 (HT.out.trans e)))
        clear hq
        go_wp2
        go_round
        case rel =>
          refine ⟨k + 1, by omega, by go_num, fun j h hj => ?_⟩
          rcases Nat.lt_succ_iff_lt_or_eq.1 hj with hj | rfl
          · exact HK.out j h hj
          · exact HNE.out
        case measure => simp [intOf]; omega
    · have HP := Lib.hid (show posOf g s = none from posOf_none fun j h => HK.out j h (by omega))
      go_wp2
      go_ret
      exact ⟨by rw [HP.out]; rfl, rfl⟩

theorem named_nil (s : ByteArray) (w : World) (A : Option Addr) (cap : Nat) :
    Calls Tryz.prog 55 #[.slice A 0 cap, .string s] w fun e w' => e = .returned (.pointer none) ∧ w = w' := by
  go_enter Tryz.func55, Tryz.ntmps55
  go_wp2
  refine wp_loop_rounds 1 ?_
  rw [rounds_succ]
  go_wp2
  go_ret
  exact ⟨rfl, rfl⟩

def endV (NB : Nat) (g : List Bl) (next : ByteArray) : Value :=
  if next.size = 1 then .iface 134 (.agg #[ptrAt NB (posOf g next)])
  else if next.size = 2 then .iface 136 (.agg #[ptrAt NB (posOf g (next.extract 0 1)), ptrAt NB (posOf g (next.extract 1 next.size))])
  else .iface 138 (.agg #[])

theorem endV_iface (NB : Nat) (g : List Bl) (next : ByteArray) : ∃ T v, endV NB g next = .iface T v := by
  unfold endV
  split
  · exact ⟨_, _, rfl⟩
  · split
    · exact ⟨_, _, rfl⟩
    · exact ⟨_, _, rfl⟩

theorem ptrAt_pointer (NB : Nat) (o : Option Nat) : ∃ u, ptrAt NB o = .pointer u := by
  cases o with
  | none => exact ⟨none, rfl⟩
  | some i => exact ⟨_, rfl⟩

set_option maxHeartbeats 400000 in
theorem ending_any (NB : Nat) (g : List Bl) (E : Nat → Value) (cap : Nat) (s : ByteArray) (w : World) (hN : Nodes w NB g E) (hn : g.length ≤ 26) :
    Calls Tryz.prog 83 #[.slice (some ⟨NB, 0, none⟩) g.length cap, .string s] w fun e w' => e = .returned (endV NB g s) ∧ ∃ n, w' = w.drewN n := by
  by_cases h1 : s.size = 1
  · have HE := Lib.hid (show endV NB g s = .iface 134 (.agg #[ptrAt NB (posOf g s)]) by unfold endV; rw [if_pos h1])
    obtain ⟨u, hu⟩ := ptrAt_pointer NB (posOf g s)
    rw [hu] at HE
    have HU := Lib.hid hu
    have g1 : ((s.size : Int) == 1) = true := by rw [h1]; rfl
    clear h1 hu
    go_enter Tryz.func83, Tryz.ntmps83
    go_wp2_with fail
    refine (named_any NB g E cap s w hN hn).mono ?_
    rintro e w' ⟨rfl, rfl⟩
    rw [HU.out]
    go_wp2
    go_ret
    exact ⟨ret_val HE.out.symm, 0, rfl⟩
  · by_cases h2 : s.size = 2
    · have HE := Lib.hid (show endV NB g s = .iface 136 (.agg #[ptrAt NB (posOf g (s.extract 0 1)), ptrAt NB (posOf g (s.extract 1 s.size))]) by unfold endV; rw [if_neg h1, if_pos h2])
      obtain ⟨u, hu⟩ := ptrAt_pointer NB (posOf g (s.extract 0 1))
      obtain ⟨v, hv⟩ := ptrAt_pointer NB (posOf g (s.extract 1 s.size))
      rw [hu, hv] at HE
      have cU : ∀ n, Calls Tryz.prog 55 #[.slice (some ⟨NB, 0, none⟩) g.length cap, .string (s.extract 0 1)] (w.drewN n) fun e w'' => e = .returned (.pointer u) ∧ ∃ m, w'' = w.drewN m := fun n => by
        have := named_any NB g E cap (s.extract 0 1) (w.drewN n) (hN.below (below_drewN w n)) hn
        rw [hu] at this
        exact Calls.quiet_of_same (this.mono fun _ _ ⟨a, b⟩ => ⟨a, b.symm⟩)
      have cV : ∀ n, Calls Tryz.prog 55 #[.slice (some ⟨NB, 0, none⟩) g.length cap, .string (s.extract 1 s.size)] (w.drewN n) fun e w'' => e = .returned (.pointer v) ∧ ∃ m, w'' = w.drewN m := fun n => by
        have := named_any NB g E cap (s.extract 1 s.size) (w.drewN n) (hN.below (below_drewN w n)) hn
        rw [hv] at this
        exact Calls.quiet_of_same (this.mono fun _ _ ⟨a, b⟩ => ⟨a, b.symm⟩)
      have g1 : ((s.size : Int) == 1) = false := by simp; omega
      have g2 : ((s.size : Int) == 2) = true := by rw [h2]; rfl
      have l1 : 1 ≤ s.size := by omega
      have l2 : (1 : Int) ≤ s.size := by omega
      clear h1 h2 hu hv
      go_enter Tryz.func83, Tryz.ntmps83
      go_wp2_with fail
      go_quiet (first | with_reducible exact cU _ | with_reducible exact cV _)
      go_wp2
      go_ret
      exact ⟨ret_val HE.out.symm, nq, rfl⟩
    · have HE := Lib.hid (show endV NB g s = .iface 138 (.agg #[]) by unfold endV; rw [if_neg h1, if_neg h2])
      have g1 : ((s.size : Int) == 1) = false := by simp; omega
      have g2 : ((s.size : Int) == 2) = false := by simp; omega
      clear h1 h2
      go_enter Tryz.func83, Tryz.ntmps83
      go_wp2
      go_ret
      exact ⟨ret_val HE.out.symm, 0, rfl⟩

def nthNext (g : List Bl) (k : Nat) : ByteArray := (g.map (·.2)).getD k ⟨#[]⟩
theorem nthNext_at {g : List Bl} {k : Nat} (h : k < g.length) : nthNext g k = g[k].2 := by
  unfold nthNext
  rw [List.getD_eq_getElem?_getD, List.getElem?_map, List.getElem?_eq_getElem h]; rfl

def ends (NB : Nat) (g : List Bl) (i : Nat) : Value := endV NB g (nthNext g i)

/-- While the nodes are made: the first k are there, without an ending. -/
structure Part (w : World) (NB : Nat) (g : List Bl) (k : Nat) : Prop where
  row : ∃ cs, Blk w NB 73 cs ∧ cs.size = g.length ∧ ∀ i, i < k → cs[i]? = some (nptr NB i)
  node : ∀ i (h : i < g.length), i < k → Blk w (nb NB i) 72 #[.int .i64 i, .string g[i].1, .nilIface]
  size : w.heap.size = NB + 1 + 2 * k

theorem Part.step {w : World} {NB : Nat} {g : List Bl} {k : Nat} {s : ByteArray} {o : Obj} (h : Part w NB g k) (hk : k < g.length) (hs : g[k].1 = s) :
    Part (((w.setCell ⟨NB, k, none⟩ (.pointer (some ⟨w.heap.size + 1, 0, none⟩))).alloc o).alloc (.cells #[.int .i64 k, .string s, .nilIface] 72)) NB g (k + 1) := by
  obtain ⟨cs, hb, hsz, hr⟩ := h.row
  have hz := h.size
  have hnb : w.heap.size + 1 = nb NB k := by unfold nb; omega
  rw [hnb]
  have hsz2 : (w.setCell ⟨NB, k, none⟩ (nptr NB k)).heap.size = w.heap.size := by simp
  refine ⟨⟨_, ((hb.set_ k _).alloc _).alloc _, by simpa using hsz, fun i hi => ?_⟩, fun i hi hik => ?_, ?_⟩
  · rw [Array.getElem?_setIfInBounds]
    by_cases e : k = i
    · subst e; rw [if_pos rfl, if_pos (by omega)]
    · rw [if_neg e]; exact hr i (by omega)
  · by_cases e : i = k
    · subst e
      have h2 := Blk.new ((w.setCell ⟨NB, i, none⟩ (nptr NB i)).alloc o) 72 #[.int .i64 (i : Int), .string s, .nilIface]
      have h3 : ((w.setCell ⟨NB, i, none⟩ (nptr NB i)).alloc o).heap.size = nb NB i := by unfold nb; simp; omega
      rw [h3] at h2
      rw [hs]; exact h2
    · have h4 : Blk (w.setCell ⟨NB, k, none⟩ (nptr NB k)) (nb NB i) 72 #[.int .i64 i, .string g[i].1, .nilIface] :=
        (Below.heap_setCell _ _ _ _ (by show nb NB i ≠ NB; unfold nb; omega)).trans (h.node i hi (by omega))
      exact (h4.alloc _).alloc _
  · simp; omega

/-- While the endings are laid: those of the first k are there. -/
def someEnds (NB : Nat) (g : List Bl) (k i : Nat) : Value := if i < k then ends NB g i else .nilIface

theorem Part.nodes {w : World} {NB : Nat} {g : List Bl} (h : Part w NB g g.length) : Nodes w NB g (someEnds NB g 0) :=
  ⟨h.row, fun i hi => by simpa [someEnds] using h.node i hi hi⟩

theorem Nodes.alloc {w : World} {NB : Nat} {g : List Bl} {E : Nat → Value} (h : Nodes w NB g E) (o : Obj) : Nodes (w.alloc o) NB g E :=
  h.keep fun b hlt => Below.heap_alloc w o b hlt

theorem Nodes.set_ {w : World} {NB : Nat} {g : List Bl} {k : Nat} {t : ByteArray} (h : Nodes w NB g (someEnds NB g k)) (hk : k < g.length) (ht : g[k].2 = t) :
    Nodes (w.setCell ⟨nb NB k, 2, none⟩ (endV NB g t)) NB g (someEnds NB g (k + 1)) := by
  obtain ⟨cs, hb, hr⟩ := h.row
  refine ⟨⟨cs, (Below.heap_setCell _ _ _ _ (by show NB ≠ nb NB k; unfold nb; omega)).trans hb, hr⟩, fun i hi => ?_⟩
  by_cases e : i = k
  · subst e
    have h2 := (h.node i hi).set_ 2 (endV NB g t)
    have e1 : someEnds NB g (i + 1) i = endV NB g t := by unfold someEnds ends; rw [if_pos (by omega), nthNext_at hi, ht]
    rw [e1]; exact h2
  · have e1 : someEnds NB g (k + 1) i = someEnds NB g k i := by
      unfold someEnds
      by_cases hlt : i < k
      · rw [if_pos hlt, if_pos (by omega)]
      · rw [if_neg hlt, if_neg (by omega)]
    rw [e1]
    exact (Below.heap_setCell _ _ _ _ (by show nb NB i ≠ nb NB k; unfold nb; omega)).trans (h.node i hi)

theorem Nodes.done {w : World} {NB : Nat} {g : List Bl} (h : Nodes w NB g (someEnds NB g g.length)) : Nodes w NB g (ends NB g) :=
  ⟨h.row, fun i hi => by have := h.node i hi; unfold someEnds at this; rwa [if_pos hi] at this⟩

theorem info_ptr : (Tryz.prog.info? 73).map (fun i => (i.zero, i.size, i.bytes)) = some (some (.pointer none), 1, 8) := by kernel_rfl

def NodesPost (w : World) (g : List Bl) (e : Ending) (w' : World) : Prop :=
  ∃ NB, w.heap.size ≤ NB ∧ e = .returned (.tuple #[.slice (some ⟨NB, 0, none⟩) g.length g.length, .bool true]) ∧ Nodes w' NB g (ends NB g) ∧ Below w.heap.size w w'

theorem nodesOf_no (A : Option Addr) (cap : Nat) (g : List Bl) (w : World) (hg : Gr w A g) (hn : g.length + tot g ≤ 1048576) (hv : validB g = false) :
    Calls Tryz.prog 73 #[.slice A g.length cap] w fun e w' => e = .returned (.tuple #[.slice none 0 0, .bool false]) ∧ Below w.heap.size w w' := by
  have hc := implValid_any A cap g w hg hn
  rw [hv] at hc
  have HC := Lib.hid hc
  clear hc hv
  go_enter Tryz.func73, Tryz.ntmps73
  go_wp2_with fail
  refine HC.out.mono ?_
  rintro e w1 ⟨rfl, b1⟩
  go_wp2_with fail
  go_ret2
  exact ⟨rfl, b1⟩

set_option maxHeartbeats 800000 in
theorem nodesOf_yes (A : Option Addr) (cap : Nat) (g : List Bl) (w : World) (hg : Gr w A g) (hn : g.length + tot g ≤ 1048576) (hv : validB g = true) :
    Calls Tryz.prog 73 #[.slice A g.length cap] w (NodesPost w g) := by
  have hc := implValid_any A cap g w hg hn
  rw [hv] at hc
  have HC := Lib.hid hc
  have h26 := (valid_iff.1 hv).2.1
  have hmk := run_make_row' (P := Tryz.prog) 54 73 (.pointer none) 8 Tryz.underlying54 info_ptr rfl .i64 .i64 g.length (by omega) (by omega)
  clear hc hv
  go_enter Tryz.func73, Tryz.ntmps73
  go_wp2_with fail
  refine HC.out.mono ?_
  rintro e w1 ⟨rfl, b1⟩
  go_wp2_with fail
  clear hmk
  obtain ⟨NB, hNB⟩ : ∃ NB, NB = w1.heap.size := ⟨_, rfl⟩
  have HNB : Hid (w.heap.size ≤ NB) := hNB ▸ b1.size
  have hp0 : Part (w1.alloc (.cells (madeCells #[.pointer none] g.length) 73)) NB g 0 := by
    rw [hNB]
    exact ⟨⟨_, Blk.new _ _ _, size_madeCells _ _, fun i hi => absurd hi (by omega)⟩, fun i _ hi => absurd hi (by omega), by simp⟩
  have HP0 := Lib.hid hp0
  have HBE := Lib.hid (b1.alloc b1.size (.cells (madeCells #[.pointer none] g.length) 73))
  rw [← hNB] at ⊢
  clear hNB b1 hp0
  go_loopw [17] (fun i wr => ∃ k : Nat, k ≤ g.length ∧ i = .int .i64 k ∧ Part wr NB g k ∧ Below w.heap.size w wr) (fun i _ => g.length - (intOf i).toNat)
  case atStart => exact ⟨0, Nat.zero_le _, rfl, HP0.out, HBE.out⟩
  case round =>
    obtain ⟨k, hk, rfl, hP, hB⟩ := hrel
    have HP := Lib.hid hP
    by_cases hlt : k < g.length
    · obtain ⟨b, off, s, t, rfl, hb, hc0, hc1, he, he2⟩ := gr_at (hg.below hB) hlt
      have HS := Lib.hid he
      obtain ⟨cs, hbk, hsz, _⟩ := hP.row
      have hlt2 := hbk.lt
      obtain ⟨v0, x0⟩ := hbk.some_cell (i := k) (by omega)
      have f0 := hbk.frozen k
      have hle := HNB.out
      clear he he2 hP hbk hsz
      go_wp2_with fail
      go_roundw
      case rel => exact ⟨k + 1, by omega, by go_num, HP.out.step hlt HS.out, ((hB.setCell (p := ⟨NB, k, none⟩) hle _).alloc (by simpa using hB.size) _).alloc (by have := hB.size; simp; omega) _⟩
      case measure => simp [intOf]; omega
    · have hkk : k = g.length := by omega
      have HN2 : Hid (Nodes wr NB g (someEnds NB g 0)) := (hkk ▸ hP).nodes
      clear hP hkk
      go_wp2_with fail
      obtain ⟨wo, hwo⟩ : ∃ wo : World, wo = wr := ⟨_, rfl⟩
      rw [← hwo] at hB HN2 ⊢
      clear hwo HP
      go_loopw [33] (fun i wr => ∃ k : Nat, k ≤ g.length ∧ i = .int .i64 k ∧ Nodes wr NB g (someEnds NB g k) ∧ Below w.heap.size w wr) (fun i _ => g.length - (intOf i).toNat)
      case atStart => exact ⟨0, Nat.zero_le _, rfl, HN2.out, hB⟩
      case round =>
        obtain ⟨k, hk, rfl, hN, hB2⟩ := hrel
        by_cases hlt : k < g.length
        · obtain ⟨b, off, s, t, rfl, hb, hc0, hc1, he, he2⟩ := gr_at (hg.below hB2) hlt
          have HT := Lib.hid he2
          have hts := tot_get g k hlt
          rw [he, he2] at hts
          clear he he2
          have x0 := hN.ptr hlt
          have hblk := hN.node k hlt
          have l0 := hN.lt
          have l1 := hblk.lt
          obtain ⟨v2, x2⟩ := hblk.some_cell (i := 2) (by simp)
          have f2 := hblk.frozen 2
          obtain ⟨T, v, hTv⟩ := endV_iface NB g t
          have HN := Lib.hid hN
          have HTV := Lib.hid hTv
          have HC2 : Hid (∀ n, Calls Tryz.prog 83 #[.slice (some ⟨NB, 0, none⟩) g.length g.length, .string t] ((wr.alloc (.cells #[.string s, .string t] 46)).drewN n) fun e w' => e = .returned (.iface T v) ∧ ∃ m, w' = ((wr.alloc (.cells #[.string s, .string t] 46)).drewN n).drewN m) := fun n => by
            rw [← hTv]
            exact ending_any NB g _ g.length t _ ((HN.out.alloc _).below (below_drewN _ n)) h26
          clear hblk hN hTv
          go_wp2_with fail
          have HC3 : Hid (Calls Tryz.prog 83 #[.slice (some ⟨NB, 0, none⟩) g.length g.length, .string t] ((wr.alloc (.cells #[.string s, .string t] 46)).drew) fun e w' => e = .returned (.iface T v) ∧ ∃ m, w' = ((wr.alloc (.cells #[.string s, .string t] 46)).drew).drewN m) := HC2.out 1
          go_region_with (go_at_call 83; refine HC3.out.mono ?_; rintro e w' ⟨rfl, m, rfl⟩)
          all_goals
            go_wp2_with fail
            go_roundw
            case rel =>
              have hq := ((HN.out.alloc (.cells #[.string s, .string t] 46)).below (below_drewN _ (1 + m))).set_ hlt HT.out
              rw [HTV.out] at hq
              exact ⟨k + 1, by omega, by go_num, hq, (below_trans_self (hB2.alloc hB2.size _) (below_drewN _ (1 + m))).setCell (p := ⟨nb NB k, 2, none⟩) (by show w.heap.size ≤ nb NB k; have := HNB.out; unfold nb; omega) _⟩
            case measure => simp [intOf]; omega
        · go_wp2_with fail
          exact bodyPost_ret (v := .tuple #[.slice (some ⟨NB, 0, none⟩) g.length g.length, .bool true]) (by simp [results, Tryz.results73, go_sem]) rfl ⟨NB, HNB.out, rfl, Nodes.done ((show k = g.length by omega) ▸ hN), hB2⟩
end Go.Proofs.YtdpjdhllaokbfaaGreat

/-
  Contracts: the names of nodes, one behind the other.
-/
namespace Go.Proofs.YtdpjdhllaokbfaaGreat
open Go.RowKit Go.Sort

/-- A slice of pointers to nodes: of each the block in which it lies, and its name. -/
def Pts (w : World) (A : Option Addr) (ns : List (Nat × ByteArray)) : Prop :=
  0 < ns.length → ∃ b off, A = some ⟨b, off, none⟩ ∧ b < w.heap.size ∧ ∀ k (h : k < ns.length), w.cell? ⟨b, off + k, none⟩ = some (.pointer (some ⟨ns[k].1, 0, none⟩)) ∧ ns[k].1 < w.heap.size ∧ w.cell? ⟨ns[k].1, 1, none⟩ = some (.string ns[k].2)

theorem Pts.below {w w' : World} {A : Option Addr} {ns : List (Nat × ByteArray)} (h : Pts w A ns) (hb : Below w.heap.size w w') : Pts w' A ns := by
  intro hn
  obtain ⟨b, off, rfl, hlt, hc⟩ := h hn
  have hs := hb.size
  exact ⟨b, off, rfl, by omega, fun k hk => ⟨(hb.cell (p := ⟨b, off + k, none⟩) hlt).trans (hc k hk).1, by have := (hc k hk).2.1; omega, (hb.cell (p := ⟨ns[k].1, 1, none⟩) (hc k hk).2.1).trans (hc k hk).2.2⟩⟩

def joined : List (Nat × ByteArray) → ByteArray
  | [] => ⟨#[]⟩
  | n :: ns => n.2 ++ joined ns

theorem joined_append (a b : List (Nat × ByteArray)) : joined (a ++ b) = joined a ++ joined b := by
  induction a with
  | nil => exact (ba_empty_append _).symm
  | cons n a ih => simp only [List.cons_append, joined, ih, ba_append_assoc]

theorem joined_take (ns : List (Nat × ByteArray)) (k : Nat) (h : k < ns.length) : joined (ns.take (k + 1)) = joined (ns.take k) ++ ns[k].2 := by
  rw [List.take_succ_eq_append_getElem h, joined_append]; simp only [joined, ba_append_empty]

theorem joined_take_size (ns : List (Nat × ByteArray)) (k : Nat) : (joined (ns.take k)).size ≤ (joined ns).size := by
  have := joined_append (ns.take k) (ns.drop k)
  rw [List.take_append_drop] at this
  rw [this, ByteArray.size_append]; omega

set_option maxHeartbeats 400000 in
theorem join_any (A : Option Addr) (cap : Nat) (ns : List (Nat × ByteArray)) (w : World) (hp : Pts w A ns) (hn : ns.length ≤ 1048576) (hj : (joined ns).size ≤ 1048576) :
    Calls Tryz.prog 47 #[.slice A ns.length cap] w fun e w' => e = .returned (.string (joined ns)) ∧ Below w.heap.size w w' := by
  have HB0 := Lib.hid (bd_new w)
  go_enter Tryz.func47, Tryz.ntmps47
  go_wp2_with fail
  go_loopw [8] (fun i wr => ∃ k : Nat, k ≤ ns.length ∧ i = .int .i64 k ∧ Bd w.heap.size w.heap.size (Lib.strCells (joined (ns.take k))) wr ∧ Below w.heap.size w wr) (fun i _ => ns.length - (intOf i).toNat)
  case atStart => exact ⟨0, Nat.zero_le _, rfl, HB0.out, (Below.refl _ _).alloc (Nat.le_refl _) _⟩
  case round =>
    obtain ⟨k, hk, rfl, hbd, hB⟩ := hrel
    have HBD := Lib.hid hbd
    clear hbd
    by_cases hlt : k < ns.length
    · obtain ⟨b, off, rfl, hb, hc⟩ := (hp.below hB) (by omega)
      obtain ⟨x0, l0, x1⟩ := hc k hlt
      have hs1 := joined_take ns k hlt
      have hs2 := joined_take_size ns (k + 1)
      obtain ⟨q, s, hqs⟩ : ∃ q s, ns[k] = (q, s) := ⟨_, _, rfl⟩
      rw [hqs] at x0 l0 x1 hs1
      have x0' : wr.cell? ⟨b, off + k, none⟩ = some (.pointer (some ⟨q, 0, none⟩)) := x0
      have x1' : wr.cell? ⟨q, 1, none⟩ = some (.string s) := x1
      have hsz : (joined (ns.take k)).size + s.size ≤ 1048576 := by
        rw [hs1, ByteArray.size_append] at hs2
        have : ((q, s) : Nat × ByteArray).2.size = s.size := rfl
        omega
      have HS1 : Hid (joined (ns.take (k + 1)) = joined (ns.take k) ++ s) := hs1
      clear x0 x1 l0 hs1 hs2 hqs hc
      go_wp2_with fail
      refine (write_any w.heap.size w.heap.size _ s _ HBD.out (by rw [Lib.strCells_length]; exact hsz) hB.size).mono ?_
      rintro e w1 ⟨rfl, hbd1, hb1⟩
      have HBD1 := Lib.hid hbd1
      clear hbd1
      go_wp2_with fail
      go_roundw
      case rel => exact ⟨k + 1, by omega, by go_num, by rw [HS1.out, cells_append]; exact HBD1.out, hB.trans hb1⟩
      case measure => simp [intOf]; omega
    · have HE := Lib.hid (show joined (ns.take k) = joined ns by rw [List.take_of_length_le (by omega)])
      go_wp2_with fail
      refine (string_any w.heap.size w.heap.size (joined ns) _ (HE.out ▸ HBD.out) hB.size).mono ?_
      rintro e w1 ⟨rfl, hb1⟩
      go_wp2_with fail
      go_ret
      exact ⟨rfl, hB.trans hb1⟩
end Go.Proofs.YtdpjdhllaokbfaaGreat

/-
  The nodes of a graph as a list, and its names.
-/
namespace Go.Proofs.YtdpjdhllaokbfaaGreat
open Go.RowKit Go.Sort

/-- The nodes of a graph as a list. -/
def nodeList (NB : Nat) (g : List Bl) : List (Nat × ByteArray) := (List.range g.length).map fun i => (nb NB i, nthName g i)

theorem nodeList_length (NB : Nat) (g : List Bl) : (nodeList NB g).length = g.length := by simp [nodeList]

theorem joined_range (NB : Nat) (g : List Bl) : ∀ k, k ≤ g.length → joined ((List.range k).map fun i => (nb NB i, nthName g i)) = names (g.take k)
  | 0, _ => by simp [joined, names]
  | k + 1, h => by
    rw [List.range_succ, List.map_append, joined_append, joined_range NB g k (by omega), names_take g k (by omega)]
    simp only [List.map_cons, List.map_nil, joined, ba_append_empty, nthName_at (show k < g.length by omega)]

theorem joined_nodes (NB : Nat) (g : List Bl) : joined (nodeList NB g) = names g := by
  unfold nodeList
  rw [joined_range NB g g.length (Nat.le_refl _), List.take_length]

theorem Nodes.pts {w : World} {NB : Nat} {g : List Bl} {E : Nat → Value} (h : Nodes w NB g E) : Pts w (some ⟨NB, 0, none⟩) (nodeList NB g) := by
  intro _
  refine ⟨NB, 0, rfl, h.lt, fun k hk => ?_⟩
  have hk' : k < g.length := by rwa [nodeList_length] at hk
  have e : (nodeList NB g)[k] = (nb NB k, g[k].1) := by simp [nodeList, nthName_at hk']
  rw [e, Nat.zero_add]
  refine ⟨h.ptr hk', (h.node k hk').lt, ?_⟩
  have := (h.node k hk').cell 1
  simpa using this

theorem ret_sb {a a' : ByteArray} {b b' : Bool} (h1 : a = a') (h2 : b = b') : Ending.returned (.tuple #[.string a, .bool b]) = .returned (.tuple #[.string a', .bool b']) := by rw [h1, h2]

theorem join_none (A : Option Addr) (cap : Nat) (w : World) :
    Calls Tryz.prog 47 #[.slice A 0 cap] w fun e w' => e = .returned (.string ⟨#[]⟩) ∧ Below w.heap.size w w' :=
  join_any A cap [] w (fun h => absurd h (by simp)) (Nat.zero_le _) (Nat.zero_le _)

end Go.Proofs.YtdpjdhllaokbfaaGreat

/-
  Contracts of the endings' method targets, and how it is found behind the interface.
-/
namespace Go.Proofs.YtdpjdhllaokbfaaGreat
open Go.RowKit Go.Sort

theorem stop_targets (w : World) : Calls Tryz.prog 158 #[.agg #[]] w fun e w' => e = .returned (.slice none 0 0) ∧ Below w.heap.size w w' := by
  go_enter Tryz.func158, Tryz.ntmps158
  go_wp2
  go_ret
  exact ⟨rfl, (Below.refl _ _).alloc (Nat.le_refl _) _⟩

theorem jump_targets (u : Option Addr) (w : World) : Calls Tryz.prog 156 #[.agg #[.pointer u]] w fun e w' => e = .returned (.slice (some ⟨w.heap.size + 1, 0, none⟩) 1 1) ∧ Blk w' (w.heap.size + 1) 73 #[.pointer u] ∧ Below w.heap.size w w' := by
  go_enter Tryz.func156, Tryz.ntmps156
  go_wp2
  go_ret
  refine ⟨rfl, ?_, ((Below.refl _ _).alloc (Nat.le_refl _) _).alloc (by simp) _⟩
  have := Blk.new (w.alloc (.cells #[.pointer u] 134)) 73 #[.pointer u]
  simpa using this

theorem branch_targets (u v : Option Addr) (w : World) : Calls Tryz.prog 157 #[.agg #[.pointer u, .pointer v]] w fun e w' => e = .returned (.slice (some ⟨w.heap.size + 1, 0, none⟩) 2 2) ∧ Blk w' (w.heap.size + 1) 73 #[.pointer u, .pointer v] ∧ Below w.heap.size w w' := by
  go_enter Tryz.func157, Tryz.ntmps157
  go_wp2
  go_ret
  refine ⟨rfl, ?_, ((Below.refl _ _).alloc (Nat.le_refl _) _).alloc (by simp) _⟩
  have := Blk.new (w.alloc (.cells #[.pointer u, .pointer v] 136)) 73 #[.pointer u, .pointer v]
  simpa using this

/-- Where a block of a graph goes on, as a list of nodes. -/
def goList (NB : Nat) (g : List Bl) (next : ByteArray) : List (Nat × ByteArray) :=
  if next.size = 1 then [(nb NB ((posOf g next).getD 0), next)]
  else if next.size = 2 then [(nb NB ((posOf g (next.extract 0 1)).getD 0), next.extract 0 1), (nb NB ((posOf g (next.extract 1 next.size)).getD 0), next.extract 1 next.size)]
  else []

def GoesPost (NB : Nat) (g : List Bl) (next : ByteArray) (w : World) (e : Ending) (w' : World) : Prop :=
  ∃ A, e = .returned (.slice A next.size next.size) ∧ Pts w' A (goList NB g next) ∧ Below w.heap.size w w'

theorem mem_names {g : List Bl} {c : UInt8} : c ∈ (names g).data.toList ↔ ∃ b ∈ g, c ∈ b.1.data.toList := by
  induction g with
  | nil => simp [names]
  | cons b g ih => rw [names, ba_append_toList, List.mem_append, ih]; simp

theorem posOf_is {g : List Bl} {s : ByteArray} {i : Nat} (h : posOf g s = some i) : ∃ h : i < g.length, g[i].1 = s := by
  unfold posOf at h
  have h1 := List.find?_some h
  have h2 := List.mem_range.1 (List.mem_of_find?_eq_some h)
  rw [nthName_at h2] at h1
  exact ⟨h2, by simpa using h1⟩

theorem posOf_has {g : List Bl} {s : ByteArray} {b : Bl} (hb : b ∈ g) (hs : b.1 = s) : ∃ i, posOf g s = some i := by
  cases h : posOf g s with
  | some i => exact ⟨i, rfl⟩
  | none =>
    obtain ⟨k, hk, rfl⟩ := List.getElem_of_mem hb
    unfold posOf at h
    have := List.find?_eq_none.1 h k (List.mem_range.2 hk)
    rw [nthName_at hk, hs] at this
    simp at this

/-- The names of a graph are single letters. -/
theorem valid_one {g : List Bl} (hv : validB g = true) {b : Bl} (hb : b ∈ g) : ∃ c, b.1 = ⟨#[c]⟩ ∧ letB c = true := by
  obtain ⟨k, hk, rfl⟩ := List.getElem_of_mem hb
  have := newsB_iff.1 (valid_iff.1 hv).2.2.1 k hk
  unfold newB at this
  exact one_of_name (Bool.and_eq_true_iff.1 this).1

theorem posOf_valid {g : List Bl} (hv : validB g = true) {k : Nat} (hk : k < g.length) {j : Nat} (hj : j < g[k].2.size) :
    ∃ i, ∃ h : i < g.length, posOf g ⟨#[g[k].2[j]'hj]⟩ = some i ∧ g[i].1 = ⟨#[g[k].2[j]'hj]⟩ := by
  have hn := nextB_iff.1 (nextsB_iff.1 (valid_iff.1 hv).2.2.2 k hk)
  have hm := idx_mem.1 (hn.2.1 j hj)
  obtain ⟨b, hb, hcb⟩ := mem_names.1 hm
  obtain ⟨c, hc, _⟩ := valid_one hv hb
  have hcc : c = g[k].2[j]'hj := by rw [hc] at hcb; have h4 : g[k].2[j]'hj = c := by simpa using hcb
                                    exact h4.symm
  obtain ⟨i, hi⟩ := posOf_has hb (hcc ▸ hc)
  obtain ⟨h1, h2⟩ := posOf_is hi
  exact ⟨i, h1, hi, h2⟩

theorem one_byte {s : ByteArray} (h : s.size = 1) : s = ⟨#[s[0]'(by omega)]⟩ := by
  apply ba_ext
  have hl : s.data.toList.length = 1 := by simpa using h
  obtain ⟨c, hc⟩ := List.length_eq_one_iff.1 hl
  have := byte_at s 0 (by omega)
  rw [hc] at this
  rw [hc]
  simpa using this

theorem ex_byte (s : ByteArray) {a b : Nat} (h : a < b) (hb : b ≤ s.size) (h1 : b - a = 1) : s.extract a b = ⟨#[s[a]'(by omega)]⟩ := by
  apply ba_ext
  rw [← Lib.toList_data, Lib.extract_toList]
  have h2 := byte_at s a (by omega)
  have h3 : (s.data.toList.drop a)[0]? = some (s[a]'(by omega)) := by rw [List.getElem?_drop]; simpa using h2
  rw [h1]
  cases hd : s.data.toList.drop a with
  | nil => rw [hd] at h3; simp at h3
  | cons x l => rw [hd] at h3; simp at h3; simp [h3]

theorem Nodes.at_ {w : World} {NB : Nat} {g : List Bl} {E : Nat → Value} (h : Nodes w NB g E) {i : Nat} (hi : i < g.length) : nb NB i < w.heap.size ∧ w.cell? ⟨nb NB i, 1, none⟩ = some (.string g[i].1) := by
  refine ⟨(h.node i hi).lt, ?_⟩
  have := (h.node i hi).cell 1
  simpa using this

theorem goList_length (NB : Nat) (g : List Bl) {next : ByteArray} (h : next.size ≤ 2) : (goList NB g next).length = next.size := by
  unfold goList
  by_cases h1 : next.size = 1
  · rw [if_pos h1, h1]; rfl
  · by_cases h2 : next.size = 2
    · rw [if_neg h1, if_pos h2, h2]; rfl
    · rw [if_neg h1, if_neg h2]; simp; omega

theorem joined_goes (NB : Nat) (g : List Bl) {next : ByteArray} (h : next.size ≤ 2) : joined (goList NB g next) = next := by
  unfold goList
  by_cases h1 : next.size = 1
  · rw [if_pos h1]; simp only [joined, ba_append_empty]
  · by_cases h2 : next.size = 2
    · rw [if_neg h1, if_pos h2]
      simp only [joined, ba_append_empty]
      apply ba_ext
      rw [ba_append_toList, ← Lib.toList_data, ← Lib.toList_data, Lib.extract_toList, Lib.extract_toList, h2]
      have hl : next.data.toList.length = 2 := by simpa using h2
      match hm : next.data.toList, hl with
      | [x, y], _ => rfl
    · rw [if_neg h1, if_neg h2]
      apply ba_ext
      have h0 : next.data.toList.length = next.size := by rw [Array.length_toList]; rfl
      rw [List.eq_nil_of_length_eq_zero (show next.data.toList.length = 0 by omega)]; rfl

/-- The method behind an ending: which function it is, and what it gives. -/
structure Disp (NB : Nat) (g : List Bl) (next : ByteArray) (T : TypeId) (v : Value) (F : FuncId) : Prop where
  val : endV NB g next = .iface T v
  look : ∀ w, (method 287 T v "loop.example/structuredjumps/impl.targets").run Tryz.prog w = .ok (F, v) w
  enter : ∀ args w, (callFunc F args).run Tryz.prog w = .ok (.enter F args) w
  goes : ∀ w E, Nodes w NB g E → Calls Tryz.prog F #[v] w (GoesPost NB g next w)

theorem look_stop (w : World) : (method 287 138 (.agg #[]) "loop.example/structuredjumps/impl.targets").run Tryz.prog w = .ok (158, .agg #[]) w := by kernel_rfl
theorem look_jump (u : Value) (w : World) : (method 287 134 (.agg #[u]) "loop.example/structuredjumps/impl.targets").run Tryz.prog w = .ok (156, .agg #[u]) w := by kernel_rfl
theorem look_branch (u v : Value) (w : World) : (method 287 136 (.agg #[u, v]) "loop.example/structuredjumps/impl.targets").run Tryz.prog w = .ok (157, .agg #[u, v]) w := by kernel_rfl

theorem disp {NB : Nat} {g : List Bl} (hv : validB g = true) {k : Nat} (hk : k < g.length) : ∃ T v F, Disp NB g g[k].2 T v F := by
  have h2 := (nextB_iff.1 (nextsB_iff.1 (valid_iff.1 hv).2.2.2 k hk)).1
  by_cases e1 : g[k].2.size = 1
  · obtain ⟨i, hi, hp, hs⟩ := posOf_valid hv hk (j := 0) (by omega)
    rw [← one_byte e1] at hp hs
    refine ⟨_, _, _, by unfold endV; rw [if_pos e1, hp], fun w => look_jump _ w, enters_of Tryz.func156 (by kernel_rfl) rfl, fun w E hN => ?_⟩
    refine (jump_targets _ w).mono ?_
    rintro e w' ⟨rfl, hb, hB⟩
    refine ⟨some ⟨w.heap.size + 1, 0, none⟩, by rw [e1], fun _ => ⟨_, 0, rfl, hb.lt, fun j hj => ?_⟩, hB⟩
    have e : goList NB g g[k].2 = [(nb NB i, g[k].2)] := by unfold goList; rw [if_pos e1, hp]; rfl
    have hj0 : j = 0 := by rw [e] at hj; simpa using hj
    subst hj0
    have hx : (goList NB g g[k].2)[0] = (nb NB i, g[k].2) := by simp [e]
    rw [hx]
    obtain ⟨q1, q2⟩ := (hN.below hB).at_ hi
    rw [hs] at q2
    exact ⟨by rw [hb.cell]; rfl, q1, q2⟩
  · by_cases e2 : g[k].2.size = 2
    · obtain ⟨i, hi, hp, hs⟩ := posOf_valid hv hk (j := 0) (by omega)
      obtain ⟨i', hi', hp', hs'⟩ := posOf_valid hv hk (j := 1) (by omega)
      rw [← ex_byte g[k].2 (a := 0) (b := 1) (by omega) (by omega) rfl] at hp hs
      rw [← ex_byte g[k].2 (a := 1) (b := g[k].2.size) (by omega) (by omega) (by omega)] at hp' hs'
      refine ⟨_, _, _, by unfold endV; rw [if_neg e1, if_pos e2, hp, hp'], fun w => look_branch _ _ w, enters_of Tryz.func157 (by kernel_rfl) rfl, fun w E hN => ?_⟩
      refine (branch_targets _ _ w).mono ?_
      rintro e w' ⟨rfl, hb, hB⟩
      refine ⟨some ⟨w.heap.size + 1, 0, none⟩, by rw [e2], fun _ => ⟨_, 0, rfl, hb.lt, fun j hj => ?_⟩, hB⟩
      have e : goList NB g g[k].2 = [(nb NB i, g[k].2.extract 0 1), (nb NB i', g[k].2.extract 1 g[k].2.size)] := by unfold goList; rw [if_neg e1, if_pos e2, hp, hp']; rfl
      have hj0 : j = 0 ∨ j = 1 := by rw [e] at hj; simp at hj; omega
      rcases hj0 with rfl | rfl
      · have hx : (goList NB g g[k].2)[0] = (nb NB i, g[k].2.extract 0 1) := by simp [e]
        rw [hx]
        obtain ⟨q1, q2⟩ := (hN.below hB).at_ hi
        rw [hs] at q2
        exact ⟨by rw [hb.cell]; rfl, q1, q2⟩
      · have hx : (goList NB g g[k].2)[1] = (nb NB i', g[k].2.extract 1 g[k].2.size) := by simp [e]
        rw [hx]
        obtain ⟨q1, q2⟩ := (hN.below hB).at_ hi'
        rw [hs'] at q2
        exact ⟨by rw [hb.cell]; rfl, q1, q2⟩
    · refine ⟨_, _, _, by unfold endV; rw [if_neg e1, if_neg e2], fun w => look_stop w, enters_of Tryz.func158 (by kernel_rfl) rfl, fun w E _ => ?_⟩
      refine (stop_targets w).mono ?_
      rintro e w' ⟨rfl, hB⟩
      have e0 : g[k].2.size = 0 := by omega
      refine ⟨none, by rw [e0], fun h => absurd h ?_, hB⟩
      rw [goList_length NB g h2]; omega
end Go.Proofs.YtdpjdhllaokbfaaGreat

/-
  Where a name stands in a graph: the model's search, and what NextOf returns.
-/
namespace Go.Proofs.YtdpjdhllaokbfaaGreat
open Go.RowKit Go.Sort

def nextVal (g : List Bl) (s : ByteArray) : ByteArray := if validB g then (match posOf g s with | some i => nthNext g i | none => ⟨#[]⟩) else ⟨#[]⟩
def nextHas (g : List Bl) (s : ByteArray) : Bool := validB g && (posOf g s).isSome

theorem nextVal_no {g : List Bl} {s : ByteArray} (h : validB g = false) : nextVal g s = ⟨#[]⟩ := by unfold nextVal; rw [h]; rfl
theorem nextHas_no {g : List Bl} {s : ByteArray} (h : validB g = false) : nextHas g s = false := by unfold nextHas; rw [h]; rfl
theorem nextVal_none {g : List Bl} {s : ByteArray} (hp : posOf g s = none) : nextVal g s = ⟨#[]⟩ := by unfold nextVal; rw [hp]; split <;> rfl
theorem nextHas_none {g : List Bl} {s : ByteArray} (hp : posOf g s = none) : nextHas g s = false := by unfold nextHas; rw [hp]; simp
theorem nextVal_some {g : List Bl} {s : ByteArray} {i : Nat} (h : validB g = true) (hp : posOf g s = some i) (hi : i < g.length) : nextVal g s = g[i].2 := by unfold nextVal; rw [if_pos h, hp]; exact nthNext_at hi
theorem nextHas_some {g : List Bl} {s : ByteArray} {i : Nat} (h : validB g = true) (hp : posOf g s = some i) : nextHas g s = true := by unfold nextHas; rw [h, hp]; rfl

def idxInt : Option Nat → Int
  | some i => i
  | none => -1

theorem index_any (A : Option Addr) (cap : Nat) (g : List Bl) (s : ByteArray) (w : World) (hg : Gr w A g) (hn : g.length ≤ 1048576) :
    Calls Tryz.prog 66 #[.slice A g.length cap, .string s] w fun e w' => e = .returned (.int .i64 (idxInt (posOf g s))) ∧ Below w.heap.size w w' := by
  go_enter Tryz.func66, Tryz.ntmps66
  go_wp2_with fail
  go_loopw [9] (fun i wr => ∃ k : Nat, k ≤ g.length ∧ i = .int .i64 k ∧ Hid (∀ j (h : j < g.length), j < k → g[j].1 ≠ s) ∧ Below w.heap.size w wr) (fun i _ => g.length - (intOf i).toNat)
  case atStart => exact ⟨0, Nat.zero_le _, rfl, fun j _ h => absurd h (by omega), Below.refl _ _⟩
  case round =>
    obtain ⟨k, hk, rfl, HK, hB⟩ := hrel
    by_cases hlt : k < g.length
    · obtain ⟨b, off, t, t2, rfl, hb, hc0, hc1, he, he2⟩ := gr_at (hg.below hB) hlt
      have HE := Lib.hid he
      clear he he2
      by_cases hq : (t.toList == s.toList) = true
      · have HP := Lib.hid (show posOf g s = some k from posOf_some hlt (HE.out.trans (beq_toList.1 hq)) HK.out)
        go_wp2_with fail
        go_ret
        exact ⟨ret_int (by rw [HP.out]; rfl), hB.alloc hB.size _⟩
      · have hq' : (t.toList == s.toList) = false := by simpa using hq
        have HNE := Lib.hid (show g[k].1 ≠ s from fun e => hq (beq_toList.2 (HE.out.symm.trans e)))
        clear hq
        go_wp2_with fail
        go_roundw
        case rel =>
          refine ⟨k + 1, by omega, by go_num, fun j h hj => ?_, hB.alloc hB.size _⟩
          rcases Nat.lt_succ_iff_lt_or_eq.1 hj with hj | rfl
          · exact HK.out j h hj
          · exact HNE.out
        case measure => simp [intOf]; omega
    · have HP := Lib.hid (show posOf g s = none from posOf_none fun j h => HK.out j h (by omega))
      go_wp2_with fail
      go_ret
      exact ⟨ret_int (by rw [HP.out]; rfl), hB⟩

theorem l1Next_any (A : Option Addr) (cap : Nat) (g : List Bl) (s : ByteArray) (i : Nat) (w : World) (hg : Gr w A g) (hn : g.length ≤ 1048576) (hp : posOf g s = some i) (hi : i < g.length) :
    Calls Tryz.prog 72 #[.slice A g.length cap, .string s] w fun e w' => e = .returned (.string g[i].2) ∧ Below w.heap.size w w' := by
  have hc := index_any A cap g s w hg hn
  rw [hp] at hc
  have HC : Hid (Calls Tryz.prog 66 #[.slice A g.length cap, .string s] w fun e w' => e = .returned (.int .i64 (i : Int)) ∧ Below w.heap.size w w') := hc
  clear hc hp
  obtain ⟨b, off, t, t2, rfl, hb, hc0, hc1, he, he2⟩ := gr_at hg hi
  have HE := Lib.hid he2
  clear he he2
  go_enter Tryz.func72, Tryz.ntmps72
  go_wp2_with fail
  refine HC.out.mono ?_
  rintro e w1 ⟨rfl, b1⟩
  have c1 := (b1.cell (p := ⟨b, off + i * 2 + 1, none⟩) hb).trans hc1
  go_wp2_with fail
  go_ret
  exact ⟨by rw [HE.out]; rfl, b1⟩
end Go.Proofs.YtdpjdhllaokbfaaGreat
