/-
  Contracts of the functions that make the nodes of a graph: blocks of memory that point to each other.
-/
import Derived.Test.YteodlcgmncchpaaSl
import Derived.Test.YteodlcgmncchpaaImplValid
import Derived.Laws.EntriesVeiled
import Derived.WalkLawsBesides
import Derived.Deep.OwnRows
import Derived.Deep.RegionWith
namespace Go.Proofs.Yteodlcgmncchpaa
open Go.RowKit Go.Sort

theorem ret_val {a b : Value} (h : a = b) : Ending.returned a = .returned b := by rw [h]

/-- The block of node i of a graph whose row of nodes is block NB. -/
abbrev nb (NB i : Nat) : Nat := NB + 2 + 2 * i
abbrev nptr (NB i : Nat) : Value := .pointer (some ⟨nb NB i, 0, none⟩)

/-- Where a name stands. -/
def posOf (g : List Bl) (s : ByteArray) : Option Nat := (List.range g.length).find? fun i => decide (nthName g i = s)

theorem posOf_some {g : List Bl} {s : ByteArray} {k : Nat} (h : k < g.length) (hk : g[k].1 = s) (hb : ∀ j (h' : j < g.length), j < k → g[j].1 ≠ s) : posOf g s = some k := by
  unfold posOf
  rw [List.find?_range_eq_some]
  refine ⟨by rw [nthName_at h, hk]; simp, by simpa using h, fun j hj => ?_⟩
  rw [nthName_at (by omega)]
  have := hb j (by omega) hj
  simpa using this

theorem posOf_none {g : List Bl} {s : ByteArray} (hb : ∀ j (h' : j < g.length), g[j].1 ≠ s) : posOf g s = none := by
  unfold posOf
  rw [List.find?_eq_none]
  intro j hj
  have hj' := List.mem_range.1 hj
  rw [nthName_at hj']
  simpa using hb j hj'

def ptrAt (NB : Nat) : Option Nat → Value
  | some i => nptr NB i
  | none => .pointer none

/-- The nodes of a graph, each with an ending. -/
structure Nodes (w : World) (NB : Nat) (g : List Bl) (E : Nat → Value) : Prop where
  row : ∃ cs, Blk w NB 61 cs ∧ cs.size = g.length ∧ ∀ i, i < g.length → cs[i]? = some (nptr NB i)
  node : ∀ i (h : i < g.length), Blk w (nb NB i) 68 #[.int .i64 i, .string g[i].1, E i]

theorem Nodes.lt {w : World} {NB : Nat} {g : List Bl} {E : Nat → Value} (h : Nodes w NB g E) : NB < w.heap.size := by
  obtain ⟨cs, hb, _⟩ := h.row; exact hb.lt

theorem Nodes.keep {w w' : World} {NB : Nat} {g : List Bl} {E : Nat → Value} (h : Nodes w NB g E) (hk : ∀ b, b < w.heap.size → w'.heap[b]? = w.heap[b]?) : Nodes w' NB g E :=
  ⟨by obtain ⟨cs, hb, hr⟩ := h.row; exact ⟨cs, (hk _ hb.lt).trans hb, hr⟩, fun i hi => (hk _ (h.node i hi).lt).trans (h.node i hi)⟩

theorem Nodes.below {w w' : World} {NB : Nat} {g : List Bl} {E : Nat → Value} (h : Nodes w NB g E) (hb : Below w.heap.size w w') : Nodes w' NB g E :=
  h.keep fun b hlt => hb.block b hlt

theorem Nodes.ptr {w : World} {NB : Nat} {g : List Bl} {E : Nat → Value} (h : Nodes w NB g E) {i : Nat} (hi : i < g.length) : w.cell? ⟨NB, i, none⟩ = some (nptr NB i) := by
  obtain ⟨cs, hb, _, hr⟩ := h.row
  rw [hb.cell]; exact hr i hi

set_option maxHeartbeats 400000 in
theorem named_any (NB : Nat) (g : List Bl) (E : Nat → Value) (cap : Nat) (s : ByteArray) (w : World) (hN : Nodes w NB g E) (hn : g.length ≤ 26) :
    Calls Try.prog 59 #[.slice (some ⟨NB, 0, none⟩) g.length cap, .string s] w fun e w' => e = .returned (ptrAt NB (posOf g s)) ∧ w = w' := by
  go_enter Try.func59, Try.ntmps59
  go_wp2
  go_loop [9] (fun i => ∃ k : Nat, k ≤ g.length ∧ i = .int .i64 k ∧ Hid (∀ j (h : j < g.length), j < k → g[j].1 ≠ s)) (fun i => g.length - (intOf i).toNat)
  case atStart => exact ⟨0, Nat.zero_le _, rfl, fun j _ h => absurd h (by omega)⟩
  case round =>
    obtain ⟨k, hk, rfl, HK⟩ := hrel
    by_cases hlt : k < g.length
    · have c0 := hN.ptr hlt
      have c1 := (hN.node k hlt).cell 1
      obtain ⟨t, ht⟩ : ∃ t, t = g[k].1 := ⟨_, rfl⟩
      rw [← ht] at c1
      have HT := Lib.hid ht
      clear ht
      by_cases hq : (t.toList == s.toList) = true
      · have HP := Lib.hid (show posOf g s = some k from posOf_some hlt (HT.out ▸ beq_toList.1 hq) HK.out)
        go_wp2
        go_ret
        exact ⟨by rw [HP.out]; rfl, rfl⟩
      · have hq' : (t.toList == s.toList) = false := by simpa using hq
        have HNE := Lib.hid (show g[k].1 ≠ s from fun e => hq (beq_toList.2 (HT.out.trans e)))
        clear hq
        go_wp2
        go_round
        case rel =>
          refine ⟨k + 1, by omega, by go_num, fun j h hj => ?_⟩
          rcases Nat.lt_succ_iff_lt_or_eq.1 hj with hj | rfl
          · exact HK.out j h hj
          · exact HNE.out
        case measure => simp [intOf]; omega
    · have HP := Lib.hid (show posOf g s = none from posOf_none fun j h => HK.out j h (by omega))
      go_wp2
      go_ret
      exact ⟨by rw [HP.out]; rfl, rfl⟩

theorem named_nil (s : ByteArray) (w : World) (A : Option Addr) (cap : Nat) :
    Calls Try.prog 59 #[.slice A 0 cap, .string s] w fun e w' => e = .returned (.pointer none) ∧ w = w' := by
  go_enter Try.func59, Try.ntmps59
  go_wp2
  refine wp_loop_rounds 1 ?_
  rw [rounds_succ]
  go_wp2
  go_ret
  exact ⟨rfl, rfl⟩

def endV (NB : Nat) (g : List Bl) (next : ByteArray) : Value :=
  if next.size = 1 then .iface 117 (.agg #[ptrAt NB (posOf g next)])
  else if next.size = 2 then .iface 119 (.agg #[ptrAt NB (posOf g (next.extract 0 1)), ptrAt NB (posOf g (next.extract 1 next.size))])
  else .iface 63 (.agg #[])

theorem endV_iface (NB : Nat) (g : List Bl) (next : ByteArray) : ∃ T v, endV NB g next = .iface T v := by
  unfold endV
  split
  · exact ⟨_, _, rfl⟩
  · split
    · exact ⟨_, _, rfl⟩
    · exact ⟨_, _, rfl⟩

theorem ptrAt_pointer (NB : Nat) (o : Option Nat) : ∃ u, ptrAt NB o = .pointer u := by
  cases o with
  | none => exact ⟨none, rfl⟩
  | some i => exact ⟨_, rfl⟩

set_option maxHeartbeats 400000 in
theorem ending_any (NB : Nat) (g : List Bl) (E : Nat → Value) (cap : Nat) (s : ByteArray) (w : World) (hN : Nodes w NB g E) (hn : g.length ≤ 26) :
    Calls Try.prog 80 #[.slice (some ⟨NB, 0, none⟩) g.length cap, .string s] w fun e w' => e = .returned (endV NB g s) ∧ ∃ n, w' = w.drewN n := by
  by_cases h1 : s.size = 1
  · have HE := Lib.hid (show endV NB g s = .iface 117 (.agg #[ptrAt NB (posOf g s)]) by unfold endV; rw [if_pos h1])
    obtain ⟨u, hu⟩ := ptrAt_pointer NB (posOf g s)
    rw [hu] at HE
    have HU := Lib.hid hu
    have g1 : ((s.size : Int) == 1) = true := by rw [h1]; rfl
    clear h1 hu
    go_enter Try.func80, Try.ntmps80
    go_wp2_with fail
    refine (named_any NB g E cap s w hN hn).mono ?_
    rintro e w' ⟨rfl, rfl⟩
    rw [HU.out]
    go_wp2
    go_ret
    exact ⟨ret_val HE.out.symm, 0, rfl⟩
  · by_cases h2 : s.size = 2
    · have HE := Lib.hid (show endV NB g s = .iface 119 (.agg #[ptrAt NB (posOf g (s.extract 0 1)), ptrAt NB (posOf g (s.extract 1 s.size))]) by unfold endV; rw [if_neg h1, if_pos h2])
      obtain ⟨u, hu⟩ := ptrAt_pointer NB (posOf g (s.extract 0 1))
      obtain ⟨v, hv⟩ := ptrAt_pointer NB (posOf g (s.extract 1 s.size))
      rw [hu, hv] at HE
      have cU : ∀ n, Calls Try.prog 59 #[.slice (some ⟨NB, 0, none⟩) g.length cap, .string (s.extract 0 1)] (w.drewN n) fun e w'' => e = .returned (.pointer u) ∧ ∃ m, w'' = w.drewN m := fun n => by
        have := named_any NB g E cap (s.extract 0 1) (w.drewN n) (hN.below (below_drewN w n)) hn
        rw [hu] at this
        exact Calls.quiet_of_same (this.mono fun _ _ ⟨a, b⟩ => ⟨a, b.symm⟩)
      have cV : ∀ n, Calls Try.prog 59 #[.slice (some ⟨NB, 0, none⟩) g.length cap, .string (s.extract 1 s.size)] (w.drewN n) fun e w'' => e = .returned (.pointer v) ∧ ∃ m, w'' = w.drewN m := fun n => by
        have := named_any NB g E cap (s.extract 1 s.size) (w.drewN n) (hN.below (below_drewN w n)) hn
        rw [hv] at this
        exact Calls.quiet_of_same (this.mono fun _ _ ⟨a, b⟩ => ⟨a, b.symm⟩)
      have g1 : ((s.size : Int) == 1) = false := by simp; omega
      have g2 : ((s.size : Int) == 2) = true := by rw [h2]; rfl
      have l1 : 1 ≤ s.size := by omega
      have l2 : (1 : Int) ≤ s.size := by omega
      clear h1 h2 hu hv
      go_enter Try.func80, Try.ntmps80
      go_wp2_with fail
      go_quiet (first | with_reducible exact cU _ | with_reducible exact cV _)
      go_wp2
      go_ret
      exact ⟨ret_val HE.out.symm, nq, rfl⟩
    · have HE := Lib.hid (show endV NB g s = .iface 63 (.agg #[]) by unfold endV; rw [if_neg h1, if_neg h2])
      have g1 : ((s.size : Int) == 1) = false := by simp; omega
      have g2 : ((s.size : Int) == 2) = false := by simp; omega
      clear h1 h2
      go_enter Try.func80, Try.ntmps80
      go_wp2
      go_ret
      exact ⟨ret_val HE.out.symm, 0, rfl⟩

def nthNext (g : List Bl) (k : Nat) : ByteArray := (g.map (·.2)).getD k ⟨#[]⟩
theorem nthNext_at {g : List Bl} {k : Nat} (h : k < g.length) : nthNext g k = g[k].2 := by
  unfold nthNext
  rw [List.getD_eq_getElem?_getD, List.getElem?_map, List.getElem?_eq_getElem h]; rfl

def ends (NB : Nat) (g : List Bl) (i : Nat) : Value := endV NB g (nthNext g i)

/-- While the nodes are made: the first k are there, without an ending. -/
structure Part (w : World) (NB : Nat) (g : List Bl) (k : Nat) : Prop where
  row : ∃ cs, Blk w NB 61 cs ∧ cs.size = g.length ∧ ∀ i, i < k → cs[i]? = some (nptr NB i)
  node : ∀ i (h : i < g.length), i < k → Blk w (nb NB i) 68 #[.int .i64 i, .string g[i].1, .nilIface]
  size : w.heap.size = NB + 1 + 2 * k

theorem Part.step {w : World} {NB : Nat} {g : List Bl} {k : Nat} {s : ByteArray} {o : Obj} (h : Part w NB g k) (hk : k < g.length) (hs : g[k].1 = s) :
    Part (((w.setCell ⟨NB, k, none⟩ (.pointer (some ⟨w.heap.size + 1, 0, none⟩))).alloc o).alloc (.cells #[.int .i64 k, .string s, .nilIface] 68)) NB g (k + 1) := by
  obtain ⟨cs, hb, hsz, hr⟩ := h.row
  have hz := h.size
  have hnb : w.heap.size + 1 = nb NB k := by unfold nb; omega
  rw [hnb]
  have hsz2 : (w.setCell ⟨NB, k, none⟩ (nptr NB k)).heap.size = w.heap.size := by simp
  refine ⟨⟨_, ((hb.set_ k _).alloc _).alloc _, by simpa using hsz, fun i hi => ?_⟩, fun i hi hik => ?_, ?_⟩
  · rw [Array.getElem?_setIfInBounds]
    by_cases e : k = i
    · subst e; rw [if_pos rfl, if_pos (by omega)]
    · rw [if_neg e]; exact hr i (by omega)
  · by_cases e : i = k
    · subst e
      have h2 := Blk.new ((w.setCell ⟨NB, i, none⟩ (nptr NB i)).alloc o) 68 #[.int .i64 (i : Int), .string s, .nilIface]
      have h3 : ((w.setCell ⟨NB, i, none⟩ (nptr NB i)).alloc o).heap.size = nb NB i := by unfold nb; simp; omega
      rw [h3] at h2
      rw [hs]; exact h2
    · have h4 : Blk (w.setCell ⟨NB, k, none⟩ (nptr NB k)) (nb NB i) 68 #[.int .i64 i, .string g[i].1, .nilIface] :=
        (Below.heap_setCell _ _ _ _ (by show nb NB i ≠ NB; unfold nb; omega)).trans (h.node i hi (by omega))
      exact (h4.alloc _).alloc _
  · simp; omega

/-- While the endings are laid: those of the first k are there. -/
def someEnds (NB : Nat) (g : List Bl) (k i : Nat) : Value := if i < k then ends NB g i else .nilIface

theorem Part.nodes {w : World} {NB : Nat} {g : List Bl} (h : Part w NB g g.length) : Nodes w NB g (someEnds NB g 0) :=
  ⟨h.row, fun i hi => by simpa [someEnds] using h.node i hi hi⟩

theorem Nodes.alloc {w : World} {NB : Nat} {g : List Bl} {E : Nat → Value} (h : Nodes w NB g E) (o : Obj) : Nodes (w.alloc o) NB g E :=
  h.keep fun b hlt => Below.heap_alloc w o b hlt

theorem Nodes.set_ {w : World} {NB : Nat} {g : List Bl} {k : Nat} {t : ByteArray} (h : Nodes w NB g (someEnds NB g k)) (hk : k < g.length) (ht : g[k].2 = t) :
    Nodes (w.setCell ⟨nb NB k, 2, none⟩ (endV NB g t)) NB g (someEnds NB g (k + 1)) := by
  obtain ⟨cs, hb, hr⟩ := h.row
  refine ⟨⟨cs, (Below.heap_setCell _ _ _ _ (by show NB ≠ nb NB k; unfold nb; omega)).trans hb, hr⟩, fun i hi => ?_⟩
  by_cases e : i = k
  · subst e
    have h2 := (h.node i hi).set_ 2 (endV NB g t)
    have e1 : someEnds NB g (i + 1) i = endV NB g t := by unfold someEnds ends; rw [if_pos (by omega), nthNext_at hi, ht]
    rw [e1]; exact h2
  · have e1 : someEnds NB g (k + 1) i = someEnds NB g k i := by
      unfold someEnds
      by_cases hlt : i < k
      · rw [if_pos hlt, if_pos (by omega)]
      · rw [if_neg hlt, if_neg (by omega)]
    rw [e1]
    exact (Below.heap_setCell _ _ _ _ (by show nb NB i ≠ nb NB k; unfold nb; omega)).trans (h.node i hi)

theorem Nodes.done {w : World} {NB : Nat} {g : List Bl} (h : Nodes w NB g (someEnds NB g g.length)) : Nodes w NB g (ends NB g) :=
  ⟨h.row, fun i hi => by have := h.node i hi; unfold someEnds at this; rwa [if_pos hi] at this⟩

theorem info_ptr : (Try.prog.info? 61).map (fun i => (i.zero, i.size, i.bytes)) = some (some (.pointer none), 1, 8) := by kernel_rfl

def NodesPost (w : World) (g : List Bl) (e : Ending) (w' : World) : Prop :=
  ∃ NB, w.heap.size ≤ NB ∧ e = .returned (.tuple #[.slice (some ⟨NB, 0, none⟩) g.length g.length, .bool true]) ∧ Nodes w' NB g (ends NB g) ∧ Below w.heap.size w w'

theorem nodesOf_no (A : Option Addr) (cap : Nat) (g : List Bl) (w : World) (hg : Gr w A g) (hn : g.length + tot g ≤ 1048576) (hv : validB g = false) :
    Calls Try.prog 49 #[.slice A g.length cap] w fun e w' => e = .returned (.tuple #[.slice none 0 0, .bool false]) ∧ Below w.heap.size w w' := by
  have hc := implValid_any A cap g w hg hn
  rw [hv] at hc
  have HC := Lib.hid hc
  clear hc hv
  go_enter Try.func49, Try.ntmps49
  go_wp2_with fail
  refine HC.out.mono ?_
  rintro e w1 ⟨rfl, b1⟩
  go_wp2_with fail
  go_ret2
  exact ⟨rfl, b1⟩

set_option maxHeartbeats 800000 in
theorem nodesOf_yes (A : Option Addr) (cap : Nat) (g : List Bl) (w : World) (hg : Gr w A g) (hn : g.length + tot g ≤ 1048576) (hv : validB g = true) :
    Calls Try.prog 49 #[.slice A g.length cap] w (NodesPost w g) := by
  have hc := implValid_any A cap g w hg hn
  rw [hv] at hc
  have HC := Lib.hid hc
  have h26 := (valid_iff.1 hv).2.1
  have hmk := run_make_row' (P := Try.prog) 57 61 (.pointer none) 8 Try.underlying57 info_ptr rfl .i64 .i64 g.length (by omega) (by omega)
  clear hc hv
  go_enter Try.func49, Try.ntmps49
  go_wp2_with fail
  refine HC.out.mono ?_
  rintro e w1 ⟨rfl, b1⟩
  go_wp2_with fail
  clear hmk
  obtain ⟨NB, hNB⟩ : ∃ NB, NB = w1.heap.size := ⟨_, rfl⟩
  have HNB : Hid (w.heap.size ≤ NB) := hNB ▸ b1.size
  have hp0 : Part (w1.alloc (.cells (madeCells #[.pointer none] g.length) 61)) NB g 0 := by
    rw [hNB]
    exact ⟨⟨_, Blk.new _ _ _, size_madeCells _ _, fun i hi => absurd hi (by omega)⟩, fun i _ hi => absurd hi (by omega), by simp⟩
  have HP0 := Lib.hid hp0
  have HBE := Lib.hid (b1.alloc b1.size (.cells (madeCells #[.pointer none] g.length) 61))
  rw [← hNB] at ⊢
  clear hNB b1 hp0
  go_loopw [17] (fun i wr => ∃ k : Nat, k ≤ g.length ∧ i = .int .i64 k ∧ Part wr NB g k ∧ Below w.heap.size w wr) (fun i _ => g.length - (intOf i).toNat)
  case atStart => exact ⟨0, Nat.zero_le _, rfl, HP0.out, HBE.out⟩
  case round =>
    obtain ⟨k, hk, rfl, hP, hB⟩ := hrel
    have HP := Lib.hid hP
    by_cases hlt : k < g.length
    · obtain ⟨b, off, s, t, rfl, hb, hc0, hc1, he, he2⟩ := gr_at (hg.below hB) hlt
      have HS := Lib.hid he
      obtain ⟨cs, hbk, hsz, _⟩ := hP.row
      have hlt2 := hbk.lt
      obtain ⟨v0, x0⟩ := hbk.some_cell (i := k) (by omega)
      have f0 := hbk.frozen k
      have hle := HNB.out
      clear he he2 hP hbk hsz
      go_wp2_with fail
      go_roundw
      case rel => exact ⟨k + 1, by omega, by go_num, HP.out.step hlt HS.out, ((hB.setCell (p := ⟨NB, k, none⟩) hle _).alloc (by simpa using hB.size) _).alloc (by have := hB.size; simp; omega) _⟩
      case measure => simp [intOf]; omega
    · have hkk : k = g.length := by omega
      have HN2 : Hid (Nodes wr NB g (someEnds NB g 0)) := (hkk ▸ hP).nodes
      clear hP hkk
      go_wp2_with fail
      obtain ⟨wo, hwo⟩ : ∃ wo : World, wo = wr := ⟨_, rfl⟩
      rw [← hwo] at hB HN2 ⊢
      clear hwo HP
      go_loopw [33] (fun i wr => ∃ k : Nat, k ≤ g.length ∧ i = .int .i64 k ∧ Nodes wr NB g (someEnds NB g k) ∧ Below w.heap.size w wr) (fun i _ => g.length - (intOf i).toNat)
      case atStart => exact ⟨0, Nat.zero_le _, rfl, HN2.out, hB⟩
      case round =>
        obtain ⟨k, hk, rfl, hN, hB2⟩ := hrel
        by_cases hlt : k < g.length
        · obtain ⟨b, off, s, t, rfl, hb, hc0, hc1, he, he2⟩ := gr_at (hg.below hB2) hlt
          have HT := Lib.hid he2
          have hts := tot_get g k hlt
          rw [he, he2] at hts
          clear he he2
          have x0 := hN.ptr hlt
          have hblk := hN.node k hlt
          have l0 := hN.lt
          have l1 := hblk.lt
          obtain ⟨v2, x2⟩ := hblk.some_cell (i := 2) (by simp)
          have f2 := hblk.frozen 2
          obtain ⟨T, v, hTv⟩ := endV_iface NB g t
          have HN := Lib.hid hN
          have HTV := Lib.hid hTv
          have HC2 : Hid (∀ n, Calls Try.prog 80 #[.slice (some ⟨NB, 0, none⟩) g.length g.length, .string t] ((wr.alloc (.cells #[.string s, .string t] 49)).drewN n) fun e w' => e = .returned (.iface T v) ∧ ∃ m, w' = ((wr.alloc (.cells #[.string s, .string t] 49)).drewN n).drewN m) := fun n => by
            rw [← hTv]
            exact ending_any NB g _ g.length t _ ((HN.out.alloc _).below (below_drewN _ n)) h26
          clear hblk hN hTv
          go_wp2_with fail
          have HC3 : Hid (Calls Try.prog 80 #[.slice (some ⟨NB, 0, none⟩) g.length g.length, .string t] ((wr.alloc (.cells #[.string s, .string t] 49)).drew) fun e w' => e = .returned (.iface T v) ∧ ∃ m, w' = ((wr.alloc (.cells #[.string s, .string t] 49)).drew).drewN m) := HC2.out 1
          go_region_with (go_at_call 80; refine HC3.out.mono ?_; rintro e w' ⟨rfl, m, rfl⟩)
          all_goals
            go_wp2_with fail
            go_roundw
            case rel =>
              have hq := ((HN.out.alloc (.cells #[.string s, .string t] 49)).below (below_drewN _ (1 + m))).set_ hlt HT.out
              rw [HTV.out] at hq
              exact ⟨k + 1, by omega, by go_num, hq, (below_trans_self (hB2.alloc hB2.size _) (below_drewN _ (1 + m))).setCell (p := ⟨nb NB k, 2, none⟩) (by show w.heap.size ≤ nb NB k; have := HNB.out; unfold nb; omega) _⟩
            case measure => simp [intOf]; omega
        · go_wp2_with fail
          exact bodyPost_ret (v := .tuple #[.slice (some ⟨NB, 0, none⟩) g.length g.length, .bool true]) (by simp [results, Try.results49, go_sem]) rfl ⟨NB, HNB.out, rfl, Nodes.done ((show k = g.length by omega) ▸ hN), hB2⟩
end Go.Proofs.Yteodlcgmncchpaa
