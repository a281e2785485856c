/-
  Contracts: nodes sorted by their places in the graph.
-/
import Derived.Test.YteodlcgmncchpaaReachFrom
import Derived.Test.YteodlcgmncchpaaSort
import Derived.Test.YteodlcgmncchpaaRunGraph
namespace Go.Proofs.Yteodlcgmncchpaa
open Go.RowKit Go.Sort Go.Shelf

theorem cmp_any (NB : Nat) (g : List Bl) (i j : Nat) (hi : i < g.length) (hj : j < g.length) (w : World) (hN : NodesIn w NB g) (h26 : g.length ≤ 26) :
    Calls Try.prog 85 #[nptr NB i, nptr NB j] w fun e w' => e = .returned (.int .i64 ((i : Int) - j)) ∧ ∃ q, w' = w.drewN q := by
  have c1 : w.cell? ⟨nb NB i, 0, none⟩ = some (.int .i64 i) := by have := (hN i hi).cell 0; simpa using this
  have c2 : w.cell? ⟨nb NB j, 0, none⟩ = some (.int .i64 j) := by have := (hN j hj).cell 0; simpa using this
  have hw : wrap64 ((i : Int) - j) = (i : Int) - j := by unfold wrap64; omega
  have HW := Lib.hid hw
  clear hw hN
  go_enter Try.func85, Try.ntmps85
  go_wp2_with fail
  go_quiet (fail)
  go_wp2_with fail
  go_ret
  exact ⟨ret_int (by first | exact HW.out | rfl), nq, rfl⟩

theorem turns_sort {α : Type} [Inhabited α] (enc : α → Value) (w : World) (blk off n : Nat) (d : Array α) (os : Array Obj) : Turns (fun k => k = blk) w (sortWorld enc w blk off n d os) := by
  have e : (sortWorld enc w blk off n d os).heap = (w.heap.modify blk (onCells (putCells enc off d))) ++ os := rfl
  refine ⟨rfl, rfl, rfl, by rw [e, Array.size_append, Array.size_modify]; omega, fun k hk hn => ?_⟩
  rw [e, Array.getElem?_append_left (by rw [Array.size_modify]; exact hk), Array.getElem?_modify, if_neg (fun e => hn e.symm)]

/-- The order of places in the graph. -/
def cfI {g : List Bl} (x y : { i : Nat // i < g.length }) : Int := (x.1 : Int) - y.1

theorem lt_cfI {g : List Bl} (x y : { i : Nat // i < g.length }) : ltOf cfI x y = decide (x.1 < y.1) := by
  unfold ltOf cfI
  apply decide_eq_decide.2
  omega

theorem swoI {g : List Bl} : SWO (ltOf (cfI (g := g))) where
  irrefl x := by rw [lt_cfI]; simp
  trans x y z h1 h2 := by rw [lt_cfI] at *; simp at *; omega
  ntrans x y z h1 h2 := by rw [lt_cfI] at *; simp at *; omega

/-- Sorted ascending, and the same ones: the same list. -/
theorem sorted_same {l₁ l₂ : List Nat} (h1 : l₁.Pairwise (· < ·)) (h2 : l₂.Pairwise (· ≤ ·)) (h : l₁.Perm l₂) : l₁ = l₂ :=
  List.Perm.eq_of_pairwise (le := (· ≤ ·)) (fun _ _ _ _ h h' => Nat.le_antisymm h h') (h1.imp Nat.le_of_lt) h2 h

theorem reachS_perm {g : List Bl} (hv : validB g = true) : (reachS g).Perm (reach g) := by
  have h1 : (reachS g).Nodup := List.Pairwise.filter _ List.nodup_range
  refine (List.perm_ext_iff_of_nodup h1 (reach_nodup g)).2 fun x => ?_
  unfold reachS
  rw [List.mem_filter, List.mem_range]
  constructor
  · intro h; simpa using h.2
  · intro h; exact ⟨reach_lt hv h, by simpa using h⟩

theorem reachS_up (g : List Bl) : (reachS g).Pairwise (· < ·) := List.Pairwise.filter _ List.pairwise_lt_range

theorem node_oneCell (NB : Nat) (g : List Bl) : OneCell (fun x : { i : Nat // i < g.length } => nptr NB x.1) := fun _ => rfl

/-- slices.SortFunc at the nodes that can be come to. -/
theorem sortNodes_any (NB B off cap : Nat) (g : List Bl) (O : Nat → Prop) (w : World) (hv : validB g = true) (hN : NodesIn w NB g) (hB : ∀ i, i < g.length → nb NB i ≠ B)
    (hQ : Que w 61 1 O (.slice (some ⟨B, off, none⟩) (reach g).length cap) (reach g).length ((reach g).map (nptr NB))) :
    Calls Try.prog 84 #[.slice (some ⟨B, off, none⟩) (reach g).length cap, .func (.func 85) #[] #[]] w fun e w' =>
      e = .returned (.tuple #[]) ∧ Turns (fun k => k = B) w w' ∧ ∀ k (h : k < (reachS g).length), w'.cell? ⟨B, off + k, none⟩ = some (nptr NB (reachS g)[k]) := by
  have hpos := (valid_iff.1 hv).1
  have h26 := (valid_iff.1 hv).2.1
  letI : Inhabited { i : Nat // i < g.length } := ⟨⟨0, hpos⟩⟩
  obtain ⟨B', off', cap', cs, hval, hn, hb, hs, ho, hx, hc⟩ := hQ
  simp only [Value.slice.injEq, Option.some.injEq, Addr.mk.injEq, and_true, true_and] at hval
  obtain ⟨⟨rfl, rfl⟩, rfl⟩ := hval
  obtain ⟨d, hd⟩ : ∃ d : Array { i : Nat // i < g.length }, d.toList.map (·.1) = reach g :=
    ⟨((reach g).attach.map fun x => ⟨x.1, reach_lt hv x.2⟩).toArray, by simp⟩
  have hds : d.size = (reach g).length := by rw [← hd]; simp
  have hget : ∀ (a : Array { i : Nat // i < g.length }) (j : Nat) (h : j < a.size), a[j]! = a[j] := fun a j h => getElem!_pos a j h
  have hH : Holds (fun x : { i : Nat // i < g.length } => nptr NB x.1) w B off d := by
    intro j hj
    refine ⟨?_, by simp [World.frozen?, hb]⟩
    rw [cell_of_row w B (off + j) cs _ (0, 0) hb, hc j (by rw [List.length_map, ← hds]; exact hj), ← hd, hget d j hj]
    simp [hj]
  have hcon := Any.slices_SortFunc Try.sortNodes (fun x : { i : Nat // i < g.length } => nptr NB x.1) (node_oneCell NB g) cfI swoI 85 #[] B off cap d w (enters_of Try.func85 (by kernel_rfl) rfl)
    (fun m os dk _ x y => (cmp_any NB g x.1 y.1 x.2 y.2 _ (fun i hi => ((turns_sort _ w B off m dk os).block _ (hN i hi).lt (hB i hi)).trans (hN i hi)) h26).mono fun e w' ⟨he, q, hq⟩ => ⟨he, q, #[], by rw [hq, grow_empty]⟩)
    hH (Array.getElem?_eq_some_iff.1 hb).1 (by have := reach_len hv; omega)
  rw [hds] at hcon
  refine hcon.mono ?_
  rintro e w' ⟨he, d', n, os, hp, hso, rfl⟩
  have hds' : d'.size = d.size := hp.1
  refine ⟨he, turns_sort _ w B off n d' os, fun k hk => ?_⟩
  have hperm : (d'.toList.map (·.1)).Perm (reach g) := by
    have h1 := hp.2.2
    have e1 : (d'.extract 0 (reach g).length).toList = d'.toList := by rw [← hds, ← hds', Array.extract_size]
    have e2 : (d.extract 0 (reach g).length).toList = d.toList := by rw [← hds, Array.extract_size]
    rw [e1, e2] at h1
    rw [← hd]; exact h1.map _
  have hup : (d'.toList.map (·.1)).Pairwise (· ≤ ·) := by
    rw [List.pairwise_map, List.pairwise_iff_getElem]
    intro i j hi hj hij
    have hi' : i < d'.size := by simpa using hi
    have hj' : j < d'.size := by simpa using hj
    have := hso i j (Nat.zero_le _) hij (by rw [← hds, ← hds']; exact hj')
    rw [lt_cfI, hget d' j hj', hget d' i hi'] at this
    simp at this
    simpa using this
  have hsame := sorted_same (reachS_up g) hup ((reachS_perm hv).trans hperm.symm)
  have hk' : k < d'.size := by rw [hsame] at hk; simpa using hk
  have hh := (holds_sortWorld _ w B off n d d' os (Array.getElem?_eq_some_iff.1 hb).1 hH hds') k hk'
  rw [hh.1, hget d' k hk']
  congr 2
  have : (reachS g)[k] = (d'.toList.map (·.1))[k]'(by simpa using hk') := by congr 1
  rw [this]; simp

end Go.Proofs.Yteodlcgmncchpaa

/-
  Contract: the nodes that can be come to, in the order of the graph.
-/
namespace Go.Proofs.Yteodlcgmncchpaa
open Go.RowKit Go.Sort Go.Shelf
attribute [local go_sem] Oper.semAt_some

/-- Nodes by their numbers. -/
def nodesAt (NB : Nat) (g : List Bl) (l : List Nat) : List (Nat × ByteArray) := l.map fun i => (nb NB i, nthName g i)

theorem nodesAt_length (NB : Nat) (g : List Bl) (l : List Nat) : (nodesAt NB g l).length = l.length := by simp [nodesAt]

theorem joined_nodesAt (NB : Nat) (g : List Bl) : ∀ l, joined (nodesAt NB g l) = namesAt g l
  | [] => rfl
  | i :: l => by
    have ih := joined_nodesAt NB g l
    unfold nodesAt at ih ⊢
    simp only [List.map_cons, joined, namesAt, ih]

def ReachedPost (w : World) (g : List Bl) (e : Ending) (w' : World) : Prop :=
  ∃ NB A cap, w.heap.size ≤ NB ∧ e = .returned (.tuple #[.slice A (reachS g).length cap, .bool true]) ∧ Pts w' A (nodesAt NB g (reachS g)) ∧ NodesIn w' NB g ∧ Below w.heap.size w w'

theorem reachedNodes_no (A : Option Addr) (cap : Nat) (g : List Bl) (w : World) (hg : Gr w A g) (hn : g.length + tot g ≤ 1048576) (hv : validB g = false) :
    Calls Try.prog 58 #[.slice A g.length cap] w fun e w' => e = .returned (.tuple #[.slice none 0 0, .bool false]) ∧ Below w.heap.size w w' := by
  have HC := Lib.hid (nodesOf_no A cap g w hg hn hv)
  clear hv
  go_enter Try.func58, Try.ntmps58
  go_wp2_with fail
  refine HC.out.mono ?_
  rintro e w1 ⟨rfl, b1⟩
  go_wp2_with fail
  go_ret2
  exact ⟨rfl, b1⟩

set_option maxRecDepth 100000 in
set_option maxHeartbeats 2000000 in
theorem reachedNodes_yes (A : Option Addr) (cap : Nat) (g : List Bl) (w : World) (hg : Gr w A g) (hn : g.length + tot g ≤ 1048576) (hv : validB g = true) :
    Calls Try.prog 58 #[.slice A g.length cap] w (ReachedPost w g) := by
  obtain ⟨i0, hi0, hz0, hz1, hz2⟩ := info_parts info_ptr
  have HC := Lib.hid (nodesOf_yes A cap g w hg hn hv)
  have hpos := (valid_iff.1 hv).1
  have h26 := (valid_iff.1 hv).2.1
  have HT := Lib.hid hv
  clear hv
  refine (callsIn_wide (n := 4)).1 ?_
  refine callsIn_of_wp_marks Try.func58 rfl trivial ?_ rfl
  simp only [Try.ntmps58, List.size_toArray, List.length_cons, List.length_nil, Nat.reduceAdd, Nat.reduceSub, Array.replicate_succ, Array.replicate_zero, List.push_toArray, List.append_toArray, List.nil_append, List.cons_append]
  refine wpIn_mono (Q := calm _) ?_ calm_le
  gi_wp2_with fail
  refine ⟨trivial, (callsIn_wide.2 HC.out).mono ?_⟩
  rintro e w1 ⟨NB, hle, rfl, hN, b1⟩
  have HN := Lib.hid hN
  have HB1 := Lib.hid b1
  have x0 := hN.ptr hpos
  have hNl := hN.lt
  have hs1 := b1.size
  clear hN b1
  gi_wp2_with fail
  refine ⟨trivial, (callsIn_wide.2 (reachedFrom_any _ _)).mono ?_⟩
  rintro e w3 ⟨rfl, hw3⟩
  have hs3 : w3.heap.size = w1.heap.size + 2 := by rw [hw3]; simp
  have k1 : Boxed w3 w1.heap.size 57 (.slice none 0 0) := by rw [hw3]; exact (Boxed.new w1 _ _).alloc _
  have hb3 : Below w1.heap.size w1 w3 := by
    rw [hw3]; exact ((Below.refl _ w1).alloc (Nat.le_refl _) _).alloc (by simp) _
  have kE : w3.cell? ⟨w1.heap.size + 1, 0, none⟩ = some (nptr NB 0) := by
    have := Boxed.new (w1.alloc (.cells #[.slice none 0 0] 57)) 61 (nptr NB 0)
    rw [World.size_alloc] at this
    have b : Boxed w3 (w1.heap.size + 1) 61 (nptr NB 0) := by rw [hw3]; exact this
    exact b.cell
  have HN3 := Lib.hid (NodesIn.of (HN.out.below hb3))
  have HB3 := Lib.hid (below_trans_self HB1.out hb3)
  have HNL := Lib.hid (fun i hi => (HN.out.node i hi).lt)
  clear hw3 hb3
  have hlr := reach_len HT.out
  gi_wp2_with fail
  refine wpIn_rangeFunc_mine rfl (by decide) (gf := 101) rfl trivial (enters_of Try.func101 (by kernel_rfl) rfl)
    (reachedFrom1_own 3 NB _ g (fun k => k < w1.heap.size) w3 (by decide) HT.out kE HN3.out (fun i hi => HNL.out i hi) (by omega)) (Below.refl _ _) (fun _ => rfl) (fun k hk => by omega)
    (fun O pre W => ∃ v, Boxed W w1.heap.size 57 v ∧ Row W 61 1 (fun k => w3.heap.size ≤ k ∧ ¬ O k) v pre.length (pre.map (nptr NB)) ∧ NodesIn W NB g ∧ Below w.heap.size w W)
    (fun _ _ _ => False)
    ?hI (fun _ _ _ _ _ h _ => h) (fun _ _ _ _ => trivial) ?h0
    (fun x => { tmps := #[.slice A g.length cap, undef, .slice none 0 0, .bool false, .slice (some ⟨NB, 0, none⟩) g.length g.length, .bool true,
      .pointer (some ⟨w1.heap.size, 0, none⟩), nptr NB x, .tuple #[.slice (some ⟨NB, 0, none⟩) g.length g.length, .bool true], .slice A g.length cap,
      .tuple #[.slice (some ⟨NB, 0, none⟩) g.length g.length, .bool true], .slice (some ⟨NB, 0, none⟩) g.length g.length, .bool true, .bool true, .bool false,
      .slice (some ⟨NB, 0, none⟩) g.length g.length, .pointer (some ⟨NB, 0, none⟩), nptr NB 0,
      .func (.func 101) #[] #[.pointer (some ⟨w1.heap.size + 1, 0, none⟩)], nptr NB x, undef, undef, undef, undef, undef, undef, undef], defers := [] }) ?assign ?body ?done ?stop
  case hI =>
    rintro O pre X Y hle hO ⟨v, h1, h2, h3, h4⟩ hT
    refine ⟨v, (hT.block _ h1.lt fun h => by have := hO _ h; omega).trans h1, h2.kept (hT.keeps fun k h => h.2) fun k hk h => ⟨h.1, fun h' => ?_⟩,
      fun i hi => (hT.block _ (h3 i hi).lt fun h => by have := hO _ h; have := HNL.out i hi; omega).trans (h3 i hi), h4.trans (hT.below h4.size fun k h => by have := hO k h; have := HB3.out.size; omega)⟩
    rcases h' with h' | h'
    · exact h.2 h'
    · omega
  case h0 => exact ⟨_, k1, Row.nil _ _ _ _, HN3.out, HB3.out⟩
  case assign =>
    intro l x W K hK
    gi_wp2
    exact hK
  case body =>
    rintro l O pre x W hle2 hO ⟨v, h1, h2, h3, h4⟩ hx
    have hxl : x < g.length := reach_lt HT.out (hx.subset (by simp))
    have hpl : pre.length + 1 ≤ 26 := by have := hx.length_le; simp at this; omega
    have c1 := h1.cell
    have f1 := h1.frozen
    have hbl := h1.lt
    have K1 := Lib.hid h1
    have K3 := Lib.hid h3
    have K4 := Lib.hid h4
    have HRW := Lib.hid (h2.kept (O' := fun k => w3.heap.size ≤ k ∧ ¬ O k) (Turns.keeps (O := fun _ => False) (Turns.alloc _ W (.cells #[nptr NB x] 61)) fun _ _ h => h) fun _ _ h => h)
    have HNEW := Lib.hid (cell_one_new W (nptr NB x) 61)
    clear h1 h2 h3 h4 hx
    gi_wp2_with (gi_at_builtin; refine wpListIn_append_row _ rfl _ _ 57 rfl 61 i0 (.pointer none) 1 Try.underlying57 hi0 hz0 hz1 (by rw [hz2]; decide) rfl (fun k => w3.heap.size ≤ k ∧ ¬ O k) v pre.length (pre.map (nptr NB)) rfl HRW.out ⟨W.heap.size, 0, none⟩ 1 1 [nptr NB x] rfl rfl HNEW.out (by simp [Value.oneCell']) (by omega) (by decide) ?_; intro v' w2 hq' hT'; obtain ⟨B', off', cap', rfl, _⟩ := hq'.cells; have k2 : Boxed w2 w1.heap.size 57 v := (hT'.block _ (by simp; omega) fun h => by have := h.1; omega).trans (K1.out.alloc _); have c2 := k2.cell; have f2 := k2.frozen; have KB := Lib.hid k2; have HQQ := Lib.hid hq'; have HTT := Lib.hid hT'; clear k2 hq' hT')
    have hsA : (W.alloc (.cells #[nptr NB x] 61)).heap.size = W.heap.size + 1 := by simp
    have T0 := Turns.alloc (fun k => w3.heap.size ≤ k ∧ ¬ O k) W (.cells #[nptr NB x] 61)
    have T1 : Turns (fun k => w3.heap.size ≤ k ∧ ¬ O k) W w2 := T0.trans (HTT.out.wider fun k h => .inl h)
    have T2 : Turns (fun k => k = w1.heap.size) w2 (w2.setCell ⟨w1.heap.size, 0, none⟩ (.slice (some ⟨B', off', none⟩) (pre.length + 1) cap')) := Turns.setCell (O := fun k => k = w1.heap.size) (p := ⟨w1.heap.size, 0, none⟩) rfl _
    have hk : Keeps (fun k => k < w1.heap.size ∨ O k) W (w2.setCell ⟨w1.heap.size, 0, none⟩ (.slice (some ⟨B', off', none⟩) (pre.length + 1) cap')) :=
      (T1.keeps fun k h h' => h.elim (fun h => by have := h'.1; omega) h'.2).trans (T2.keeps fun k h h' => h.elim (fun h => by omega) fun h => by have := hO k h; omega)
    refine ⟨hk, _, KB.out.set _, .inr ?_, K3.out.kept hk fun i hi => .inl (HNL.out i hi), ?_⟩
    · have hq := HQQ.out
      have e1 : (pre ++ [x]).length = pre.length + 1 := by simp
      have e2 : (pre ++ [x]).map (nptr NB) = pre.map (nptr NB) ++ [nptr NB x] := by simp
      rw [e1, e2]
      refine hq.kept (T2.keeps fun k h h' => ?_) fun k hk h => ?_
      · rcases h with h | h
        · have := h.1; omega
        · rw [hsA] at h; omega
      · rcases h with h | h
        · exact h
        · rw [hsA] at h
          exact ⟨by omega, fun h' => by have := hO k h'; omega⟩
    · have h5 := K4.out.trans (T1.below K4.out.size fun k h => by have := HB3.out.size; omega)
      exact h5.trans (T2.below h5.size fun k h => by have := HB1.out.size; omega)
  case done =>
    rintro D O xs W rfl hO rfl ⟨v, h1, h2, h3, h4⟩ hOD hK
    have h0r : 0 < (reach g).length := by have := (bfs_reach (g := g) (k := 0) (Nat.zero_le _)).length_le; simp [bfs] at this; omega
    have hq : Que W 61 1 (fun k => w3.heap.size ≤ k ∧ ¬ O k) v (reach g).length ((reach g).map (nptr NB)) := by
      rcases h2 with ⟨_, h, _⟩ | h
      · omega
      · exact h
    obtain ⟨B', off', cap', rfl, _, hMB, hBl, _⟩ := hq.cells
    have c1 := h1.cell
    have HS := Lib.hid (sortNodes_any NB B' off' cap' g _ W HT.out h3 (fun i hi e => by have := HNL.out i hi; omega) hq)
    have K1 := Lib.hid h1
    have K3 := Lib.hid h3
    have K4 := Lib.hid h4
    have HK := Lib.hid hK
    have HMB := Lib.hid hMB
    have hDl : w3.heap.size < W.heap.size := (hO _ hOD).2
    clear h1 h2 h3 h4 hK hq hMB
    gi_wp2_with fail
    refine ⟨trivial, (callsIn_wide.2 HS.out).mono ?_⟩
    rintro e W2 ⟨rfl, hT, hcells⟩
    have hneB : w1.heap.size ≠ B' := fun e => by have := HMB.out.1; omega
    have k2 : Boxed W2 w1.heap.size 57 (.slice (some ⟨B', off', none⟩) (reach g).length cap') := (hT.block _ K1.out.lt hneB).trans K1.out
    have c2 := k2.cell
    have HK2 := Lib.hid (show W2.heap[w3.heap.size]? = some (.deferred (some [])) from (hT.block _ hDl fun e => HMB.out.2 (e ▸ hOD)).trans HK.out)
    have hrl : (reachS g).length = (reach g).length := (reachS_perm HT.out).length_eq
    have hs2 := hT.size
    have HP := Lib.hid (show Pts (W2.putObj w3.heap.size (.deferred none)) (some ⟨B', off', none⟩) (nodesAt NB g (reachS g)) by
      intro _
      refine ⟨B', off', rfl, by simp; omega, fun k hk => ?_⟩
      rw [nodesAt_length] at hk
      have hi : (reachS g)[k] < g.length := by
        have : (reachS g)[k] ∈ reachS g := List.getElem_mem hk
        exact List.mem_range.1 (List.mem_filter.1 this).1
      have hget : (nodesAt NB g (reachS g))[k]'(by rw [nodesAt_length]; exact hk) = (nb NB (reachS g)[k], nthName g (reachS g)[k]) := by simp [nodesAt]
      rw [hget]
      have hNl := HNL.out _ hi
      have hn1 : Blk (W2.putObj w3.heap.size (.deferred none)) (nb NB (reachS g)[k]) 68 #[.int .i64 (reachS g)[k], .string g[(reachS g)[k]].1, ends NB g (reachS g)[k]] :=
        (World.putObj_heap_other (by omega)).trans ((hT.block _ (K3.out _ hi).lt (fun e => by have := HMB.out.1; omega)).trans (K3.out _ hi))
      refine ⟨?_, by simp; omega, ?_⟩
      · have : (W2.putObj w3.heap.size (.deferred none)).cell? ⟨B', off' + k, none⟩ = W2.cell? ⟨B', off' + k, none⟩ := World.cell?_of_block (World.putObj_heap_other (fun e => HMB.out.2 (by have e' : B' = w3.heap.size := e; rw [e']; exact hOD)))
        rw [this]; exact hcells k hk
      · have := hn1.cell 1
        rw [this, nthName_at hi]; rfl)
    have HN2 := Lib.hid (show NodesIn (W2.putObj w3.heap.size (.deferred none)) NB g from fun i hi => (World.putObj_heap_other (by have := HNL.out i hi; omega)).trans ((hT.block _ (K3.out i hi).lt (fun e => by have := HMB.out.1; have := HNL.out i hi; omega)).trans (K3.out i hi)))
    have HBB := Lib.hid (below_put (K4.out.trans (hT.below K4.out.size fun k h => by have := HMB.out.1; have := HB3.out.size; omega)) (l := w3.heap.size) (by have := HB3.out.size; omega) (.deferred none))
    clear hT hcells k2
    rw [hs3] at HK2 HP HN2 HBB
    gi_wp2_with fail
    refine ⟨by simp, .inl ⟨_, _, rfl, run_takeDeferred HK2.out, ?_⟩⟩
    refine ⟨_, results_tmp2 rfl _ _ _, NB, some ⟨B', off', none⟩, cap', hle, ?_, HP.out, HN2.out, HBB.out⟩
    rw [hrl]; rfl
  case stop =>
    rintro D c pre W _ _ h _
    exact h.elim
end Go.Proofs.Yteodlcgmncchpaa
