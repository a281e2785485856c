/-
  Contracts: nodes sorted by their places in the graph.
-/
import Derived.Test.YtdpjdhllaokbfaaGreatSpreadFrom
import Derived.Test.YtdpjdhllaokbfaaGreatSort
import Derived.Test.YtdpjdhllaokbfaaGreatSpecReached
namespace Go.Proofs.YtdpjdhllaokbfaaGreat
open Go.RowKit Go.Sort Go.Shelf

theorem cmp_any (NB : Nat) (g : List Bl) (i j : Nat) (hi : i < g.length) (hj : j < g.length) (w : World) (hN : NodesIn w NB g) (h26 : g.length ≤ 26) :
    Calls Tryz.prog 85 #[nptr NB i, nptr NB j] w fun e w' => e = .returned (.int .i64 ((i : Int) - j)) ∧ ∃ q, w' = w.drewN q := by
  have c1 : w.cell? ⟨nb NB i, 0, none⟩ = some (.int .i64 i) := by have := (hN i hi).cell 0; simpa using this
  have c2 : w.cell? ⟨nb NB j, 0, none⟩ = some (.int .i64 j) := by have := (hN j hj).cell 0; simpa using this
  have hw : wrap64 ((i : Int) - j) = (i : Int) - j := by unfold wrap64; omega
  have HW := Lib.hid hw
  clear hw hN
  go_enter Tryz.func85, Tryz.ntmps85
  go_wp2_with fail
  go_quiet (fail)
  go_wp2_with fail
  go_ret
  exact ⟨ret_int (by first | exact HW.out | rfl), nq, rfl⟩

theorem turns_sort {α : Type} [Inhabited α] (enc : α → Value) (w : World) (blk off n : Nat) (d : Array α) (os : Array Obj) : Turns (fun k => k = blk) w (sortWorld enc w blk off n d os) := by
  have e : (sortWorld enc w blk off n d os).heap = (w.heap.modify blk (onCells (putCells enc off d))) ++ os := rfl
  refine ⟨rfl, rfl, rfl, by rw [e, Array.size_append, Array.size_modify]; omega, fun k hk hn => ?_⟩
  rw [e, Array.getElem?_append_left (by rw [Array.size_modify]; exact hk), Array.getElem?_modify, if_neg (fun e => hn e.symm)]

/-- The order of places in the graph. -/
def cfI {g : List Bl} (x y : { i : Nat // i < g.length }) : Int := (x.1 : Int) - y.1

theorem lt_cfI {g : List Bl} (x y : { i : Nat // i < g.length }) : ltOf cfI x y = decide (x.1 < y.1) := by
  unfold ltOf cfI
  apply decide_eq_decide.2
  omega

theorem swoI {g : List Bl} : SWO (ltOf (cfI (g := g))) where
  irrefl x := by rw [lt_cfI]; simp
  trans x y z h1 h2 := by rw [lt_cfI] at *; simp at *; omega
  ntrans x y z h1 h2 := by rw [lt_cfI] at *; simp at *; omega

/-- Sorted ascending, and the same ones: the same list. -/
theorem sorted_same {l₁ l₂ : List Nat} (h1 : l₁.Pairwise (· < ·)) (h2 : l₂.Pairwise (· ≤ ·)) (h : l₁.Perm l₂) : l₁ = l₂ :=
  List.Perm.eq_of_pairwise (le := (· ≤ ·)) (fun _ _ _ _ h h' => Nat.le_antisymm h h') (h1.imp Nat.le_of_lt) h2 h

theorem srt_perm {g : List Bl} {L : List Nat} (hL : ∀ x ∈ L, x < g.length) (hn : L.Nodup) : (srt g L g.length).Perm L := by
  have h1 : (srt g L g.length).Nodup := List.Pairwise.filter _ List.nodup_range
  refine (List.perm_ext_iff_of_nodup h1 hn).2 fun x => ?_
  unfold srt
  rw [List.mem_filter, List.mem_range]
  constructor
  · intro h; simpa using h.2
  · intro h; exact ⟨hL x h, by simpa using h⟩
theorem srt_up (g : List Bl) (L : List Nat) (k : Nat) : (srt g L k).Pairwise (· < ·) := List.Pairwise.filter _ List.pairwise_lt_range
theorem reachS_perm {g : List Bl} (hv : validB g = true) : (reachS g).Perm (reach g) := srt_perm (fun _ h => reach_lt hv h) (reach_nodup g)

theorem reachS_up (g : List Bl) : (reachS g).Pairwise (· < ·) := List.Pairwise.filter _ List.pairwise_lt_range

theorem node_oneCell (NB : Nat) (g : List Bl) : OneCell (fun x : { i : Nat // i < g.length } => nptr NB x.1) := fun _ => rfl

/-- slices.SortFunc at the nodes that can be come to. -/
theorem sortNodes_any (NB B off cap : Nat) (g : List Bl) (L : List Nat) (O : Nat → Prop) (w : World) (hv : validB g = true) (hL : ∀ x ∈ L, x < g.length) (hnd : L.Nodup) (hN : NodesIn w NB g) (hB : ∀ i, i < g.length → nb NB i ≠ B)
    (hQ : Que w 73 1 O (.slice (some ⟨B, off, none⟩) L.length cap) L.length (L.map (nptr NB))) :
    Calls Tryz.prog 100 #[.slice (some ⟨B, off, none⟩) L.length cap, .func (.func 85) #[] #[]] w fun e w' =>
      e = .returned (.tuple #[]) ∧ Turns (fun k => k = B) w w' ∧ ∀ k (h : k < (srt g L g.length).length), w'.cell? ⟨B, off + k, none⟩ = some (nptr NB (srt g L g.length)[k]) := by
  have hpos := (valid_iff.1 hv).1
  have h26 := (valid_iff.1 hv).2.1
  letI : Inhabited { i : Nat // i < g.length } := ⟨⟨0, hpos⟩⟩
  obtain ⟨B', off', cap', cs, hval, hn, hb, hs, ho, hx, hc⟩ := hQ
  simp only [Value.slice.injEq, Option.some.injEq, Addr.mk.injEq, and_true, true_and] at hval
  obtain ⟨⟨rfl, rfl⟩, rfl⟩ := hval
  obtain ⟨d, hd⟩ : ∃ d : Array { i : Nat // i < g.length }, d.toList.map (·.1) = L :=
    ⟨(L.attach.map fun x => ⟨x.1, hL _ x.2⟩).toArray, by simp⟩
  have hds : d.size = L.length := by rw [← hd]; simp
  have hget : ∀ (a : Array { i : Nat // i < g.length }) (j : Nat) (h : j < a.size), a[j]! = a[j] := fun a j h => getElem!_pos a j h
  have hH : Holds (fun x : { i : Nat // i < g.length } => nptr NB x.1) w B off d := by
    intro j hj
    refine ⟨?_, by simp [World.frozen?, hb]⟩
    rw [cell_of_row w B (off + j) cs _ (0, 0) hb, hc j (by rw [List.length_map, ← hds]; exact hj), ← hd, hget d j hj]
    simp [hj]
  have hcon := Any.slices_SortFunc Tryz.sortNodes (fun x : { i : Nat // i < g.length } => nptr NB x.1) (node_oneCell NB g) cfI swoI 85 #[] B off cap d w (enters_of Tryz.func85 (by kernel_rfl) rfl)
    (fun m os dk _ x y => (cmp_any NB g x.1 y.1 x.2 y.2 _ (fun i hi => ((turns_sort _ w B off m dk os).block _ (hN i hi).lt (hB i hi)).trans (hN i hi)) h26).mono fun e w' ⟨he, q, hq⟩ => ⟨he, q, #[], by rw [hq, grow_empty]⟩)
    hH (Array.getElem?_eq_some_iff.1 hb).1 (by have := nodup_lt_len _ _ hnd hL; omega)
  rw [hds] at hcon
  refine hcon.mono ?_
  rintro e w' ⟨he, d', n, os, hp, hso, rfl⟩
  have hds' : d'.size = d.size := hp.1
  refine ⟨he, turns_sort _ w B off n d' os, fun k hk => ?_⟩
  have hperm : (d'.toList.map (·.1)).Perm L := by
    have h1 := hp.2.2
    have e1 : (d'.extract 0 L.length).toList = d'.toList := by rw [← hds, ← hds', Array.extract_size]
    have e2 : (d.extract 0 L.length).toList = d.toList := by rw [← hds, Array.extract_size]
    rw [e1, e2] at h1
    rw [← hd]; exact h1.map _
  have hup : (d'.toList.map (·.1)).Pairwise (· ≤ ·) := by
    rw [List.pairwise_map, List.pairwise_iff_getElem]
    intro i j hi hj hij
    have hi' : i < d'.size := by simpa using hi
    have hj' : j < d'.size := by simpa using hj
    have := hso i j (Nat.zero_le _) hij (by rw [← hds, ← hds']; exact hj')
    rw [lt_cfI, hget d' j hj', hget d' i hi'] at this
    simp at this
    simpa using this
  have hsame := sorted_same (srt_up g L _) hup ((srt_perm hL hnd).trans hperm.symm)
  have hk' : k < d'.size := by rw [hsame] at hk; simpa using hk
  have hh := (holds_sortWorld _ w B off n d d' os (Array.getElem?_eq_some_iff.1 hb).1 hH hds') k hk'
  rw [hh.1, hget d' k hk']
  congr 2
  have : (srt g L g.length)[k] = (d'.toList.map (·.1))[k]'(by simpa using hk') := by congr 1
  rw [this]; simp


/-! ### slices.Collect, slices.SortedFunc -/

attribute [local go_sem] Oper.semAt_some

/-- An iterator over nodes that yields just these, in this order. -/
abbrev Yields (gf : FuncId) (lb : Array Value) (NB : Nat) (R : Nat → Prop) (L : List Nat) (w : World) : Prop :=
  SeqOwn Fence.wide 3 Tryz.prog gf lb (fun x : Nat => #[nptr NB x]) R (fun _ => True) (fun pre x => pre ++ [x] <+: L) (fun xs => xs = L) (fun pre => pre <+: L) w

set_option maxRecDepth 100000 in
set_option maxHeartbeats 2000000 in
theorem appendSeq_any (NB : Nat) (gf : FuncId) (lb : Array Value) (R : Nat → Prop) (L : List Nat) (g : List Bl) (w : World) (hent : ∀ args w, (callFunc gf args).run Tryz.prog w = .ok (.enter gf args) w) (hseq : Yields gf lb NB R L w) (hRl : ∀ k, R k → k < w.heap.size)
    (hN : NodesIn w NB g) (h0 : 0 < L.length) (h26 : L.length ≤ 26) :
    Calls Tryz.prog 110 #[.slice none 0 0, .func (.func gf) #[] lb] w fun e w' =>
      ∃ B off cap, w.heap.size ≤ B ∧ e = .returned (.slice (some ⟨B, off, none⟩) L.length cap) ∧ Que w' 73 1 (fun k => w.heap.size ≤ k) (.slice (some ⟨B, off, none⟩) L.length cap) L.length (L.map (nptr NB)) ∧ NodesIn w' NB g ∧ Below w.heap.size w w' := by
  obtain ⟨i0, hi0, hz0, hz1, hz2⟩ := info_parts info_ptr
  have HSEQ := Lib.hid hseq
  have HN := Lib.hid hN
  have HNL := Lib.hid (fun i hi => (hN i hi).lt)
  have HRL := Lib.hid hRl
  clear hseq hN hRl
  refine (callsIn_wide (n := 4)).1 ?_
  refine callsIn_of_wp_marks Tryz.func110 rfl trivial ?_ rfl
  simp only [Tryz.ntmps110, List.size_toArray, List.length_cons, List.length_nil, Nat.reduceAdd, Nat.reduceSub, Array.replicate_succ, Array.replicate_zero, List.push_toArray, List.append_toArray, List.nil_append, List.cons_append]
  refine wpIn_mono (Q := calm _) ?_ calm_le
  gi_wp2_with fail
  obtain ⟨w3, hw3⟩ : ∃ w3, w3 = w.alloc (.cells #[.slice none 0 0] 54) := ⟨_, rfl⟩
  rw [← hw3]
  have hs3 : w3.heap.size = w.heap.size + 1 := by rw [hw3]; simp
  have k1 : Boxed w3 w.heap.size 54 (.slice none 0 0) := by rw [hw3]; exact Boxed.new w _ _
  have hb3 : Below w.heap.size w w3 := by rw [hw3]; exact (Below.refl _ w).alloc (Nat.le_refl _) _
  have HN3 := Lib.hid (HN.out.below hb3)
  have HB3 := Lib.hid hb3
  clear hw3
  refine wpIn_rangeFunc_mine rfl (by decide) (gf := gf) (lb := lb) rfl trivial hent HSEQ.out hb3 (fun _ => rfl) (fun k hk => by have := HRL.out k hk; omega)
    (fun O pre W => ∃ v, Boxed W w.heap.size 54 v ∧ Row W 73 1 (fun k => w3.heap.size ≤ k ∧ ¬ O k) v pre.length (pre.map (nptr NB)) ∧ NodesIn W NB g ∧ Below w.heap.size w W)
    (fun _ _ _ => False)
    ?hI (fun _ _ _ _ _ h _ => h) (fun _ _ _ _ => trivial) ?h0
    (fun x => { tmps := #[.slice none 0 0, .func (.func gf) #[] lb, .pointer (some ⟨w.heap.size, 0, none⟩), undef, .slice none 0 0, nptr NB x, .func (.func gf) #[] lb, nptr NB x, undef, undef, undef, undef, undef], defers := [] }) ?assign ?body ?done ?stop
  case hI =>
    rintro O pre X Y hle hO ⟨v, h1, h2, h3, h4⟩ hT
    refine ⟨v, (hT.block _ h1.lt fun h => by have := hO _ h; omega).trans h1, h2.kept (hT.keeps fun k h => h.2) fun k hk h => ⟨h.1, fun h' => ?_⟩,
      fun i hi => (hT.block _ (h3 i hi).lt fun h => by have := hO _ h; have := HNL.out i hi; omega).trans (h3 i hi), h4.trans (hT.below h4.size fun k h => by have := hO k h; have := HB3.out.size; omega)⟩
    rcases h' with h' | h'
    · exact h.2 h'
    · omega
  case h0 => exact ⟨_, k1, Row.nil _ _ _ _, HN3.out, HB3.out⟩
  case assign =>
    intro l x W K hK
    gi_wp2
    exact hK
  case body =>
    rintro l O pre x W hle2 hO ⟨v, h1, h2, h3, h4⟩ hx
    have hpl : pre.length + 1 ≤ 26 := by have := hx.length_le; simp at this; omega
    have c1 := h1.cell
    have f1 := h1.frozen
    have hbl := h1.lt
    have K1 := Lib.hid h1
    have K3 := Lib.hid h3
    have K4 := Lib.hid h4
    have HRW := Lib.hid (h2.kept (O' := fun k => w3.heap.size ≤ k ∧ ¬ O k) (Turns.keeps (O := fun _ => False) (Turns.alloc _ W (.cells #[nptr NB x] 73)) fun _ _ h => h) fun _ _ h => h)
    have HNEW := Lib.hid (cell_one_new W (nptr NB x) 73)
    clear h1 h2 h3 h4 hx
    gi_wp2_with (gi_at_builtin; refine wpListIn_append_row _ rfl _ _ 54 rfl 73 i0 (.pointer none) 1 Tryz.underlying54 hi0 hz0 hz1 (by rw [hz2]; decide) rfl (fun k => w3.heap.size ≤ k ∧ ¬ O k) v pre.length (pre.map (nptr NB)) rfl HRW.out ⟨W.heap.size, 0, none⟩ 1 1 [nptr NB x] rfl rfl HNEW.out (by simp [Value.oneCell']) (by omega) (by decide) ?_; intro v' w2 hq' hT'; obtain ⟨B', off', cap', rfl, _⟩ := hq'.cells; have k2 : Boxed w2 w.heap.size 54 v := (hT'.block _ (by simp; omega) fun h => by have := h.1; omega).trans (K1.out.alloc _); have c2 := k2.cell; have f2 := k2.frozen; have KB := Lib.hid k2; have HQQ := Lib.hid hq'; have HTT := Lib.hid hT'; clear k2 hq' hT')
    have hsA : (W.alloc (.cells #[nptr NB x] 73)).heap.size = W.heap.size + 1 := by simp
    have T0 := Turns.alloc (fun k => w3.heap.size ≤ k ∧ ¬ O k) W (.cells #[nptr NB x] 73)
    have T1 : Turns (fun k => w3.heap.size ≤ k ∧ ¬ O k) W w2 := T0.trans (HTT.out.wider fun k h => .inl h)
    have T2 : Turns (fun k => k = w.heap.size) w2 (w2.setCell ⟨w.heap.size, 0, none⟩ (.slice (some ⟨B', off', none⟩) (pre.length + 1) cap')) := Turns.setCell (O := fun k => k = w.heap.size) (p := ⟨w.heap.size, 0, none⟩) rfl _
    have hk : Keeps (fun k => R k ∨ O k) W (w2.setCell ⟨w.heap.size, 0, none⟩ (.slice (some ⟨B', off', none⟩) (pre.length + 1) cap')) :=
      (T1.keeps fun k h h' => h.elim (fun h => by have := h'.1; have := HRL.out k h; omega) h'.2).trans (T2.keeps fun k h h' => h.elim (fun h => by have := HRL.out k h; omega) fun h => by have := hO k h; omega)
    refine ⟨hk, _, KB.out.set _, .inr ?_, fun i hi => ?_, ?_⟩
    · have hq := HQQ.out
      have e1 : (pre ++ [x]).length = pre.length + 1 := by simp
      have e2 : (pre ++ [x]).map (nptr NB) = pre.map (nptr NB) ++ [nptr NB x] := by simp
      rw [e1, e2]
      refine hq.kept (T2.keeps fun k h h' => ?_) fun k hk h => ?_
      · rcases h with h | h
        · have := h.1; omega
        · rw [hsA] at h; omega
      · rcases h with h | h
        · exact h
        · rw [hsA] at h
          exact ⟨by omega, fun h' => by have := hO k h'; omega⟩
    · have hil := HNL.out i hi
      exact (T2.block _ (by have := T1.size; have := (K3.out i hi).lt; omega) fun h => by omega).trans ((T1.block _ (K3.out i hi).lt fun h => by have := h.1; omega).trans (K3.out i hi))
    · have h5 := K4.out.trans (T1.below K4.out.size fun k h => by have := HB3.out.size; omega)
      exact h5.trans (T2.below h5.size fun k h => by omega)
  case done =>
    rintro D O xs W rfl hO rfl ⟨v, h1, h2, h3, h4⟩ hOD hK
    have hq : Que W 73 1 (fun k => w3.heap.size ≤ k ∧ ¬ O k) v xs.length (xs.map (nptr NB)) := by
      rcases h2 with ⟨_, h, _⟩ | h
      · omega
      · exact h
    obtain ⟨B', off', cap', rfl, _, hMB, hBl, _⟩ := hq.cells
    have c1 := h1.cell
    have K3 := Lib.hid h3
    have K4 := Lib.hid h4
    have HK := Lib.hid hK
    have HMB := Lib.hid hMB
    have HQ := Lib.hid hq
    clear h1 h2 h3 h4 hK hq hMB
    gi_wp2_with fail
    refine ⟨by simp, .inl ⟨_, _, rfl, run_takeDeferred HK.out, ?_⟩⟩
    refine ⟨_, results_tmp rfl _ _ _, B', off', cap', by have := HMB.out.1; omega, rfl, ?_, fun i hi => ?_, ?_⟩
    · exact HQ.out.kept (Turns.keeps (Turns.putObj (O := fun k => k = w3.heap.size) (l := w3.heap.size) rfl (.deferred none)) fun k h e => h.2 (e ▸ hOD)) fun k _ h => by have := h.1; omega
    · exact (World.putObj_heap_other (by have := HNL.out i hi; omega)).trans (K3.out i hi)
    · exact below_put K4.out (l := w3.heap.size) (by omega) (.deferred none)
  case stop =>
    rintro D c pre W _ _ h _
    exact h.elim

theorem collect_any (NB : Nat) (gf : FuncId) (lb : Array Value) (R : Nat → Prop) (L : List Nat) (g : List Bl) (w : World) (hent : ∀ args w, (callFunc gf args).run Tryz.prog w = .ok (.enter gf args) w) (hseq : Yields gf lb NB R L w) (hRl : ∀ k, R k → k < w.heap.size)
    (hN : NodesIn w NB g) (h0 : 0 < L.length) (h26 : L.length ≤ 26) :
    Calls Tryz.prog 99 #[.func (.func gf) #[] lb] w fun e w' =>
      ∃ B off cap, w.heap.size ≤ B ∧ e = .returned (.slice (some ⟨B, off, none⟩) L.length cap) ∧ Que w' 73 1 (fun k => w.heap.size ≤ k) (.slice (some ⟨B, off, none⟩) L.length cap) L.length (L.map (nptr NB)) ∧ NodesIn w' NB g ∧ Below w.heap.size w w' := by
  have HC := Lib.hid (appendSeq_any NB gf lb R L g w hent hseq hRl hN h0 h26)
  clear hent hseq hRl hN h0 h26
  go_enter Tryz.func99, Tryz.ntmps99
  go_wp2_with fail
  refine HC.out.mono ?_
  rintro e w1 ⟨B, off, cap, hB, rfl, h⟩
  have H := Lib.hid h
  clear h
  go_wp2_with fail
  go_ret
  exact ⟨B, off, cap, hB, rfl, H.out⟩

/-- The nodes of an iterator, in the order of the graph. -/
def SortedPost (w : World) (NB : Nat) (g : List Bl) (L : List Nat) (e : Ending) (w' : World) : Prop :=
  ∃ B off cap, w.heap.size ≤ B ∧ e = .returned (.slice (some ⟨B, off, none⟩) L.length cap) ∧ B < w'.heap.size ∧ (∀ k (h : k < (srt g L g.length).length), w'.cell? ⟨B, off + k, none⟩ = some (nptr NB (srt g L g.length)[k])) ∧ NodesIn w' NB g ∧ Below w.heap.size w w'

theorem sortedFunc_any (NB : Nat) (gf : FuncId) (lb : Array Value) (R : Nat → Prop) (L : List Nat) (g : List Bl) (w : World) (hv : validB g = true) (hent : ∀ args w, (callFunc gf args).run Tryz.prog w = .ok (.enter gf args) w) (hseq : Yields gf lb NB R L w) (hRl : ∀ k, R k → k < w.heap.size)
    (hN : NodesIn w NB g) (h0 : 0 < L.length) (hL : ∀ x ∈ L, x < g.length) (hnd : L.Nodup) :
    Calls Tryz.prog 84 #[.func (.func gf) #[] lb, .func (.func 85) #[] #[]] w (SortedPost w NB g L) := by
  have h26 := (valid_iff.1 hv).2.1
  have HNL := Lib.hid (fun i hi => (hN i hi).lt)
  have HC := Lib.hid (collect_any NB gf lb R L g w hent hseq hRl hN h0 (by have := nodup_lt_len _ _ hnd hL; omega))
  have HV := Lib.hid hv
  have HL := Lib.hid hL
  have HND := Lib.hid hnd
  clear hv hent hseq hRl hN h0 hL hnd
  go_enter Tryz.func84, Tryz.ntmps84
  go_wp2_with fail
  refine HC.out.mono ?_
  rintro e w1 ⟨B, off, cap, hB, rfl, hq, hN1, b1⟩
  have HS := Lib.hid (sortNodes_any NB B off cap g L _ w1 HV.out HL.out HND.out hN1 (fun i hi e => by have := HNL.out i hi; omega) hq)
  have hBl : B < w1.heap.size := by obtain ⟨B', off', cap', e, _, _, h, _⟩ := hq.cells; simp only [Value.slice.injEq, Option.some.injEq, Addr.mk.injEq] at e; omega
  have HN1 := Lib.hid hN1
  have HB1 := Lib.hid b1
  clear hq hN1 b1
  go_wp2_with fail
  refine HS.out.mono ?_
  rintro e w2 ⟨rfl, hT, hc⟩
  have HT := Lib.hid hT
  have HCC := Lib.hid hc
  clear hT hc
  go_wp2_with fail
  go_ret
  exact ⟨B, off, cap, hB, rfl, by have := HT.out.size; omega, HCC.out, fun i hi => (HT.out.block _ (HN1.out i hi).lt (by have := HNL.out i hi; omega)).trans (HN1.out i hi), HB1.out.trans (HT.out.below HB1.out.size fun k h => by omega)⟩

theorem inOrder_any (NB : Nat) (gf : FuncId) (lb : Array Value) (R : Nat → Prop) (L : List Nat) (g : List Bl) (w : World) (hv : validB g = true) (hent : ∀ args w, (callFunc gf args).run Tryz.prog w = .ok (.enter gf args) w) (hseq : Yields gf lb NB R L w) (hRl : ∀ k, R k → k < w.heap.size)
    (hN : NodesIn w NB g) (h0 : 0 < L.length) (hL : ∀ x ∈ L, x < g.length) (hnd : L.Nodup) :
    Calls Tryz.prog 74 #[.func (.func gf) #[] lb] w (SortedPost w NB g L) := by
  have HC := Lib.hid (sortedFunc_any NB gf lb R L g w hv hent hseq hRl hN h0 hL hnd)
  clear hv hent hseq hRl hN h0 hL hnd
  go_enter Tryz.func74, Tryz.ntmps74
  go_wp2_with fail
  refine HC.out.mono ?_
  rintro e w1 ⟨B, off, cap, hB, rfl, h⟩
  have H := Lib.hid h
  clear h
  go_wp2_with fail
  go_ret
  exact ⟨B, off, cap, hB, rfl, H.out⟩

end Go.Proofs.YtdpjdhllaokbfaaGreat

/-
  Contract: the nodes that can be come to, in the order of the graph.
-/
namespace Go.Proofs.YtdpjdhllaokbfaaGreat
open Go.RowKit Go.Sort Go.Shelf
attribute [local go_sem] Oper.semAt_some

/-- Nodes by their numbers. -/
def nodesAt (NB : Nat) (g : List Bl) (l : List Nat) : List (Nat × ByteArray) := l.map fun i => (nb NB i, nthName g i)

theorem nodesAt_length (NB : Nat) (g : List Bl) (l : List Nat) : (nodesAt NB g l).length = l.length := by simp [nodesAt]

theorem joined_nodesAt (NB : Nat) (g : List Bl) : ∀ l, joined (nodesAt NB g l) = namesAt g l
  | [] => rfl
  | i :: l => by
    have ih := joined_nodesAt NB g l
    unfold nodesAt at ih ⊢
    simp only [List.map_cons, joined, namesAt, ih]

theorem ret_slb {A : Option Addr} {n n' c : Nat} {b : Bool} (h : n = n') : Ending.returned (.tuple #[.slice A n c, .bool b]) = .returned (.tuple #[.slice A n' c, .bool b]) := by rw [h]

def ReachedPost (w : World) (g : List Bl) (e : Ending) (w' : World) : Prop :=
  ∃ NB A cap, w.heap.size ≤ NB ∧ e = .returned (.tuple #[.slice A (reachS g).length cap, .bool true]) ∧ Pts w' A (nodesAt NB g (reachS g)) ∧ NodesIn w' NB g ∧ Below w.heap.size w w'

theorem reachedNodes_no (A : Option Addr) (cap : Nat) (g : List Bl) (w : World) (hg : Gr w A g) (hn : g.length + tot g ≤ 1048576) (hv : validB g = false) :
    Calls Tryz.prog 64 #[.slice A g.length cap] w fun e w' => e = .returned (.tuple #[.slice none 0 0, .bool false]) ∧ Below w.heap.size w w' := by
  have HC := Lib.hid (nodesOf_no A cap g w hg hn hv)
  clear hv
  go_enter Tryz.func64, Tryz.ntmps64
  go_wp2_with fail
  refine HC.out.mono ?_
  rintro e w1 ⟨rfl, b1⟩
  go_wp2_with fail
  go_ret2
  exact ⟨rfl, b1⟩

/-- What follows from a block in the graph. -/
theorem follows_nxt (NB : Nat) (g : List Bl) (hv : validB g = true) (R : Nat → Prop) (w : World) : Follows (nxt g) NB g R 87 #[] w where
  enter := enters_of Tryz.func87 (by kernel_rfl) rfl
  goes := by
    intro W i hi _ hN
    obtain ⟨T, tv, F2, hd⟩ := disp2 (NB := NB) hv hi
    have x2 : W.cell? ⟨nb NB i, 2, none⟩ = some (.iface T tv) := by have := (hN i hi).cell 2; rw [hd.val] at this; simpa using this
    have hlook := hd.look
    have hent := hd.enter
    have HD := Lib.hid hd.goes
    show Calls Tryz.prog 87 #[nptr NB i] W _
    clear hd hN
    go_enter Tryz.func87, Tryz.ntmps87
    go_wp2_with fail
    refine (HD.out W).mono ?_
    rintro e W2 ⟨A, rfl, hB, hrow⟩
    have HR := Lib.hid hrow
    have HB := Lib.hid hB
    clear hrow hB
    go_wp2_with fail
    go_ret
    refine ⟨A, _, rfl, fun h => ?_, fun b off h e => ?_, HB.out⟩
    · obtain ⟨b, rfl, hb, hk⟩ := HR.out h
      refine ⟨b, 0, rfl, hk.lt, fun k hk2 => ?_⟩
      rw [Nat.zero_add, hk.cell, List.getElem?_toArray, List.getElem?_map, List.getElem?_eq_getElem hk2]; rfl
    · obtain ⟨b', rfl, hb, _⟩ := HR.out h
      simp only [Option.some.injEq, Addr.mk.injEq] at e
      omega

theorem reachedFrom_any (u : Option Addr) (w : World) :
    Calls Tryz.prog 75 #[.pointer u] w fun e w' =>
      e = .returned (.func (.func 101) #[] #[.pointer (some ⟨w.heap.size + 1, 0, none⟩), .pointer (some ⟨w.heap.size + 2, 0, none⟩)]) ∧
      w' = ((w.alloc (.cells #[.pointer u] 73)).alloc (.cells #[.slice (some ⟨w.heap.size, 0, none⟩) 1 1] 54)).alloc (.cells #[.func (.func 87) #[] #[]] 117) := by
  have HS := Lib.hid (spreadFrom_any (.slice (some ⟨w.heap.size, 0, none⟩) 1 1) (.func (.func 87) #[] #[]) (w.alloc (.cells #[.pointer u] 73)) rfl rfl)
  go_enter Tryz.func75, Tryz.ntmps75
  go_wp2_with fail
  refine HS.out.mono ?_
  rintro e w1 ⟨rfl, rfl⟩
  go_wp2_with fail
  go_ret
  exact ⟨by simp, rfl⟩

/-- The iterator over what can be come to. -/
theorem reach_yields (NB : Nat) (g : List Bl) (hv : validB g = true) (w w3 : World) (hN : NodesIn w NB g) (hw3 : w3 = ((w.alloc (.cells #[nptr NB 0] 73)).alloc (.cells #[.slice (some ⟨w.heap.size, 0, none⟩) 1 1] 54)).alloc (.cells #[.func (.func 87) #[] #[]] 117)) :
    Yields 101 #[.pointer (some ⟨w.heap.size + 1, 0, none⟩), .pointer (some ⟨w.heap.size + 2, 0, none⟩)] NB (fun k => k < w3.heap.size) (reach g) w3 ∧ NodesIn w3 NB g ∧ Below w.heap.size w w3 ∧ w3.heap.size = w.heap.size + 3 := by
  have hpos := (valid_iff.1 hv).1
  have hs3 : w3.heap.size = w.heap.size + 3 := by rw [hw3]; simp
  have hb : Below w.heap.size w w3 := by rw [hw3]; exact (((Below.refl _ w).alloc (Nat.le_refl _) _).alloc (by simp) _).alloc (by simp; omega) _
  have hN3 := hN.below hb
  have k0 : Boxed w3 w.heap.size 73 (nptr NB 0) := by rw [hw3]; exact ((Boxed.new w _ _).alloc _).alloc _
  have k1 : Boxed w3 (w.heap.size + 1) 54 (.slice (some ⟨w.heap.size, 0, none⟩) 1 1) := by
    have := (Boxed.new (w.alloc (.cells #[nptr NB 0] 73)) 54 (.slice (some ⟨w.heap.size, 0, none⟩) 1 1)).alloc (.cells #[.func (.func 87) #[] #[]] 117)
    rw [hw3]; simpa using this
  have k2 : Boxed w3 (w.heap.size + 2) 117 (.func (.func 87) #[] #[]) := by
    have := Boxed.new ((w.alloc (.cells #[nptr NB 0] 73)).alloc (.cells #[.slice (some ⟨w.heap.size, 0, none⟩) 1 1] 54)) 117 (.func (.func 87) #[] #[])
    rw [hw3]; simpa using this
  refine ⟨?_, hN3, hb, hs3⟩
  have h := spreadFrom1_own 3 NB (w.heap.size + 2) (w.heap.size + 1) 1 (some ⟨w.heap.size, 0, none⟩) g (nxt g) [0] 87 #[] (fun k => k < w3.heap.size) w3 (by decide) hv (fun t ht => by simp at ht; omega) (by simp) (fun i hi t ht => nxt_lt hv hi ht) (fun i hi => by have := nxt_two hv hi; omega)
    k1.cell (fun _ => ⟨_, _, rfl, by omega, fun k hk => by
      have : k = 0 := by simp at hk; omega
      subst this; exact k0.cell⟩) k2.cell (follows_nxt NB g hv _ w3) hN3 (fun i hi => (hN3 i hi).lt) (by show w.heap.size + 2 < w3.heap.size; omega) (fun k hk => hk) (by omega) (by omega)
  rw [spread_reach] at h
  exact h

set_option maxRecDepth 100000 in
set_option maxHeartbeats 2000000 in
theorem reachedNodes_yes (A : Option Addr) (cap : Nat) (g : List Bl) (w : World) (hg : Gr w A g) (hn : g.length + tot g ≤ 1048576) (hv : validB g = true) :
    Calls Tryz.prog 64 #[.slice A g.length cap] w (ReachedPost w g) := by
  have HC := Lib.hid (nodesOf_yes A cap g w hg hn hv)
  have hpos := (valid_iff.1 hv).1
  have HV := Lib.hid hv
  have h0r : 0 < (reach g).length := by have := (bfs_reach (g := g) (k := 0) (Nat.zero_le _)).length_le; simp [bfs] at this; omega
  clear hv
  go_enter Tryz.func64, Tryz.ntmps64
  go_wp2_with fail
  refine HC.out.mono ?_
  rintro e w1 ⟨NB, hle, rfl, hN, b1⟩
  have HN := Lib.hid hN
  have HB1 := Lib.hid b1
  have x0 := hN.ptr hpos
  have HNI := Lib.hid (NodesIn.of hN)
  clear hN b1
  go_wp2_with fail
  refine (reachedFrom_any _ _).mono ?_
  rintro e w3 ⟨rfl, hw3⟩
  obtain ⟨hy, hN3, hb3, hs3⟩ := reach_yields NB g HV.out w1 w3 HNI.out hw3
  have HIO := Lib.hid (inOrder_any NB 101 #[.pointer (some ⟨w1.heap.size + 1, 0, none⟩), .pointer (some ⟨w1.heap.size + 2, 0, none⟩)] (fun k => k < w3.heap.size) (reach g) g w3 HV.out (enters_of Tryz.func101 (by kernel_rfl) rfl) hy (fun k hk => hk) hN3 h0r (fun x hx => reach_lt HV.out hx) (reach_nodup g))
  have HB3 := Lib.hid (below_trans_self HB1.out hb3)
  clear hw3 hy hN3 hb3
  go_wp2_with fail
  refine HIO.out.mono ?_
  rintro e w4 ⟨B, off, cap4, hB, rfl, hBl, hc, hN4, b4⟩
  have HCC := Lib.hid hc
  have HN4 := Lib.hid hN4
  have HB4 := Lib.hid (below_trans_self HB3.out b4)
  clear hc hN4 b4
  go_wp2_with fail
  go_ret2
  have hrl : (reachS g).length = (reach g).length := (reachS_perm HV.out).length_eq
  refine ⟨NB, some ⟨B, off, none⟩, cap4, hle, ret_slb hrl.symm, fun _ => ⟨B, off, rfl, hBl, fun k hk => ?_⟩, HN4.out, HB4.out⟩
  rw [nodesAt_length] at hk
  have hi : (reachS g)[k] < g.length := by
    have : (reachS g)[k] ∈ reachS g := List.getElem_mem hk
    exact List.mem_range.1 (List.mem_filter.1 this).1
  have hget : (nodesAt NB g (reachS g))[k]'(by rw [nodesAt_length]; exact hk) = (nb NB (reachS g)[k], nthName g (reachS g)[k]) := by simp [nodesAt]
  rw [hget]
  have hn1 := HN4.out _ hi
  exact ⟨HCC.out k hk, hn1.lt, by rw [hn1.cell 1, nthName_at hi]; rfl⟩

theorem pts_idx {w : World} {A : Option Addr} {NB : Nat} {g : List Bl} {l : List Nat} (h : Pts w A (nodesAt NB g l)) : PtsI w A NB l := by
  intro hl
  obtain ⟨b, off, rfl, hb, hc⟩ := h (by rw [nodesAt_length]; exact hl)
  refine ⟨b, off, rfl, hb, fun k hk => ?_⟩
  obtain ⟨h1, _, _⟩ := hc k (by rw [nodesAt_length]; exact hk)
  rw [h1]; simp [nodesAt]
end Go.Proofs.YtdpjdhllaokbfaaGreat
