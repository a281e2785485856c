/-
  Contracts: nodes sorted by their places in the graph.
-/
import Derived.Test.YtimgkjlhahapnabReachFrom
import Derived.Test.YtimgkjlhahapnabSort
namespace Go.Proofs.Ytimgkjlhahapnab
open Go.RowKit Go.Sort Go.Shelf

theorem cmp_any (NB : Nat) (g : List Bl) (i j : Nat) (hi : i < g.length) (hj : j < g.length) (w : World) (hN : NodesIn w NB g) (h26 : g.length ≤ 26) :
    Calls Try.prog 75 #[nptr NB i, nptr NB j] w fun e w' => e = .returned (.int .i64 ((i : Int) - j)) ∧ ∃ q, w' = w.drewN q := by
  have c1 : w.cell? ⟨nb NB i, 0, none⟩ = some (.int .i64 i) := by have := (hN i hi).cell 0; simpa using this
  have c2 : w.cell? ⟨nb NB j, 0, none⟩ = some (.int .i64 j) := by have := (hN j hj).cell 0; simpa using this
  have hw : wrap64 ((i : Int) - j) = (i : Int) - j := by unfold wrap64; omega
  have HW := Lib.hid hw
  clear hw hN
  go_enter Try.func75, Try.ntmps75
  go_wp2_with fail
  go_quiet (fail)
  go_wp2_with fail
  go_ret
  exact ⟨ret_int (by first | exact HW.out | rfl), nq, rfl⟩

theorem turns_sort {α : Type} [Inhabited α] (enc : α → Value) (w : World) (blk off n : Nat) (d : Array α) (os : Array Obj) : Turns (fun k => k = blk) w (sortWorld enc w blk off n d os) := by
  have e : (sortWorld enc w blk off n d os).heap = (w.heap.modify blk (onCells (putCells enc off d))) ++ os := rfl
  refine ⟨rfl, rfl, rfl, by rw [e, Array.size_append, Array.size_modify]; omega, fun k hk hn => ?_⟩
  rw [e, Array.getElem?_append_left (by rw [Array.size_modify]; exact hk), Array.getElem?_modify, if_neg (fun e => hn e.symm)]

/-- The order of places in the graph. -/
def cfI {g : List Bl} (x y : { i : Nat // i < g.length }) : Int := (x.1 : Int) - y.1

theorem lt_cfI {g : List Bl} (x y : { i : Nat // i < g.length }) : ltOf cfI x y = decide (x.1 < y.1) := by
  unfold ltOf cfI
  apply decide_eq_decide.2
  omega

theorem swoI {g : List Bl} : SWO (ltOf (cfI (g := g))) where
  irrefl x := by rw [lt_cfI]; simp
  trans x y z h1 h2 := by rw [lt_cfI] at *; simp at *; omega
  ntrans x y z h1 h2 := by rw [lt_cfI] at *; simp at *; omega

/-- Sorted ascending, and the same ones: the same list. -/
theorem sorted_same {l₁ l₂ : List Nat} (h1 : l₁.Pairwise (· < ·)) (h2 : l₂.Pairwise (· ≤ ·)) (h : l₁.Perm l₂) : l₁ = l₂ :=
  List.Perm.eq_of_pairwise (le := (· ≤ ·)) (fun _ _ _ _ h h' => Nat.le_antisymm h h') (h1.imp Nat.le_of_lt) h2 h

theorem reachS_perm {g : List Bl} (hv : validB g = true) : (reachS g).Perm (reach g) := by
  have h1 : (reachS g).Nodup := List.Pairwise.filter _ List.nodup_range
  refine (List.perm_ext_iff_of_nodup h1 (reach_nodup g)).2 fun x => ?_
  unfold reachS
  rw [List.mem_filter, List.mem_range]
  constructor
  · intro h; simpa using h.2
  · intro h; exact ⟨reach_lt hv h, by simpa using h⟩

theorem reachS_up (g : List Bl) : (reachS g).Pairwise (· < ·) := List.Pairwise.filter _ List.pairwise_lt_range

theorem node_oneCell (NB : Nat) (g : List Bl) : OneCell (fun x : { i : Nat // i < g.length } => nptr NB x.1) := fun _ => rfl

/-- slices.SortFunc at the nodes that can be come to. -/
theorem sortNodes_any (NB B off cap : Nat) (g : List Bl) (O : Nat → Prop) (w : World) (hv : validB g = true) (hN : NodesIn w NB g) (hB : ∀ i, i < g.length → nb NB i ≠ B)
    (hQ : Que w 50 1 O (.slice (some ⟨B, off, none⟩) (reach g).length cap) (reach g).length ((reach g).map (nptr NB))) :
    Calls Try.prog 74 #[.slice (some ⟨B, off, none⟩) (reach g).length cap, .func (.func 75) #[] #[]] w fun e w' =>
      e = .returned (.tuple #[]) ∧ Turns (fun k => k = B) w w' ∧ ∀ k (h : k < (reachS g).length), w'.cell? ⟨B, off + k, none⟩ = some (nptr NB (reachS g)[k]) := by
  have hpos := (valid_iff.1 hv).1
  have h26 := (valid_iff.1 hv).2.1
  letI : Inhabited { i : Nat // i < g.length } := ⟨⟨0, hpos⟩⟩
  obtain ⟨B', off', cap', cs, hval, hn, hb, hs, ho, hx, hc⟩ := hQ
  simp only [Value.slice.injEq, Option.some.injEq, Addr.mk.injEq, and_true, true_and] at hval
  obtain ⟨⟨rfl, rfl⟩, rfl⟩ := hval
  obtain ⟨d, hd⟩ : ∃ d : Array { i : Nat // i < g.length }, d.toList.map (·.1) = reach g :=
    ⟨((reach g).attach.map fun x => ⟨x.1, reach_lt hv x.2⟩).toArray, by simp⟩
  have hds : d.size = (reach g).length := by rw [← hd]; simp
  have hget : ∀ (a : Array { i : Nat // i < g.length }) (j : Nat) (h : j < a.size), a[j]! = a[j] := fun a j h => getElem!_pos a j h
  have hH : Holds (fun x : { i : Nat // i < g.length } => nptr NB x.1) w B off d := by
    intro j hj
    refine ⟨?_, by simp [World.frozen?, hb]⟩
    rw [cell_of_row w B (off + j) cs _ (0, 0) hb, hc j (by rw [List.length_map, ← hds]; exact hj), ← hd, hget d j hj]
    simp [hj]
  have hcon := Any.slices_SortFunc Try.sortNodes (fun x : { i : Nat // i < g.length } => nptr NB x.1) (node_oneCell NB g) cfI swoI 75 #[] B off cap d w (enters_of Try.func75 (by kernel_rfl) rfl)
    (fun m os dk _ x y => (cmp_any NB g x.1 y.1 x.2 y.2 _ (fun i hi => ((turns_sort _ w B off m dk os).block _ (hN i hi).lt (hB i hi)).trans (hN i hi)) h26).mono fun e w' ⟨he, q, hq⟩ => ⟨he, q, #[], by rw [hq, grow_empty]⟩)
    hH (Array.getElem?_eq_some_iff.1 hb).1 (by have := reach_len hv; omega)
  rw [hds] at hcon
  refine hcon.mono ?_
  rintro e w' ⟨he, d', n, os, hp, hso, rfl⟩
  have hds' : d'.size = d.size := hp.1
  refine ⟨he, turns_sort _ w B off n d' os, fun k hk => ?_⟩
  have hperm : (d'.toList.map (·.1)).Perm (reach g) := by
    have h1 := hp.2.2
    have e1 : (d'.extract 0 (reach g).length).toList = d'.toList := by rw [← hds, ← hds', Array.extract_size]
    have e2 : (d.extract 0 (reach g).length).toList = d.toList := by rw [← hds, Array.extract_size]
    rw [e1, e2] at h1
    rw [← hd]; exact h1.map _
  have hup : (d'.toList.map (·.1)).Pairwise (· ≤ ·) := by
    rw [List.pairwise_map, List.pairwise_iff_getElem]
    intro i j hi hj hij
    have hi' : i < d'.size := by simpa using hi
    have hj' : j < d'.size := by simpa using hj
    have := hso i j (Nat.zero_le _) hij (by rw [← hds, ← hds']; exact hj')
    rw [lt_cfI, hget d' j hj', hget d' i hi'] at this
    simp at this
    simpa using this
  have hsame := sorted_same (reachS_up g) hup ((reachS_perm hv).trans hperm.symm)
  have hk' : k < d'.size := by rw [hsame] at hk; simpa using hk
  have hh := (holds_sortWorld _ w B off n d d' os (Array.getElem?_eq_some_iff.1 hb).1 hH hds') k hk'
  rw [hh.1, hget d' k hk']
  congr 2
  have : (reachS g)[k] = (d'.toList.map (·.1))[k]'(by simpa using hk') := by congr 1
  rw [this]; simp

end Go.Proofs.Ytimgkjlhahapnab
