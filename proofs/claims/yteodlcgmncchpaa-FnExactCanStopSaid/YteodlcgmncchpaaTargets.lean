/-
  Contracts of the endings' method targets, and how it is found behind the interface.
-/
import Derived.Test.YteodlcgmncchpaaNodeList
namespace Go.Proofs.Yteodlcgmncchpaa
open Go.RowKit Go.Sort

theorem stop_targets (w : World) : Calls Try.prog 148 #[.agg #[]] w fun e w' => e = .returned (.slice none 0 0) ∧ Below w.heap.size w w' := by
  go_enter Try.func148, Try.ntmps148
  go_wp2
  go_ret
  exact ⟨rfl, (Below.refl _ _).alloc (Nat.le_refl _) _⟩

theorem jump_targets (u : Option Addr) (w : World) : Calls Try.prog 151 #[.agg #[.pointer u]] w fun e w' => e = .returned (.slice (some ⟨w.heap.size + 1, 0, none⟩) 1 1) ∧ Blk w' (w.heap.size + 1) 61 #[.pointer u] ∧ Below w.heap.size w w' := by
  go_enter Try.func151, Try.ntmps151
  go_wp2
  go_ret
  refine ⟨rfl, ?_, ((Below.refl _ _).alloc (Nat.le_refl _) _).alloc (by simp) _⟩
  have := Blk.new (w.alloc (.cells #[.pointer u] 117)) 61 #[.pointer u]
  simpa using this

theorem branch_targets (u v : Option Addr) (w : World) : Calls Try.prog 152 #[.agg #[.pointer u, .pointer v]] w fun e w' => e = .returned (.slice (some ⟨w.heap.size + 1, 0, none⟩) 2 2) ∧ Blk w' (w.heap.size + 1) 61 #[.pointer u, .pointer v] ∧ Below w.heap.size w w' := by
  go_enter Try.func152, Try.ntmps152
  go_wp2
  go_ret
  refine ⟨rfl, ?_, ((Below.refl _ _).alloc (Nat.le_refl _) _).alloc (by simp) _⟩
  have := Blk.new (w.alloc (.cells #[.pointer u, .pointer v] 119)) 61 #[.pointer u, .pointer v]
  simpa using this

/-- Where a block of a graph goes on, as a list of nodes. -/
def goList (NB : Nat) (g : List Bl) (next : ByteArray) : List (Nat × ByteArray) :=
  if next.size = 1 then [(nb NB ((posOf g next).getD 0), next)]
  else if next.size = 2 then [(nb NB ((posOf g (next.extract 0 1)).getD 0), next.extract 0 1), (nb NB ((posOf g (next.extract 1 next.size)).getD 0), next.extract 1 next.size)]
  else []

def GoesPost (NB : Nat) (g : List Bl) (next : ByteArray) (w : World) (e : Ending) (w' : World) : Prop :=
  ∃ A, e = .returned (.slice A next.size next.size) ∧ Pts w' A (goList NB g next) ∧ Below w.heap.size w w'

theorem mem_names {g : List Bl} {c : UInt8} : c ∈ (names g).data.toList ↔ ∃ b ∈ g, c ∈ b.1.data.toList := by
  induction g with
  | nil => simp [names]
  | cons b g ih => rw [names, ba_append_toList, List.mem_append, ih]; simp

theorem posOf_is {g : List Bl} {s : ByteArray} {i : Nat} (h : posOf g s = some i) : ∃ h : i < g.length, g[i].1 = s := by
  unfold posOf at h
  have h1 := List.find?_some h
  have h2 := List.mem_range.1 (List.mem_of_find?_eq_some h)
  rw [nthName_at h2] at h1
  exact ⟨h2, by simpa using h1⟩

theorem posOf_has {g : List Bl} {s : ByteArray} {b : Bl} (hb : b ∈ g) (hs : b.1 = s) : ∃ i, posOf g s = some i := by
  cases h : posOf g s with
  | some i => exact ⟨i, rfl⟩
  | none =>
    obtain ⟨k, hk, rfl⟩ := List.getElem_of_mem hb
    unfold posOf at h
    have := List.find?_eq_none.1 h k (List.mem_range.2 hk)
    rw [nthName_at hk, hs] at this
    simp at this

/-- The names of a graph are single letters. -/
theorem valid_one {g : List Bl} (hv : validB g = true) {b : Bl} (hb : b ∈ g) : ∃ c, b.1 = ⟨#[c]⟩ ∧ letB c = true := by
  obtain ⟨k, hk, rfl⟩ := List.getElem_of_mem hb
  have := newsB_iff.1 (valid_iff.1 hv).2.2.1 k hk
  unfold newB at this
  exact one_of_name (Bool.and_eq_true_iff.1 this).1

theorem posOf_valid {g : List Bl} (hv : validB g = true) {k : Nat} (hk : k < g.length) {j : Nat} (hj : j < g[k].2.size) :
    ∃ i, ∃ h : i < g.length, posOf g ⟨#[g[k].2[j]'hj]⟩ = some i ∧ g[i].1 = ⟨#[g[k].2[j]'hj]⟩ := by
  have hn := nextB_iff.1 (nextsB_iff.1 (valid_iff.1 hv).2.2.2 k hk)
  have hm := idx_mem.1 (hn.2.1 j hj)
  obtain ⟨b, hb, hcb⟩ := mem_names.1 hm
  obtain ⟨c, hc, _⟩ := valid_one hv hb
  have hcc : c = g[k].2[j]'hj := by rw [hc] at hcb; have h4 : g[k].2[j]'hj = c := by simpa using hcb
                                    exact h4.symm
  obtain ⟨i, hi⟩ := posOf_has hb (hcc ▸ hc)
  obtain ⟨h1, h2⟩ := posOf_is hi
  exact ⟨i, h1, hi, h2⟩

theorem one_byte {s : ByteArray} (h : s.size = 1) : s = ⟨#[s[0]'(by omega)]⟩ := by
  apply ba_ext
  have hl : s.data.toList.length = 1 := by simpa using h
  obtain ⟨c, hc⟩ := List.length_eq_one_iff.1 hl
  have := byte_at s 0 (by omega)
  rw [hc] at this
  rw [hc]
  simpa using this

theorem ex_byte (s : ByteArray) {a b : Nat} (h : a < b) (hb : b ≤ s.size) (h1 : b - a = 1) : s.extract a b = ⟨#[s[a]'(by omega)]⟩ := by
  apply ba_ext
  rw [← Lib.toList_data, Lib.extract_toList]
  have h2 := byte_at s a (by omega)
  have h3 : (s.data.toList.drop a)[0]? = some (s[a]'(by omega)) := by rw [List.getElem?_drop]; simpa using h2
  rw [h1]
  cases hd : s.data.toList.drop a with
  | nil => rw [hd] at h3; simp at h3
  | cons x l => rw [hd] at h3; simp at h3; simp [h3]

theorem Nodes.at_ {w : World} {NB : Nat} {g : List Bl} {E : Nat → Value} (h : Nodes w NB g E) {i : Nat} (hi : i < g.length) : nb NB i < w.heap.size ∧ w.cell? ⟨nb NB i, 1, none⟩ = some (.string g[i].1) := by
  refine ⟨(h.node i hi).lt, ?_⟩
  have := (h.node i hi).cell 1
  simpa using this

theorem goList_length (NB : Nat) (g : List Bl) {next : ByteArray} (h : next.size ≤ 2) : (goList NB g next).length = next.size := by
  unfold goList
  by_cases h1 : next.size = 1
  · rw [if_pos h1, h1]; rfl
  · by_cases h2 : next.size = 2
    · rw [if_neg h1, if_pos h2, h2]; rfl
    · rw [if_neg h1, if_neg h2]; simp; omega

theorem joined_goes (NB : Nat) (g : List Bl) {next : ByteArray} (h : next.size ≤ 2) : joined (goList NB g next) = next := by
  unfold goList
  by_cases h1 : next.size = 1
  · rw [if_pos h1]; simp only [joined, ba_append_empty]
  · by_cases h2 : next.size = 2
    · rw [if_neg h1, if_pos h2]
      simp only [joined, ba_append_empty]
      apply ba_ext
      rw [ba_append_toList, ← Lib.toList_data, ← Lib.toList_data, Lib.extract_toList, Lib.extract_toList, h2]
      have hl : next.data.toList.length = 2 := by simpa using h2
      match hm : next.data.toList, hl with
      | [x, y], _ => rfl
    · rw [if_neg h1, if_neg h2]
      apply ba_ext
      have h0 : next.data.toList.length = next.size := by rw [Array.length_toList]; rfl
      rw [List.eq_nil_of_length_eq_zero (show next.data.toList.length = 0 by omega)]; rfl

/-- The method behind an ending: which function it is, and what it gives. -/
structure Disp (NB : Nat) (g : List Bl) (next : ByteArray) (T : TypeId) (v : Value) (F : FuncId) : Prop where
  val : endV NB g next = .iface T v
  look : ∀ w, (method 276 T v "loop.example/structuredjumps/impl.targets").run Try.prog w = .ok (F, v) w
  enter : ∀ args w, (callFunc F args).run Try.prog w = .ok (.enter F args) w
  goes : ∀ w E, Nodes w NB g E → Calls Try.prog F #[v] w (GoesPost NB g next w)

theorem look_stop (w : World) : (method 276 63 (.agg #[]) "loop.example/structuredjumps/impl.targets").run Try.prog w = .ok (148, .agg #[]) w := by kernel_rfl
theorem look_jump (u : Value) (w : World) : (method 276 117 (.agg #[u]) "loop.example/structuredjumps/impl.targets").run Try.prog w = .ok (151, .agg #[u]) w := by kernel_rfl
theorem look_branch (u v : Value) (w : World) : (method 276 119 (.agg #[u, v]) "loop.example/structuredjumps/impl.targets").run Try.prog w = .ok (152, .agg #[u, v]) w := by kernel_rfl

theorem disp {NB : Nat} {g : List Bl} (hv : validB g = true) {k : Nat} (hk : k < g.length) : ∃ T v F, Disp NB g g[k].2 T v F := by
  have h2 := (nextB_iff.1 (nextsB_iff.1 (valid_iff.1 hv).2.2.2 k hk)).1
  by_cases e1 : g[k].2.size = 1
  · obtain ⟨i, hi, hp, hs⟩ := posOf_valid hv hk (j := 0) (by omega)
    rw [← one_byte e1] at hp hs
    refine ⟨_, _, _, by unfold endV; rw [if_pos e1, hp], fun w => look_jump _ w, enters_of Try.func151 (by kernel_rfl) rfl, fun w E hN => ?_⟩
    refine (jump_targets _ w).mono ?_
    rintro e w' ⟨rfl, hb, hB⟩
    refine ⟨some ⟨w.heap.size + 1, 0, none⟩, by rw [e1], fun _ => ⟨_, 0, rfl, hb.lt, fun j hj => ?_⟩, hB⟩
    have e : goList NB g g[k].2 = [(nb NB i, g[k].2)] := by unfold goList; rw [if_pos e1, hp]; rfl
    have hj0 : j = 0 := by rw [e] at hj; simpa using hj
    subst hj0
    have hx : (goList NB g g[k].2)[0] = (nb NB i, g[k].2) := by simp [e]
    rw [hx]
    obtain ⟨q1, q2⟩ := (hN.below hB).at_ hi
    rw [hs] at q2
    exact ⟨by rw [hb.cell]; rfl, q1, q2⟩
  · by_cases e2 : g[k].2.size = 2
    · obtain ⟨i, hi, hp, hs⟩ := posOf_valid hv hk (j := 0) (by omega)
      obtain ⟨i', hi', hp', hs'⟩ := posOf_valid hv hk (j := 1) (by omega)
      rw [← ex_byte g[k].2 (a := 0) (b := 1) (by omega) (by omega) rfl] at hp hs
      rw [← ex_byte g[k].2 (a := 1) (b := g[k].2.size) (by omega) (by omega) (by omega)] at hp' hs'
      refine ⟨_, _, _, by unfold endV; rw [if_neg e1, if_pos e2, hp, hp'], fun w => look_branch _ _ w, enters_of Try.func152 (by kernel_rfl) rfl, fun w E hN => ?_⟩
      refine (branch_targets _ _ w).mono ?_
      rintro e w' ⟨rfl, hb, hB⟩
      refine ⟨some ⟨w.heap.size + 1, 0, none⟩, by rw [e2], fun _ => ⟨_, 0, rfl, hb.lt, fun j hj => ?_⟩, hB⟩
      have e : goList NB g g[k].2 = [(nb NB i, g[k].2.extract 0 1), (nb NB i', g[k].2.extract 1 g[k].2.size)] := by unfold goList; rw [if_neg e1, if_pos e2, hp, hp']; rfl
      have hj0 : j = 0 ∨ j = 1 := by rw [e] at hj; simp at hj; omega
      rcases hj0 with rfl | rfl
      · have hx : (goList NB g g[k].2)[0] = (nb NB i, g[k].2.extract 0 1) := by simp [e]
        rw [hx]
        obtain ⟨q1, q2⟩ := (hN.below hB).at_ hi
        rw [hs] at q2
        exact ⟨by rw [hb.cell]; rfl, q1, q2⟩
      · have hx : (goList NB g g[k].2)[1] = (nb NB i', g[k].2.extract 1 g[k].2.size) := by simp [e]
        rw [hx]
        obtain ⟨q1, q2⟩ := (hN.below hB).at_ hi'
        rw [hs'] at q2
        exact ⟨by rw [hb.cell]; rfl, q1, q2⟩
    · refine ⟨_, _, _, by unfold endV; rw [if_neg e1, if_neg e2], fun w => look_stop w, enters_of Try.func148 (by kernel_rfl) rfl, fun w E _ => ?_⟩
      refine (stop_targets w).mono ?_
      rintro e w' ⟨rfl, hB⟩
      have e0 : g[k].2.size = 0 := by omega
      refine ⟨none, by rw [e0], fun h => absurd h ?_, hB⟩
      rw [goList_length NB g h2]; omega
end Go.Proofs.Yteodlcgmncchpaa
