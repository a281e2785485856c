/-
  Contracts: a run of a graph, block by block: the iterator and what makes it.
-/
import Derived.Test.YtdpjdhllaokbfaaGreatRuns
import Derived.Test.YtdpjdhllaokbfaaGreatIter
import Derived.Test.YtdpjdhllaokbfaaGreatNextOf
import Derived.RangeFuncBound
import Derived.RangeFuncCalls
import Derived.RangeFuncLeaves
import Derived.Shelf.Abstract
import Derived.Shelf.RegionOpen
import Derived.WalkKit
import Derived.OwnWalkIn
import Derived.TacticsInMore
import Derived.LoopNIn
import Derived.LoopIn
import Derived.Sort.LoopGhostIn
namespace Go.Proofs.YtdpjdhllaokbfaaGreat
open Go.RowKit Go.Sort Go.Shelf
attribute [local go_sem] Oper.semAt_some


theorem bytes_cons {s : ByteArray} (h : 0 < s.size) : s.data.toList = s[0] :: (s.extract 1 s.size).data.toList := by
  have h0 := byte_at s 0 h
  rw [← Lib.toList_data (s.extract 1 s.size), Lib.extract_toList]
  have hl := list_of_size (s := s)
  cases hd : s.data.toList with
  | nil => rw [hd] at hl; simp at hl; omega
  | cons c r =>
    rw [hd] at h0 hl
    have : c = s[0] := by simpa using h0
    rw [this]
    simp only [List.drop_succ_cons, List.drop_zero, List.length_cons] at hl ⊢
    rw [List.take_of_length_le (by omega)]

theorem beq_empty {s : ByteArray} (h : 0 < s.size) : (s.toList == ([] : List UInt8)) = false := by
  have hl := list_of_size (s := s)
  rw [Lib.toList_data]
  cases hd : s.data.toList with
  | nil => rw [hd] at hl; simp at hl; omega
  | cons c r => rfl

/-- Each node of a graph, wherever the row of them lies. -/
def NodesIn (w : World) (NB : Nat) (g : List Bl) : Prop := ∀ i (h : i < g.length), Blk w (nb NB i) 72 #[.int .i64 i, .string g[i].1, ends NB g i]

theorem NodesIn.of {w : World} {NB : Nat} {g : List Bl} (h : Nodes w NB g (ends NB g)) : NodesIn w NB g := h.node
theorem NodesIn.below {w w' : World} {NB : Nat} {g : List Bl} (h : NodesIn w NB g) (hb : Below w.heap.size w w') : NodesIn w' NB g := fun i hi => (hb.block _ (h i hi).lt).trans (h i hi)
theorem NodesIn.kept {w w' : World} {NB : Nat} {g : List Bl} {R : Nat → Prop} (h : NodesIn w NB g) (hk : Keeps R w w') (hR : ∀ i, i < g.length → R (nb NB i)) : NodesIn w' NB g :=
  fun i hi => (hk.2 _ (h i hi).lt (hR i hi)).trans (h i hi)

/-- How a run is handed out. -/
abbrev encRun (NB : Nat) (x : Nat × Nat) : Array Value := #[nptr NB x.1, .int .i64 x.2]

end Go.Proofs.YtdpjdhllaokbfaaGreat

/-
  Contracts of RunGraph, the program's and the model's.
-/
namespace Go.Proofs.YtdpjdhllaokbfaaGreat
open Go.RowKit Go.Sort Go.Shelf
attribute [local go_sem] Oper.semAt_some

def runB (g : List Bl) (choices : ByteArray) : Bool := validB g && choicesB choices
def runT (g : List Bl) (choices : ByteArray) : ByteArray := if runB g choices then traceOf g choices else ⟨#[]⟩
def runE (g : List Bl) (choices : ByteArray) : Int := if runB g choices then (endOf g choices : Int) else 0

theorem runB_no {g : List Bl} {choices : ByteArray} (h : validB g = false) : runB g choices = false := by unfold runB; rw [h]; rfl
theorem runB_no' {g : List Bl} {choices : ByteArray} (h : choicesB choices = false) : runB g choices = false := by unfold runB; rw [h, Bool.and_false]
theorem runB_yes {g : List Bl} {choices : ByteArray} (h : validB g = true) (h' : choicesB choices = true) : runB g choices = true := by unfold runB; rw [h, h']; rfl
theorem runT_no {g : List Bl} {choices : ByteArray} (h : runB g choices = false) : runT g choices = ⟨#[]⟩ := by unfold runT; rw [h]; rfl
theorem runE_no {g : List Bl} {choices : ByteArray} (h : runB g choices = false) : runE g choices = 0 := by unfold runE; rw [h]; rfl
theorem runT_yes {g : List Bl} {choices : ByteArray} (h : runB g choices = true) : runT g choices = traceOf g choices := by unfold runT; rw [h]; rfl
theorem runE_yes {g : List Bl} {choices : ByteArray} (h : runB g choices = true) : runE g choices = (endOf g choices : Int) := by unfold runE; rw [h]; rfl

theorem ret_sib {a a' : ByteArray} {i i' : Int} {b b' : Bool} (h1 : a = a') (h2 : i = i') (h3 : b = b') : Ending.returned (.tuple #[.string a, .int .i64 i, .bool b]) = .returned (.tuple #[.string a', .int .i64 i', .bool b']) := by rw [h1, h2, h3]

/-- What RunGraph returns. -/
def RunPost (g : List Bl) (choices : ByteArray) (w : World) (e : Ending) (w' : World) : Prop :=
  e = .returned (.tuple #[.string (runT g choices), .int .i64 (runE g choices), .bool (runB g choices)]) ∧ Below w.heap.size w w'



theorem below_put {n₀ : Nat} {a W : World} (h : Below n₀ a W) {l : Nat} (hl : n₀ ≤ l) (o : Obj) : Below n₀ a (W.putObj l o) :=
  h.trans ⟨rfl, rfl, rfl, by simp, fun k hk => World.putObj_heap_other (by omega)⟩

theorem boxes_step (W : World) (B : Nat) (t1 t2 : TypeId) (u1 u2 v1 v2 : Value) (h1 : Boxed W B t1 u1) (h2 : Boxed W (B + 1) t2 u2) :
    Boxed ((W.setCell ⟨B, 0, none⟩ v1).setCell ⟨B + 1, 0, none⟩ v2).drew B t1 v1 ∧ Boxed ((W.setCell ⟨B, 0, none⟩ v1).setCell ⟨B + 1, 0, none⟩ v2).drew (B + 1) t2 v2 ∧
      Turns (fun k => k = B ∨ k = B + 1) W ((W.setCell ⟨B, 0, none⟩ v1).setCell ⟨B + 1, 0, none⟩ v2).drew :=
  ⟨(h1.set v1).other (by omega) v2, (h2.other (by omega) v1).set v2,
    (Turns.setCell (p := ⟨B, 0, none⟩) (.inl rfl) v1).trans (((Turns.setCell (p := ⟨B + 1, 0, none⟩) (.inr rfl) v2).wider fun k hk => .inl hk).trans (Turns.drew _ _))⟩


/-- The method behind an ending: which function it is, and the row that it makes. -/
structure Disp2 (NB : Nat) (g : List Bl) (i : Nat) (T : TypeId) (v : Value) (F : FuncId) : Prop where
  val : ends NB g i = .iface T v
  look : ∀ w, (method 287 T v "loop.example/structuredjumps/impl.targets").run Tryz.prog w = .ok (F, v) w
  enter : ∀ args w, (callFunc F args).run Tryz.prog w = .ok (.enter F args) w
  goes : ∀ w, Calls Tryz.prog F #[v] w fun e w' => ∃ A, e = .returned (.slice A (nxt g i).length (nxt g i).length) ∧ Below w.heap.size w w' ∧
    (0 < (nxt g i).length → ∃ b, A = some ⟨b, 0, none⟩ ∧ w.heap.size ≤ b ∧ Blk w' b 73 ((nxt g i).map (nptr NB)).toArray)

theorem disp2 {NB : Nat} {g : List Bl} (hv : validB g = true) {i : Nat} (hi : i < g.length) : ∃ T v F, Disp2 NB g i T v F := by
  rcases ends_of (NB := NB) hi (goes hv hi) with ⟨hn, he⟩ | ⟨p, hp, hn, he⟩ | ⟨p, q, hp, hq, hn, he⟩
  · refine ⟨_, _, _, he, fun w => look_stop w, enters_of Tryz.func158 (by kernel_rfl) rfl, fun w => ?_⟩
    refine (stop_targets w).mono ?_
    rintro e w' ⟨rfl, hB⟩
    rw [hn]
    exact ⟨none, rfl, hB, fun h => absurd h (by simp)⟩
  · refine ⟨_, _, _, he, fun w => look_jump _ w, enters_of Tryz.func156 (by kernel_rfl) rfl, fun w => ?_⟩
    refine (jump_targets _ w).mono ?_
    rintro e w' ⟨rfl, hb, hB⟩
    rw [hn]
    exact ⟨_, rfl, hB, fun _ => ⟨_, rfl, by omega, hb⟩⟩
  · refine ⟨_, _, _, he, fun w => look_branch _ _ w, enters_of Tryz.func157 (by kernel_rfl) rfl, fun w => ?_⟩
    refine (branch_targets _ _ w).mono ?_
    rintro e w' ⟨rfl, hb, hB⟩
    rw [hn]
    exact ⟨_, rfl, hB, fun _ => ⟨_, rfl, by omega, hb⟩⟩

theorem nxt_two {g : List Bl} (hv : validB g = true) {i : Nat} (hi : i < g.length) : (nxt g i).length ≤ 2 := by
  rcases goes hv hi with ⟨h, _⟩ | ⟨p, hp, h, _⟩ | ⟨p, q, hp, hq, h, _⟩ <;> rw [h] <;> simp
end Go.Proofs.YtdpjdhllaokbfaaGreat

/-
  Contract of the model's RunGraph.
-/
namespace Go.Proofs.YtdpjdhllaokbfaaGreat
open Go.RowKit Go.Sort

theorem ret_si {a a' : ByteArray} {i i' : Int} (h1 : a = a') (h2 : i = i') : Ending.returned (.tuple #[.string a, .int .i64 i]) = .returned (.tuple #[.string a', .int .i64 i']) := by rw [h1, h2]

theorem trace_end {g : List Bl} {choices : ByteArray} {pre : List (Nat × Nat)} {i e : Nat} (h : runOf g choices = pre ++ [(i, e)]) : traceOf g choices = namesAt g (pre.map (·.1)) ++ nthName g i ∧ endOf g choices = e := by
  unfold traceOf endOf
  rw [h, lastEnd_snoc, List.map_append, namesAt_append]
  exact ⟨by congr 1; exact namesAt_one g i, rfl⟩

theorem lastEnd_two {pre : List (Nat × Nat)} (h : ∀ x ∈ pre, x.2 = 2) (hl : 0 < pre.length) : lastEnd pre = 2 := by
  unfold lastEnd
  have hne : pre ≠ [] := by intro e; rw [e] at hl; simp at hl
  rw [List.getLast?_eq_some_getLast hne]
  exact h _ (List.getLast_mem hne)

theorem pre_next {g : List Bl} {pre : List (Nat × Nat)} {i : Nat} (h : ∀ x ∈ pre, x.1 < g.length) (hi : i < g.length) : ∀ x ∈ pre ++ [(i, 2)], x.1 < g.length := by
  intro x hx
  rcases List.mem_append.1 hx with hx | hx
  · exact h x hx
  · simp at hx; subst hx; exact hi

theorem names_next (g : List Bl) (pre : List (Nat × Nat)) (i : Nat) {o n : ByteArray} (ho : o = namesAt g (pre.map (·.1))) (hn : n = nthName g i) : namesAt g ((pre ++ [((i : Nat), (2 : Nat))]).map (·.1)) = o ++ n := by
  rw [List.map_append, namesAt_append, ho, hn]
  congr 1
  exact namesAt_one g i



end Go.Proofs.YtdpjdhllaokbfaaGreat
