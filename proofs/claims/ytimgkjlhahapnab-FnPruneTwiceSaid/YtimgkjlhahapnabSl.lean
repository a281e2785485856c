/-
  Contracts of the functions that go over slices of blocks: sizes, copies, comparison, names.
-/
import Derived.Test.YtimgkjlhahapnabLeaf
import Derived.Test.YtimgkjlhahapnabGr
import Derived.Deep.LoopGhost
import Derived.Lib.QuietBelow
import Derived.KernelRfl
namespace Go.Proofs.Ytimgkjlhahapnab
open Go.RowKit Go.Sort

theorem bcell {W w1 : World} (hb : Below W.heap.size W w1) : (∀ b o, b < W.heap.size → w1.cell? ⟨b, o, none⟩ = W.cell? ⟨b, o, none⟩) ∧ (∀ b o, b < W.heap.size → w1.frozen? ⟨b, o, none⟩ = W.frozen? ⟨b, o, none⟩) :=
  ⟨fun b o h => hb.cell (p := ⟨b, o, none⟩) h, fun b o h => hb.frozen (p := ⟨b, o, none⟩) h⟩

theorem below_trans_self {w w1 w2 : World} (h : Below w.heap.size w w1) (h2 : Below w1.heap.size w1 w2) : Below w.heap.size w w2 :=
  h.trans (h2.mono h.size)

theorem ret_string {a b : ByteArray} (h : a = b) : Ending.returned (.string a) = .returned (.string b) := by rw [h]

/-- What a round over blocks knows of its block. -/
theorem gr_at {w : World} {A : Option Addr} {g : List Bl} (hg : Gr w A g) {k : Nat} (h : k < g.length) :
    ∃ b off s t, A = some ⟨b, off, none⟩ ∧ b < w.heap.size ∧ w.cell? ⟨b, off + k * 2, none⟩ = some (.string s) ∧ w.cell? ⟨b, off + k * 2 + 1, none⟩ = some (.string t) ∧ g[k].1 = s ∧ g[k].2 = t := by
  obtain ⟨b, off, e, hb, hc⟩ := hg (by omega)
  exact ⟨b, off, g[k].1, g[k].2, e, hb, (hc k h).1, (hc k h).2, rfl, rfl⟩

theorem names_any (A : Option Addr) (cap : Nat) (g : List Bl) (w : World) (hg : Gr w A g) (hn : g.length ≤ 1048576) (ht : tot g ≤ 1048576) :
    Calls Try.prog 51 #[.slice A g.length cap] w fun e w' => e = .returned (.string (names g)) ∧ Below w.heap.size w w' := by
  go_enter Try.func51, Try.ntmps51
  go_wp2
  go_loopw [3, 8] (fun s i wr => ∃ k : Nat, k ≤ g.length ∧ i = .int .i64 k ∧ s = .string (names (g.take k)) ∧ Below w.heap.size w wr) (fun _ i _ => g.length - (intOf i).toNat)
  case atStart => exact ⟨0, Nat.zero_le _, rfl, rfl, Below.refl _ _⟩
  case round =>
    obtain ⟨k, hk, rfl, rfl, hB⟩ := hrel
    have hs := names_size_le (g.take k)
    have hs2 := tot_take_le g k
    obtain ⟨m, hm⟩ : ∃ m, m = names (g.take k) := ⟨_, rfl⟩
    have HM := Lib.hid hm
    rw [← hm] at hs ⊢
    clear hm
    by_cases hlt : k < g.length
    · obtain ⟨b, off, s, t, rfl, hb, hc0, hc1, he, he2⟩ := gr_at (hg.below hB) hlt
      have hs3 := tot_get g k hlt
      rw [he, he2] at hs3
      have HN := Lib.hid (names_take g k hlt)
      have HE := Lib.hid he
      clear he he2
      go_wp2
      go_roundw
      case rel => exact ⟨k + 1, by omega, by go_num, by rw [HN.out, HE.out, ← HM.out], hB.alloc hB.size _⟩
      case measure => simp [intOf]; omega
    · go_wp2
      go_ret
      exact ⟨ret_string (by rw [HM.out, List.take_of_length_le (by omega)]), hB⟩



theorem info_block : (Try.prog.info? 38).map (fun i => (i.zero, i.size, i.bytes)) = some (some (.agg #[.string ⟨#[]⟩, .string ⟨#[]⟩]), 2, 32) := by kernel_rfl

theorem run_make_blocks (n : Nat) (hn : n ≤ 1048576) (w : World) :
    (Instr.makeSlice 23 (.int .i64 (n : Int)) (.int .i64 (n : Int))).run Try.prog w = .ok (.slice (some ⟨w.heap.size, 0, none⟩) n n) (w.alloc (.cells (madeCells #[.string ⟨#[]⟩, .string ⟨#[]⟩] (n * 2)) 38)) := by
  obtain ⟨i, hi, hzz⟩ := Option.map_eq_some_iff.1 info_block
  simp only [Prod.mk.injEq] at hzz
  obtain ⟨hz, hs, hb⟩ := hzz
  have := run_make (P := Try.prog) w 23 38 i _ Try.underlying23 hi hz .i64 .i64 n n (by omega) (by omega) (by rw [hb]; omega) (by omega)
  simpa [hs, Value.cells] using this

/-- Of the cells of a row being filled: the first k blocks are there. -/
def Filled (cs : Array Value) (g : List Bl) (k : Nat) : Prop := cs.size = g.length * 2 ∧ ∀ j (h : j < g.length), j < k → cs[j * 2]? = some (.string g[j].1) ∧ cs[j * 2 + 1]? = some (.string g[j].2)

theorem Filled.step {cs : Array Value} {g : List Bl} {k : Nat} {s t : ByteArray} (h : Filled cs g k) (hk : k < g.length) (e1 : g[k].1 = s) (e2 : g[k].2 = t) :
    Filled ((cs.setIfInBounds (k * 2) (.string s)).setIfInBounds (k * 2 + 1) (.string t)) g (k + 1) := by
  refine ⟨by simpa using h.1, fun j hj hjk => ?_⟩
  have hsz := h.1
  simp only [Array.getElem?_setIfInBounds, Array.size_setIfInBounds]
  rcases Nat.lt_succ_iff_lt_or_eq.1 hjk with hlt | rfl
  · rw [if_neg (by omega), if_neg (by omega), if_neg (by omega), if_neg (by omega)]
    exact h.2 j hj hlt
  · constructor
    · rw [if_neg (by omega), if_pos rfl, if_pos (by omega), e1]
    · rw [if_pos rfl, if_pos (by omega), e2]


/-- Two lists of blocks, compared. -/
def eqG : List Bl → List Bl → Bool
  | [], [] => true
  | a :: g, b :: h => eqB a.1 a.2 b.1 b.2 && eqG g h
  | _, _ => false

theorem beq_toList {a b : ByteArray} : (a.toList == b.toList) = true ↔ a = b := by
  constructor
  · intro h
    have h1 : a.toList = b.toList := by simpa using h
    rw [Lib.toList_data, Lib.toList_data] at h1
    exact ba_ext h1
  · rintro rfl; simp

theorem eqB_iff {s t s' t' : ByteArray} : eqB s t s' t' = true ↔ s = s' ∧ t = t' := by
  unfold eqB; rw [Bool.and_eq_true, beq_toList, beq_toList]

theorem eqG_iff {g h : List Bl} : eqG g h = true ↔ g = h := by
  induction g generalizing h with
  | nil => cases h <;> simp [eqG]
  | cons a g ih =>
    cases h with
    | nil => simp [eqG]
    | cons b h =>
      obtain ⟨a1, a2⟩ := a
      obtain ⟨b1, b2⟩ := b
      simp [eqG, eqB_iff, ih, and_assoc]

end Go.Proofs.Ytimgkjlhahapnab
