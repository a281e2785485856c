/-
  EachOnce of both: no block stands twice.
-/
import Derived.Test.YtgkamcnbpiipoaaBlocks
import Derived.Test.YtgkamcnbpiipoaaCount
namespace Go.Proofs.Ytgkamcnbpiipoaa
open Go.RowKit Go.Sort
attribute [local go_sem] Oper.semAt_some

/-- Whether no block stands twice in a text. -/
noncomputable def onceB (s : List UInt8) : Bool := textB s && decide (blocksV s).Nodup

theorem onceB_dup {s : List UInt8} (h : ¬ (blocksV s).Nodup) : onceB s = false := by unfold onceB; rw [decide_eq_false h, Bool.and_false]
theorem onceB_no {s : List UInt8} (h : (blocksV s).Nodup) : onceB s = textB s := by unfold onceB; rw [decide_eq_true h, Bool.and_true]

theorem nodup_fwd {l : List UInt8} (h : ∀ i (hi : i < l.length), l[i] ∉ l.drop (i + 1)) : l.Nodup := by
  induction l with
  | nil => exact List.nodup_nil
  | cons a l ih =>
    rw [List.nodup_cons]
    refine ⟨by have := h 0 (by simp); simpa using this, ih fun i hi => ?_⟩
    have := h (i + 1) (by simpa using hi)
    simpa using this
theorem nodup_back {l : List UInt8} (h : ∀ i (hi : i < l.length), l[i] ∉ l.take i) : l.Nodup := by
  refine nodup_fwd fun i hi hm => ?_
  obtain ⟨k, hk, e⟩ := List.getElem_of_mem hm
  rw [List.getElem_drop] at e
  rw [List.length_drop] at hk
  refine h (i + 1 + k) (by omega) ?_
  rw [e, List.mem_take_iff_getElem]
  exact ⟨i, by omega, rfl⟩
theorem dup_fwd {l : List UInt8} {i : Nat} (hi : i < l.length) (h : l[i] ∈ l.drop (i + 1)) : ¬ l.Nodup := by
  intro hn
  obtain ⟨k, hk, e⟩ := List.getElem_of_mem h
  rw [List.getElem_drop] at e
  rw [List.length_drop] at hk
  have h2 := (List.pairwise_iff_getElem.1 hn) i (i + 1 + k) hi (by omega) (by omega)
  exact h2 e.symm
theorem dup_back {l : List UInt8} {i : Nat} (hi : i < l.length) (h : l[i] ∈ l.take i) : ¬ l.Nodup := by
  intro hn
  rw [List.mem_take_iff_getElem] at h
  obtain ⟨k, hk, e⟩ := h
  have h2 := (List.pairwise_iff_getElem.1 hn) k i (by omega) hi (by omega)
  exact h2 e

theorem tb_extract (l : List UInt8) (a b : Nat) : (tb l).extract a b = tb ((l.drop a).take (b - a)) := by
  apply ba_ext
  rw [tb_data]
  show ((tb l).extract a b).data.toList = _
  rw [ByteArray.data_extract, Array.toList_extract, tb_data]
theorem tb_one (l : List UInt8) (i : Nat) (h : i < l.length) : (tb l).extract i (i + 1) = tb [l[i]] := by
  rw [tb_extract]
  rw [show i + 1 - i = 1 by omega, List.drop_eq_getElem_cons h]
  rfl
theorem tb_rest (l : List UInt8) (i : Nat) : (tb l).extract i l.length = tb (l.drop i) := by
  rw [tb_extract, List.take_of_length_le (by rw [List.length_drop]; exact Nat.le_refl _)]
theorem tb_fst (l : List UInt8) (i : Nat) : (tb l).extract 0 i = tb (l.take i) := by
  rw [tb_extract, List.drop_zero, Nat.sub_zero]

theorem spec_find (nm : List UInt8) (i : Nat) (h : i < nm.length) (W : World) (hl : nm.length ≤ 200) :
    Calls Try.prog 82 #[.string ((tb nm).extract 0 i), .int .u8 (nm[i]).toNat] W fun e w' => e = .returned (.int .i64 (Lib.indexByte (nm.take i) nm[i])) ∧ W = w' := by
  have h1 := find_any ((tb nm).extract 0 i) nm[i] W (by rw [tb_fst, tb_size, List.length_take]; omega)
  rw [show Lib.indexByte ((tb nm).extract 0 i).data.toList nm[i] = Lib.indexByte (nm.take i) nm[i] by rw [tb_fst, tb_data]] at h1
  exact h1


theorem impl_has (nm : List UInt8) (i : Nat) (h : i < nm.length) (W : World) :
    Calls Try.prog 78 #[.string ((tb nm).extract (i + 1) nm.length), .string ((tb nm).extract i (i + 1))] W fun e w' => e = .returned (.bool (decide (nm[i] ∈ nm.drop (i + 1)))) ∧ W = w' := by
  rw [tb_rest, tb_one nm i h]
  refine (Try.strings_Contains_one (tb (nm.drop (i + 1))) nm[i] W).mono ?_
  rintro e w' ⟨rfl, rfl⟩
  refine ⟨?_, rfl⟩
  rw [tb_data]
  by_cases hm : nm[i] ∈ nm.drop (i + 1)
  · rw [decide_eq_true hm, decide_eq_true (idx_mem.2 hm)]
  · rw [decide_eq_false hm, decide_eq_false fun h => hm (idx_mem.1 h)]

end Go.Proofs.Ytgkamcnbpiipoaa

/-
  CountLeaves and UsesNumber of both.
-/
namespace Go.Proofs.Ytgkamcnbpiipoaa
open Go.RowKit Go.Sort
attribute [local go_sem] Oper.semAt_some

/-- Whether a text sets or asks the number. -/
noncomputable def numB (s : List UInt8) : Bool := decide (0 < countZ s [61]) || decide (0 < countZ s [35])
theorem numB_1 {s : List UInt8} (h : 0 < countZ s [61]) : numB s = true := by unfold numB; rw [decide_eq_true h, Bool.true_or]
theorem numB_2 {s : List UInt8} (h : ¬ 0 < countZ s [61]) : numB s = decide (0 < countZ s [35]) := by unfold numB; rw [decide_eq_false h, Bool.false_or]


theorem implUsesNumber_any (s : List UInt8) (w : World) :
    Calls Try.prog 20 #[.string (tb s)] w fun e w' => e = .returned (.bool (numB s)) ∧ Below w.heap.size w w' := by
  have H1 : Hid (∀ W, Calls Try.prog 53 #[.string (tb s), .string ⟨#[61]⟩] W fun e w' => e = .returned (.int .i64 (countZ s [61])) ∧ Below W.heap.size W w') := fun W => implCountItems_any s [61] W
  have H2 : Hid (∀ W, Calls Try.prog 53 #[.string (tb s), .string ⟨#[35]⟩] W fun e w' => e = .returned (.int .i64 (countZ s [35])) ∧ Below W.heap.size W w') := fun W => implCountItems_any s [35] W
  by_cases hq : 0 < countZ s [61]
  · have HQ := Lib.hid (numB_1 hq)
    have g1 : decide (0 < countZ s [61]) = true := decide_eq_true hq
    go_enter Try.func20, Try.ntmps20
    go_wp2_with fail
    refine (H1.out _).mono ?_
    rintro e w1 ⟨rfl, b1⟩
    go_wp2_with fail
    go_ret
    exact ⟨by rw [HQ.out]; rfl, b1⟩
  · have HQ := Lib.hid (numB_2 hq)
    have g1 : decide (0 < countZ s [61]) = false := decide_eq_false hq
    go_enter Try.func20, Try.ntmps20
    go_wp2_with fail
    refine (H1.out _).mono ?_
    rintro e w1 ⟨rfl, b1⟩
    go_wp2_with fail
    refine (H2.out _).mono ?_
    rintro e w2 ⟨rfl, b2⟩
    go_wp2_with fail
    go_ret
    exact ⟨by rw [HQ.out]; rfl, below_trans_self b1 b2⟩


end Go.Proofs.Ytgkamcnbpiipoaa
