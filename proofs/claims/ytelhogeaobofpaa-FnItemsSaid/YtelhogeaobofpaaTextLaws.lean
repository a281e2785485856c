/-
  For the laws of texts: contracts of both at a string, and plain facts on what they say.
-/
import Derived.Test.YtelhogeaobofpaaOnceT
import Derived.Test.YtelhogeaobofpaaDrawAny
namespace Go.Proofs.Ytelhogeaobofpaa
open Go.RowKit Go.Sort

theorem implFrames_text (s : ByteArray) (w : World) : Calls Try.prog 26 #[.string s] w fun e w' => e = .returned (.int .i64 (framesZ s.data.toList)) ∧ Below w.heap.size w w' := by
  have h := implFramesIn_any s.data.toList w
  rw [tb_of] at h; exact h
theorem implLeaves_text (s : ByteArray) (w : World) : Calls Try.prog 18 #[.string s] w fun e w' => e = .returned (.int .i64 (countZ s.data.toList [94])) ∧ Below w.heap.size w w' := by
  have h := implCountLeaves_any s.data.toList w
  rw [tb_of] at h; exact h
theorem implFar_text (s : ByteArray) (w : World) : Calls Try.prog 27 #[.string s] w fun e w' => e = .returned (.int .i64 (farZ s.data.toList)) ∧ Below w.heap.size w w' := by
  have h := implFarthestLeave_any s.data.toList w
  rw [tb_of] at h; exact h
theorem implOnce_text (s : ByteArray) (w : World) : Calls Try.prog 22 #[.string s] w fun e w' => e = .returned (.bool (onceB s.data.toList)) ∧ Below w.heap.size w w' := by
  have h := implEachOnce_any s.data.toList w
  rw [tb_of] at h; exact h
theorem implNumber_text (s : ByteArray) (w : World) : Calls Try.prog 24 #[.string s] w fun e w' => e = .returned (.bool (numB s.data.toList)) ∧ Below w.heap.size w w' := by
  have h := implUsesNumber_any s.data.toList w
  rw [tb_of] at h; exact h
theorem implBlocks_text (s : ByteArray) (w : World) : Calls Try.prog 16 #[.string s] w fun e w' => e = .returned (.tuple #[.string (tb (blocksV s.data.toList)), .bool (textB s.data.toList)]) ∧ Below w.heap.size w w' := by
  have h := implBlocksIn_any s.data.toList w
  unfold BlocksPost at h
  rw [tb_of] at h; exact h
theorem implItems_text (s t : ByteArray) (w : World) : Calls Try.prog 20 #[.string s, .string t] w fun e w' => e = .returned (.int .i64 (countZ s.data.toList t.data.toList)) ∧ Below w.heap.size w w' := by
  have h := implCountItems_any s.data.toList t.data.toList w
  rw [tb_of, tb_of] at h; exact h
theorem specFrames_text (s : ByteArray) (w : World) (hs : s.size ≤ 1048576) : Calls Try.prog 28 #[.string s] w fun e w' => e = .returned (.int .i64 (framesZ s.data.toList)) ∧ Below w.heap.size w w' := by
  have h := specFramesIn_any s.data.toList w (by simpa using hs)
  rw [tb_of] at h; exact h
theorem specLeaves_text (s : ByteArray) (w : World) (hs : s.size ≤ 1048576) : Calls Try.prog 17 #[.string s] w fun e w' => e = .returned (.int .i64 (countZ s.data.toList [94])) ∧ Below w.heap.size w w' := by
  have h := specCountLeaves_any s.data.toList w (by simpa using hs)
  rw [tb_of] at h; exact h
theorem specFar_text (s : ByteArray) (w : World) (hs : s.size ≤ 1048576) : Calls Try.prog 29 #[.string s] w fun e w' => e = .returned (.int .i64 (farZ s.data.toList)) ∧ Below w.heap.size w w' := by
  have h := specFarthestLeave_any s.data.toList w (by simpa using hs)
  rw [tb_of] at h; exact h
theorem specOnce_text (s : ByteArray) (w : World) (hs : s.size ≤ 1048576) : Calls Try.prog 21 #[.string s] w fun e w' => e = .returned (.bool (onceB s.data.toList)) ∧ Below w.heap.size w w' := by
  have h := specEachOnce_any s.data.toList w (by simpa using hs)
  rw [tb_of] at h; exact h
theorem specNumber_text (s : ByteArray) (w : World) (hs : s.size ≤ 1048576) : Calls Try.prog 23 #[.string s] w fun e w' => e = .returned (.bool (numB s.data.toList)) ∧ Below w.heap.size w w' := by
  have h := specUsesNumber_any s.data.toList w (by simpa using hs)
  rw [tb_of] at h; exact h
theorem specBlocks_text (s : ByteArray) (w : World) (hs : s.size ≤ 1048576) : Calls Try.prog 15 #[.string s] w fun e w' => e = .returned (.tuple #[.string (tb (blocksV s.data.toList)), .bool (textB s.data.toList)]) ∧ Below w.heap.size w w' := by
  have h := specBlocksIn_any s.data.toList w (by simpa using hs)
  unfold BlocksPost at h
  rw [tb_of] at h; exact h
theorem specItems_text (s t : ByteArray) (w : World) (hs : s.size ≤ 1048576) (ht : t.size ≤ 1048576) : Calls Try.prog 19 #[.string s, .string t] w fun e w' => e = .returned (.int .i64 (countZ s.data.toList t.data.toList)) ∧ Below w.heap.size w w' := by
  have h := specCountItems_any s.data.toList t.data.toList w (by simpa using hs) (by simpa using ht)
  rw [tb_of, tb_of] at h; exact h

theorem data_app (s t : ByteArray) : (s ++ t).data.toList = s.data.toList ++ t.data.toList := by rw [ByteArray.data_append, Array.toList_append]
theorem textB_ok {s : List UInt8} {l : List It} (h : textOk s l) : textB s = true := textB_yes ⟨l, h⟩
theorem onceB_get {s : List UInt8} (h : onceB s = true) : (∃ l, textOk s l) ∧ (blocksV s).Nodup := by
  unfold onceB at h
  rw [Bool.and_eq_true] at h
  exact ⟨textB_get h.1, of_decide_eq_true h.2⟩
theorem text_app {s t : List UInt8} {l k : List It} (h : textOk s l) (h' : textOk t k) (hn : (s ++ t).length ≤ 200) : textOk (s ++ t) (l ++ k) :=
  ⟨hn, (okL_append l k 0).2 ⟨h.2.1, h'.2.1⟩, by rw [txL_append, ← h.2.2, ← h'.2.2]⟩
theorem letters_few {l : List UInt8} (hn : l.Nodup) (hl : ∀ c ∈ l, letB c = true) : l.length ≤ 26 := by
  have h := List.Nodup.length_le_of_subset (l₁ := l) (l₂ := (List.range 26).map fun k => UInt8.ofNat (65 + k)) hn (fun c hc => by
    have h1 := hl c hc
    unfold letB at h1
    rw [Bool.and_eq_true, decide_eq_true_eq, decide_eq_true_eq] at h1
    refine List.mem_map.2 ⟨c.toNat - 65, List.mem_range.2 (by omega), ?_⟩
    apply UInt8.toNat_inj.1
    rw [UInt8.toNat_ofNat']
    omega)
  simpa using h
theorem names_none {nm : List UInt8} (hn : nm.Nodup) {i : Nat} (hi : i < nm.length) : hasB ((tb nm).extract (i + 1) nm.length) ((tb nm).extract i (i + 1)) = false := by
  refine hasB_no fun j hj e => ?_
  rw [tb_rest, tb_size, List.length_drop] at hj
  rw [tb_rest, tb_one nm i hi, tb_one _ j (by rw [List.length_drop]; omega)] at e
  have e2 : (nm.drop (i + 1))[j]'(by rw [List.length_drop]; omega) = nm[i] := by
    have := congrArg (fun b : ByteArray => b.data.toList) e
    simpa [tb] using this
  exact dup_fwd hi (by rw [← e2]; exact List.getElem_mem _) hn
end Go.Proofs.Ytelhogeaobofpaa
