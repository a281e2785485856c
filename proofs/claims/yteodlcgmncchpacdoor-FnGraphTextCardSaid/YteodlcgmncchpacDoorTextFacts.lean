/-
  The text of a valid graph, cut and read again: plain facts.
-/
import Derived.Test.YteodlcgmncchpacDoorSpecParse
namespace Go.Proofs.YteodlcgmncchpacDoor
open Go.RowKit Go.Sort

theorem letter_no {c : UInt8} (h : letB c = true) : c ≠ 44 := by
  rintro rfl
  exact absurd h (by decide)

theorem part_toList (b : Bl) : (part b).data.toList = b.1.data.toList ++ (mark b.2).data.toList ++ b.2.data.toList := by
  unfold part; rw [ba_append_toList, ba_append_toList]

theorem next_letter {g : List Bl} (hv : validB g = true) {b : Bl} (hb : b ∈ g) {c : UInt8} (hc : c ∈ b.2.data.toList) : letB c = true := by
  obtain ⟨k, hk, rfl⟩ := List.getElem_of_mem hb
  obtain ⟨j, hj, he⟩ := List.getElem_of_mem hc
  have hj' : j < g[k].2.size := by rw [Array.length_toList] at hj; exact hj
  obtain ⟨t, ht, _, hn⟩ := posOf_valid hv hk hj'
  have h1 := byte_at g[k].2 j hj'
  rw [List.getElem?_eq_getElem hj, he] at h1
  obtain ⟨d, hd, hl⟩ := valid_one hv (List.getElem_mem ht)
  rw [hn] at hd
  have : d = c := by
    have h2 : g[k].2[j]'hj' = d := by injection hd with h; simpa using h
    rw [← h2]; exact (Option.some.inj h1).symm
  rw [← this]; exact hl

theorem part_clean {g : List Bl} (hv : validB g = true) {b : Bl} (hb : b ∈ g) : ∀ c ∈ (part b).data.toList, c ≠ 44 := by
  intro c hc
  rw [part_toList] at hc
  rcases List.mem_append.1 hc with hc | hc
  · rcases List.mem_append.1 hc with hc | hc
    · obtain ⟨d, hd, hl⟩ := valid_one hv hb
      rw [hd] at hc
      have : c = d := by simpa using hc
      rw [this]; exact letter_no hl
    · unfold mark at hc
      split at hc
      · have : c = 62 := by simpa using hc
        rw [this]; decide
      · split at hc
        · have : c = 63 := by simpa using hc
          rw [this]; decide
        · have : c = 46 := by simpa using hc
          rw [this]; decide
  · exact letter_no (next_letter hv hb hc)

theorem cut_tail : ∀ (ls : List (List UInt8)) (x : List UInt8), (∀ l ∈ x :: ls, ∀ c ∈ l, c ≠ 44) → cutL 44 (x ++ Lib.joinTail [44] ls) = x :: ls
  | [], x, h => by
    have : Lib.joinTail [44] ([] : List (List UInt8)) = [] := rfl
    rw [this, List.append_nil]
    exact cutL_no (h x (by simp))
  | y :: ls, x, h => by
    have e : x ++ Lib.joinTail [44] (y :: ls) = x ++ 44 :: (y ++ Lib.joinTail [44] ls) := by simp [Lib.joinTail]
    rw [e, cutL_at (h x (by simp)), cut_tail ls y fun l hl => h l (List.mem_cons_of_mem _ hl)]

theorem pieces_fmt {g : List Bl} (hv : validB g = true) : pieces 44 (fmtG g) = g.map part := by
  unfold pieces
  rw [fmtG_toList]
  have h1 := (valid_iff.1 hv).1
  have hf : ∀ b ∈ g, ∀ c ∈ (part b).data.toList, c ≠ 44 := fun b hb => part_clean hv hb
  clear hv
  cases g with
  | nil => simp at h1
  | cons b r =>
    rw [List.map_cons, Lib.join_cons, cut_tail]
    · rw [List.map_cons, List.map_cons, List.map_map]
      have e : ∀ d : Bl, mk (part d).data.toList = part d := fun d => ba_ext (by simp [mk])
      rw [e]
      exact congrArg (part b :: ·) (List.map_congr_left fun d _ => e d)
    · intro l hl
      rcases List.mem_cons.1 hl with rfl | hl
      · exact hf b (by simp)
      · obtain ⟨d, hd, rfl⟩ := List.mem_map.1 hl
        exact hf d (List.mem_cons_of_mem _ hd)

theorem blkOf_part {b : Bl} (h : b.1.size = 1) : blkOf (part b) = b := by
  have h1 : b.1.data.toList.length = 1 := by rw [Array.length_toList]; exact h
  have hm : (mark b.2).data.toList.length = 1 := by rw [Array.length_toList]; exact mark_size b.2
  have hp := part_toList b
  have hs : (part b).size = 1 + 1 + b.2.size := by rw [part_size, h]
  have hl2 : b.2.data.toList.length = b.2.size := by rw [Array.length_toList]; rfl
  obtain ⟨c, hc⟩ := List.length_eq_one_iff.1 h1
  obtain ⟨m, hmm⟩ := List.length_eq_one_iff.1 hm
  unfold blkOf
  refine Prod.ext (ba_ext ?_) (ba_ext ?_)
  · rw [ex_toList, hp, hc, hmm]; simp
  · rw [ex_toList, hp, hc, hmm, hs]
    simp
    rw [List.take_of_length_le (by omega)]

theorem parse_fmt {g : List Bl} (hv : validB g = true) : parseOk (fmtG g) = true ∧ parseVal (fmtG g) = g := by
  have h1 : ∀ b ∈ g, b.1.size = 1 := fun b hb => by
    obtain ⟨c, hc, _⟩ := valid_one hv hb
    rw [hc]; rfl
  have hp : parsed (fmtG g) = g := by
    unfold parsed
    rw [pieces_fmt hv, List.map_map]
    conv => rhs; rw [← List.map_id g]
    exact List.map_congr_left fun b hb => blkOf_part (h1 b hb)
  have hlong : longB (pieces 44 (fmtG g)) = true := by
    rw [pieces_fmt hv]
    unfold longB
    rw [List.all_eq_true]
    intro p hpm
    obtain ⟨b, hb, rfl⟩ := List.mem_map.1 hpm
    have := h1 b hb
    simp [part_size]; omega
  have hok : parseOk (fmtG g) = true := by
    unfold parseOk
    rw [hlong, hp, fmtVal_yes hv]; simp
  refine ⟨hok, ?_⟩
  unfold parseVal
  rw [hok]
  exact hp

theorem parse_empty : parseOk ⟨#[]⟩ = false := by kernel_rfl

theorem parse_val (g : List Bl) : parseOk (fmtVal g) = validB g := by
  cases hv : validB g with
  | true => rw [fmtVal_yes hv, (parse_fmt hv).1]
  | false => rw [fmtVal_no hv, parse_empty]

theorem parse_back {g : List Bl} (hv : validB g = true) : parseVal (fmtVal g) = g := by rw [fmtVal_yes hv, (parse_fmt hv).2]

theorem fmt_parse {s : ByteArray} (h : parseOk s = true) : fmtVal (parseVal s) = s := by
  unfold parseVal
  rw [h]
  unfold parseOk at h
  have := (Bool.and_eq_true_iff.1 h).2
  simpa using this
end Go.Proofs.YteodlcgmncchpacDoor
