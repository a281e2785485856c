/-
  All short choices, the shorter ones first: the list as both make it, place by place; plain facts.
-/
import Derived.Test.YtgkamcnbpiipoaaGreatBase
import Derived.Test.YtgkamcnbpiipoaaGreatStrs
import Derived.Test.YtgkamcnbpiipoaaGreatReader
import Derived.Deep.AppendLies
import Derived.Deep.RegionLaw
import Derived.IntWalk
import Derived.WalkKit
import Derived.OwnWalk
namespace Go.Proofs.YtgkamcnbpiipoaaGreat

/-- What has been made when the first k have been looked at. -/
def bq (n : Nat) : Nat → List (List UInt8)
  | 0 => [[]]
  | k + 1 => match (bq n k)[k]? with
    | some x => if x.length < n then bq n k ++ [x ++ [108], x ++ [114]] else bq n k
    | none => bq n k
def shortL (n : Nat) : List (List UInt8) := bq n 127

theorem bq_more {n k : Nat} (h : k < (bq n k).length) (hs : (bq n k)[k].length < n) : bq n (k + 1) = bq n k ++ [(bq n k)[k] ++ [108], (bq n k)[k] ++ [114]] := by
  rw [bq, List.getElem?_eq_getElem h]
  simp only
  rw [if_pos hs]
theorem bq_same {n k : Nat} (h : k < (bq n k).length) (hs : ¬ (bq n k)[k].length < n) : bq n (k + 1) = bq n k := by
  rw [bq, List.getElem?_eq_getElem h]
  simp only
  rw [if_neg hs]
theorem bq_stay {n k : Nat} (h : ¬ k < (bq n k).length) : bq n (k + 1) = bq n k := by
  rw [bq, List.getElem?_eq_none (by omega)]
theorem bq_pre (n k : Nat) : bq n k <+: bq n (k + 1) := by
  by_cases h : k < (bq n k).length
  · by_cases hs : (bq n k)[k].length < n
    · rw [bq_more h hs]; exact List.prefix_append _ _
    · rw [bq_same h hs]; exact List.prefix_refl _
  · rw [bq_stay h]; exact List.prefix_refl _
theorem bq_pre_add (n k : Nat) : ∀ m, bq n k <+: bq n (k + m)
  | 0 => List.prefix_refl _
  | m + 1 => (bq_pre_add n k m).trans (bq_pre n (k + m))
theorem bq_pre_le {n j k : Nat} (h : j ≤ k) : bq n j <+: bq n k := by
  obtain ⟨m, rfl⟩ := Nat.le.dest h
  exact bq_pre_add n j m
theorem bq_done {n k : Nat} (h : ¬ k < (bq n k).length) : ∀ m, bq n (k + m) = bq n k
  | 0 => rfl
  | m + 1 => by
    have ih := bq_done h m
    rw [← Nat.add_assoc, bq_stay (by rw [ih]; omega), ih]
theorem shortL_len {n : Nat} (hn : n ≤ 6) : (shortL n).length ≤ 127 := by
  have : n = 0 ∨ n = 1 ∨ n = 2 ∨ n = 3 ∨ n = 4 ∨ n = 5 ∨ n = 6 := by omega
  rcases this with rfl | rfl | rfl | rfl | rfl | rfl | rfl <;> decide +kernel
theorem bq_len {n k : Nat} (hn : n ≤ 6) (hk : k ≤ 127) : (bq n k).length ≤ 127 := Nat.le_trans (bq_pre_le hk).length_le (shortL_len hn)
theorem bq_end {n k : Nat} (hk : k ≤ 127) (h : ¬ k < (bq n k).length) : bq n k = shortL n := by
  obtain ⟨m, hm⟩ := Nat.le.dest hk
  unfold shortL
  rw [← hm, bq_done h m]
theorem bq_size (n : Nat) : ∀ k, ∀ x ∈ bq n k, x.length ≤ n
  | 0, x, hx => by
    rw [bq, List.mem_singleton] at hx
    rw [hx]; exact Nat.zero_le _
  | k + 1, x, hx => by
    by_cases h : k < (bq n k).length
    · by_cases hs : (bq n k)[k].length < n
      · rw [bq_more h hs, List.mem_append] at hx
        rcases hx with hx | hx
        · exact bq_size n k x hx
        · simp only [List.mem_cons, List.not_mem_nil, or_false] at hx
          rcases hx with rfl | rfl <;> simp <;> omega
      · rw [bq_same h hs] at hx; exact bq_size n k x hx
    · rw [bq_stay h] at hx; exact bq_size n k x hx
theorem bq_take {n k : Nat} (hk : k < 127) (h : k < (bq n k).length) : (bq n k).take k ++ [(bq n k)[k]] <+: shortL n := by
  have : (bq n k).take k ++ [(bq n k)[k]] = (bq n k).take (k + 1) := by rw [List.take_succ_eq_append_getElem h]
  rw [this]
  exact (List.take_prefix _ _).trans (bq_pre_le (by omega))
theorem bq_take' {n k : Nat} (h : k < (bq n k).length) : (bq n (k + 1)).take (k + 1) = (bq n k).take k ++ [(bq n k)[k]] := by
  have h1 := (List.prefix_iff_eq_take.1 (bq_pre n k))
  have : (bq n k).take k ++ [(bq n k)[k]] = (bq n k).take (k + 1) := by rw [List.take_succ_eq_append_getElem h]
  rw [this]
  rw [h1, List.take_take]
  congr 1
  have h2 : (bq n k).length = min (bq n k).length (bq n (k+1)).length := by have := (bq_pre n k).length_le; omega
  omega
end Go.Proofs.YtgkamcnbpiipoaaGreat

/-
  ShortChoices of the model.
-/
namespace Go.Proofs.YtgkamcnbpiipoaaGreat
open Go.RowKit Go.Sort

/-- A list of strings of the call's own, and whether there is one. -/
def ListS (ps : List ByteArray) (ok : Bool) (w : World) (e : Ending) (w' : World) : Prop :=
  ∃ v, e = .returned (.tuple #[v, .bool ok]) ∧ OwnStr w' w.heap.size v ps ∧ Below w.heap.size w w'
def shortB (n : Int) : Bool := decide (0 ≤ n) && decide (n ≤ 6)
def shortS (n : Int) : List ByteArray := if shortB n = true then (shortL n.toNat).map tb else []

theorem own_belowS {w w' : World} {base : Nat} {e : TypeId} {size : Nat} {v : Value} {n : Nat} {xs : List Value} (h : w.ownsRow base e size v n xs) (hb : Below w.heap.size w w') : w'.ownsRow base e size v n xs := by
  refine ⟨h.1, ?_⟩
  rcases h.2 with hn | ⟨g, cap, cur, rfl, hb2, hg, rest⟩
  · exact .inl hn
  · refine .inr ⟨g, cap, cur, rfl, hb2, ?_, rest⟩
    have hlt : g < w.heap.size := by
      rcases Nat.lt_or_ge g w.heap.size with h' | h'
      · exact h'
      · rw [Array.getElem?_eq_none h'] at hg; cases hg
    exact (hb.block g hlt).trans hg
theorem own_builtS {w : World} (base : Nat) (hb : base ≤ w.heap.size) (ps : List ByteArray) (h : ps.length ≤ 1000) :
    OwnStr (w.alloc (.cells (ps.map Value.string).toArray 9)) base (.slice (some ⟨w.heap.size, 0, none⟩) ps.length ps.length) ps := by
  refine ⟨by simp, .inr ⟨w.heap.size, ps.length, _, rfl, hb, heap_alloc_new w _, Nat.le_refl _, by unfold maxLen; omega, by simp, ?_⟩⟩
  rw [Nat.mul_one]
  exact List.take_of_length_le (by simp)
theorem tb_l (x : List UInt8) : tb x ++ ⟨#[108]⟩ = tb (x ++ [108]) := by apply ba_ext; rw [ByteArray.data_append, Array.toList_append, tb_data, tb_data]
theorem tb_r (x : List UInt8) : tb x ++ ⟨#[114]⟩ = tb (x ++ [114]) := by apply ba_ext; rw [ByteArray.data_append, Array.toList_append, tb_data, tb_data]
theorem own_cellS {w : World} {base : Nat} {g c : Nat} {ps : List ByteArray} (h : OwnStr w base (.slice (some ⟨g, 0, none⟩) ps.length c) ps) {k : Nat} (hk : k < ps.length) : w.cell? ⟨g, k, none⟩ = some (.string ps[k]) := by
  have hc := World.ownsRow.cellAt h k (by omega)
  rw [List.getElem?_map, List.getElem?_eq_getElem hk] at hc
  exact hc

set_option maxRecDepth 100000 in
set_option maxHeartbeats 1600000 in
theorem l6Short_any (n : Nat) (w : World) (hn : n ≤ 6) :
    Calls Tryz.prog 23 #[.int .i64 n] w fun e w' => ∃ v, e = .returned v ∧ OwnStr w' w.heap.size v ((shortL n).map tb) ∧ Below w.heap.size w w' := by
  obtain ⟨i0, hi, hz0, hz1, hz2⟩ := info_parts info_str
  have H0 := Lib.hid (own_builtS (w := w) w.heap.size (Nat.le_refl _) [tb []] (by decide))
  have HB0 := Lib.hid ((Below.refl w.heap.size w).alloc (Nat.le_refl _) (.cells #[.string ⟨#[]⟩] 9))
  go_enter Tryz.func23, Tryz.ntmps23
  go_wp2_with fail
  go_loopg [3, 4] 127 (fun gk ov iv wr => ∃ k g c : Nat, gk = 127 - k ∧ k ≤ 127 ∧ k ≤ (bq n k).length ∧ iv = .int .i64 k ∧ ov = .slice (some ⟨g, 0, none⟩) (bq n k).length c ∧ Hid (OwnStr wr w.heap.size (.slice (some ⟨g, 0, none⟩) (bq n k).length c) ((bq n k).map tb)) ∧ Hid (Below w.heap.size w wr))
  case atStart => exact ⟨0, _, 1, rfl, by omega, Nat.zero_le _, rfl, rfl, H0.out, HB0.out⟩
  case round =>
    obtain ⟨k, g, c, rfl, hk, hkl, rfl, rfl, HOWN, HB⟩ := hrel
    have hlen := bq_len hn hk
    by_cases hlt : k < (bq n k).length
    · have hk1 : k < 127 := by omega
      obtain ⟨x, hx⟩ : ∃ x, x = (bq n k)[k] := ⟨_, rfl⟩
      have hxs : x.length ≤ 6 := by
        rw [hx]; exact Nat.le_trans (bq_size n k _ (List.getElem_mem hlt)) hn
      have c0 : wr.cell? ⟨g, k, none⟩ = some (.string (tb x)) := by
        have hl0 : ((bq n k).map tb).length = (bq n k).length := List.length_map _
        have := own_cellS (ps := (bq n k).map tb) (c := c) (by rw [hl0]; exact HOWN.out) (k := k) (by simpa using hlt)
        rw [List.getElem_map, ← hx] at this
        exact this
      have hz : (tb x).size = x.length := tb_size x
      have HX := Lib.hid hx
      by_cases hs : x.length < n
      · have HM := Lib.hid (bq_more hlt (by rw [← hx]; exact hs))
        rw [← hx] at HM
        have hl2 : (bq n k ++ [x ++ [108], x ++ [114]]).length = (bq n k).length + 2 := by simp
        have HL2 := Lib.hid hl2
        clear hx hl2
        obtain ⟨m, hm⟩ : ∃ m, m = (bq n k).length := ⟨_, rfl⟩
        have hmm : ((bq n k).map tb).length = m := by rw [List.length_map, hm]
        have HOWN2 : Hid (wr.ownsRow w.heap.size 9 1 (.slice (some ⟨g, 0, none⟩) m c) m (((bq n k).map tb).map Value.string)) := by
          have := HOWN.out
          unfold OwnStr at this
          rw [hmm, ← hm] at this
          exact this
        rw [← hm] at hlt hlen hkl ⊢
        have HMM := Lib.hid hmm
        have HMD := Lib.hid hm
        have hszq := HB.out.size
        have hmlt : m + 2 ≤ 1000 := by omega
        have hcat : ¬ 9223372036854775807 < x.length + 1 := by omega
        clear hm hmm HOWN
        go_wp2_with fail
        go_region_law ((refine step_append_lies _ (by rfl) _ _ _ (by rfl) w.heap.size 9 i0 _ 1 16 Tryz.underlying51 hi hz0 hz1 hz2 rfl (by omega) _ _ _ (by rfl) ((HOWN2.out.alloc _).drew) ⟨wr.heap.size, 0, none⟩ 2 2 [.string (tb x ++ ⟨#[108]⟩), .string (tb x ++ ⟨#[114]⟩)] (by rfl) (by rfl) (World.news_of_block (cs := #[.string (tb x ++ ⟨#[108]⟩), .string (tb x ++ ⟨#[114]⟩)]) (t := 9) (fr := (0, 0)) (heap_alloc_new wr _)) (by simp [Value.oneCell']) (by omega) (by unfold maxLen; omega) (by omega) (by simp; omega) (wr.heap.size + 1) (by simp) ?_; intro gg capg w5 hown5 hgrow hat hltg))
        all_goals
          have hsz := ((HOWN2.out.alloc (.cells #[.string (tb x ++ ⟨#[108]⟩), .string (tb x ++ ⟨#[114]⟩)] 9)).drew).lt
          have hB5 := ((HB.out.alloc hszq (.cells #[.string (tb x ++ ⟨#[108]⟩), .string (tb x ++ ⟨#[114]⟩)] 9)).drew).grown hgrow (by simp; omega) (fun j hj => (hsz j hj).1)
          have HB5 := Lib.hid hB5
          have HO5 : Hid (OwnStr w5 w.heap.size (.slice (some ⟨gg, 0, none⟩) (bq n (k + 1)).length capg) ((bq n (k + 1)).map tb)) := by
            show w5.ownsRow w.heap.size 9 1 _ ((bq n (k + 1)).map tb).length (((bq n (k + 1)).map tb).map Value.string)
            rw [HM.out, List.length_map, HL2.out, ← HMD.out, List.map_append, List.map_append]
            rw [tb_l, tb_r] at hown5
            exact hown5
          have HL3 := Lib.hid (show (bq n (k + 1)).length = m + 2 by rw [HM.out, HL2.out, HMD.out])
          clear hown5 hsz hgrow hat hB5
          go_wp2_with fail
          go_roundg (127 - (k + 1))
          case measure => omega
          case rel => exact ⟨k + 1, gg, capg, rfl, by omega, by rw [HL3.out]; omega, by go_num, by rw [HL3.out], HO5.out, HB5.out⟩
      · have HM := Lib.hid (bq_same hlt (by rw [← hx]; exact hs))
        clear hx
        go_wp2_with fail
        go_roundg (127 - (k + 1))
        case measure => omega
        case rel => exact ⟨k + 1, g, c, rfl, by omega, by rw [HM.out]; omega, by go_num, by rw [HM.out], by rw [HM.out]; exact HOWN.out, HB.out⟩
    · have HE := Lib.hid (bq_end hk hlt)
      have HO6 : Hid (OwnStr wr w.heap.size (.slice (some ⟨g, 0, none⟩) (bq n k).length c) ((shortL n).map tb)) := by
        rw [← HE.out]; exact HOWN.out
      go_wp2_with fail
      go_ret
      exact ⟨_, rfl, HO6.out, HB.out⟩

end Go.Proofs.YtgkamcnbpiipoaaGreat
