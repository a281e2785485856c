/-
  strings.Split at a comma, and the program's ParseGraph.
-/
import Derived.Test.YteodlcgmncchpacDoorSpecParse
import Derived.Test.YteodlcgmncchpacDoorShelf
import Derived.Lib.SplitLaws
import Derived.Lib.IndexBytes
import Derived.Shelf.Strings.SplitCore
namespace Go.Proofs.YteodlcgmncchpacDoor
open Go.RowKit Go.Sort

theorem splitK_cut (c : UInt8) : ∀ (k : Nat) (l : List UInt8), l.count c = k → Lib.splitK [c] 0 k l = cutL c l
  | 0, l, h => by
    rw [cutL_no fun x hx e => by subst e; have := List.count_pos_iff.2 hx; omega]
    rfl
  | k + 1, l, h => by
    have hm : c ∈ l := List.count_pos_iff.1 (by omega)
    obtain ⟨a, r, rfl, ha⟩ := List.eq_append_cons_of_mem hm
    have hi : Lib.index (a ++ c :: r) [c] = a.length := by
      rw [Lib.index_one]
      refine idx_found (fun j hj e => ?_) (by simp)
      rw [List.getElem?_append_left hj] at e
      exact ha (List.mem_of_getElem? e)
    have hc : r.count c = k := by
      rw [List.count_append, List.count_cons_self, List.count_eq_zero.2 ha] at h
      omega
    have ih := splitK_cut c k r hc
    have hcut := cutL_at (c := c) (l := a) (r := r) fun x hx e => ha (by rw [← e]; exact hx)
    rw [hcut]
    unfold Lib.splitK
    rw [hi]
    have hne : ((a.length : Int) == -1) = false := by simp
    rw [hne]
    simp only [Bool.false_eq_true, if_false, Int.toNat_natCast, Nat.add_zero, List.length_cons, List.length_nil, List.take_left']
    rw [show a.length + (0 + 1) = a.length + 1 from rfl, show (a ++ c :: r).drop (a.length + 1) = r by simp, ih]

theorem count_comma (s : ByteArray) (c : UInt8) : Lib.countB s ⟨#[c]⟩ = s.data.toList.count c := by
  show Lib.count s.data.toList [c] = _
  rw [Lib.count_one]

theorem split_pieces (c : UInt8) (s : ByteArray) : Lib.splitB ⟨#[c]⟩ 0 (Lib.countB s ⟨#[c]⟩) s = pieces c s := by
  have h := Lib.splitB_data ⟨#[c]⟩ 0 (Lib.countB s ⟨#[c]⟩) s
  have h2 : Lib.splitK [c] 0 (Lib.countB s ⟨#[c]⟩) s.data.toList = cutL c s.data.toList := splitK_cut c _ _ (count_comma s c).symm
  have h3 : (Lib.splitB ⟨#[c]⟩ 0 (Lib.countB s ⟨#[c]⟩) s).map (fun x => x.data.toList) = cutL c s.data.toList := h.trans h2
  unfold pieces
  rw [← h3, List.map_map]
  conv => lhs; rw [← List.map_id (Lib.splitB ⟨#[c]⟩ 0 (Lib.countB s ⟨#[c]⟩) s)]
  exact List.map_congr_left fun x _ => ba_ext (by simp [mk])

set_option maxRecDepth 100000 in
theorem split_any (s : ByteArray) (w : World) (hs : s.size ≤ 1048576) :
    Calls Tryd.prog 24 #[.string s, .string ⟨#[44]⟩] w (CutPost 44 s w) := by
  have h1 : 1 ≤ (⟨#[44]⟩ : ByteArray).size := by decide
  have hle := Lib.countB_le ⟨#[44]⟩ h1 s.size s (Nat.le_refl _)
  have hlen := Lib.splitB_all ⟨#[44]⟩ h1 0 _ s rfl
  have hpl : (pieces 44 s).length = Lib.countB s ⟨#[44]⟩ + 1 := by rw [← split_pieces]; exact hlen
  have c := Any.strings_genSplit_core Tryd.lays221 (by kernel_rfl) s ⟨#[44]⟩ 0 (-1) (Lib.countB s ⟨#[44]⟩ + 1) w (by omega) h1 (Nat.zero_le _)
    (fun x c _ => (Tryd.strings_Index_one x 44 _).mono fun e w' h => ⟨by rw [h.1]; show _ = Ending.returned (Value.int .i64 (Lib.index x.data.toList [44])); rw [Lib.index_one], h.2⟩)
    ((Tryd.strings_Count_one s 44 w).mono fun e w' h => ⟨by rw [h.1]; show _ = Ending.returned (Value.int .i64 ((Lib.count s.data.toList [44] : Nat) : Int)); rw [Lib.count_one]; rfl, h.2⟩)
    (by decide) (by decide) (by rw [if_pos (by decide)]; omega)
  rw [Nat.add_sub_cancel, hlen] at c
  have e2 : Lib.cellsOf (Lib.splitB ⟨#[44]⟩ 0 (Lib.countB s ⟨#[44]⟩) s) (Lib.countB s ⟨#[44]⟩ + 1) = ((pieces 44 s).map Value.string).toArray := by rw [← hlen, split_pieces]; exact Lib.cellsOf_full _
  rw [e2, ← hpl] at c
  have hm : (pieces 44 s).length ≤ maxLen := by unfold maxLen; omega
  have hO : OwnStr (w.alloc (.cells ((pieces 44 s).map Value.string).toArray 9)) w.heap.size (.slice (some ⟨w.heap.size, 0, none⟩) (pieces 44 s).length (pieces 44 s).length) (pieces 44 s) := by
    exact ⟨by simp, .inr ⟨w.heap.size, (pieces 44 s).length, _, rfl, Nat.le_refl _, heap_alloc_new w _, Nat.le_refl _, hm, by simp, by
      rw [Nat.mul_one, List.toList_toArray]; exact List.take_of_length_le (by simp)⟩⟩
  have HC : Hid (Calls Tryd.prog 43 #[.string s, .string ⟨#[44]⟩, .int .i64 0, .int .i64 (-1)] w fun e w' => e = .returned (.slice (some ⟨w.heap.size, 0, none⟩) (pieces 44 s).length (pieces 44 s).length) ∧ w' = w.alloc (.cells ((pieces 44 s).map Value.string).toArray 9)) := Lib.hid c
  have HO := Lib.hid hO
  clear c e2 hlen hO hpl hle
  go_enter Tryd.func24, Tryd.ntmps24
  go_wp2_with fail
  refine HC.out.mono ?_
  rintro e w' ⟨rfl, rfl⟩
  go_wp2_with fail
  go_ret
  exact ⟨_, _, rfl, HO.out, (Below.refl _ _).alloc (Nat.le_refl _) _⟩

set_option maxHeartbeats 1600000 in
set_option maxRecDepth 100000 in
theorem implParse_any (s : ByteArray) (w : World) (hs : s.size ≤ 1048576) :
    Calls Tryd.prog 7 #[.string s] w (ParsePost s w) := by
  obtain ⟨i0, hi, hz0, hz1, hz2⟩ := info_parts info_block
  have HPL := Lib.hid (pieces_lens 44 s)
  have HC : Hid (∀ w, Calls Tryd.prog 24 #[.string s, .string ⟨#[44]⟩] w (CutPost 44 s w)) := fun w => split_any s w hs
  go_enter Tryd.func7, Tryd.ntmps7
  go_wp2_with fail
  have HO0 := Lib.hid (World.ownsRow_nil w w.heap.size 52 2)
  refine (HC.out _).mono ?_
  rintro e w1 ⟨A, cap, rfl, hst, b1⟩
  have HST := Lib.hid hst
  have HO1 : Hid (OwnBl w1 w.heap.size (.slice none 0 0) []) := ownRow_below HO0.out b1
  have hB1 := b1
  have hlen : (pieces 44 s).length ≤ 1048577 := by have := HPL.out; omega
  clear hst
  go_wp2_with fail
  go_loopw [4, 10] (fun v i wr => ∃ k : Nat, k ≤ (pieces 44 s).length ∧ i = .int .i64 k ∧ OwnBl wr w.heap.size v (((pieces 44 s).take k).map blkOf) ∧ OwnStr wr w.heap.size (.slice A (pieces 44 s).length cap) (pieces 44 s) ∧ Hid (∀ j (h : j < (pieces 44 s).length), j < k → 2 ≤ (pieces 44 s)[j].size) ∧ Below w.heap.size w wr) (fun _ i _ => (pieces 44 s).length - (intOf i).toNat)
  case atStart => exact ⟨0, Nat.zero_le _, rfl, HO1.out, HST.out, fun j _ h => absurd h (by omega), hB1⟩
  case round =>
    obtain ⟨k, hk, rfl, hown, hstr, HK, hB⟩ := hrel
    by_cases hlt : k < (pieces 44 s).length
    · obtain ⟨b, off, rfl, hb, hc⟩ := hstr.strs (by omega)
      have x0 := hc k hlt
      obtain ⟨p, hp⟩ : ∃ p, p = (pieces 44 s)[k] := ⟨_, rfl⟩
      rw [← hp] at x0
      have HP := Lib.hid hp
      have HOWN := Lib.hid hown
      have HSTR := Lib.hid hstr
      have hBs := hB.size
      clear hp hc hown hstr
      by_cases hp2 : p.size < 2
      · have g1 : decide ((p.size : Int) < 2) = true := by simp; omega
        have HF := Lib.hid (show parseOk s = false by
          unfold parseOk
          have : longB (pieces 44 s) = false := Bool.eq_false_iff.2 fun e => by have := longB_iff.1 e k hlt; rw [← HP.out] at this; omega
          rw [this]; rfl)
        have HE := Lib.hid (show parseVal s = [] by unfold parseVal; rw [HF.out]; rfl)
        go_wp2_with fail
        refine bodyPost_ret (v := .tuple #[.slice none 0 0, .bool false]) (by simp [results, Tryd.results7, go_sem]) rfl ⟨.slice none 0 0, by rw [HF.out], ?_, hB⟩
        rw [HE.out]
        exact World.ownsRow_nil wr w.heap.size 52 2
      · have g1 : decide ((p.size : Int) < 2) = false := by simp; omega
        have l1 : 1 ≤ p.size := by omega
        have l2 : (1 : Int) ≤ p.size := by omega
        have l3 : (2 : Int) ≤ p.size := by omega
        have hlk : (((pieces 44 s).take k).map blkOf).length ≤ 1048577 := by simp; omega
        go_wp2_with fail
        go_region_law ((refine step_append_lies _ (by rfl) _ _ _ (by rfl) w.heap.size 52 i0 _ 2 32 Tryd.underlying23 hi hz0 hz1 hz2 rfl (by omega) _ _ _ (by rfl) ((HOWN.out.alloc _).drew) ⟨wr.heap.size, 0, none⟩ 1 1 [.string (p.extract 0 1), .string (p.extract 2 p.size)] (by rfl) (by rfl) (World.news_of_block (cs := #[.string (p.extract 0 1), .string (p.extract 2 p.size)]) (t := 52) (fr := (0, 0)) (heap_alloc_new wr _)) (by simp [Value.oneCell']) (by omega) (by unfold maxLen; omega) (by omega) (by simp; omega) (wr.heap.size + 1) (by simp) ?_; intro gg capg w5 hown5 hgrow hat hltg))
        have hsz := ((HOWN.out.alloc (.cells #[.string (p.extract 0 1), .string (p.extract 2 p.size)] 52)).drew).lt
        have hB5 := ((hB.alloc hBs (.cells #[.string (p.extract 0 1), .string (p.extract 2 p.size)] 52)).drew).grown hgrow (by simp; omega) (fun j hj => (hsz j hj).1)
        have hS5 : OwnStr w5 w.heap.size (.slice (some ⟨b, off, none⟩) (pieces 44 s).length cap) (pieces 44 s) :=
          ((HSTR.out.alloc (.cells #[.string (p.extract 0 1), .string (p.extract 2 p.size)] 52)).drew).kept hgrow (owns_ne (((HSTR.out.alloc (.cells #[.string (p.extract 0 1), .string (p.extract 2 p.size)] 52)).drew)) (((HOWN.out.alloc (.cells #[.string (p.extract 0 1), .string (p.extract 2 p.size)] 52)).drew)) (by decide))
        have HS5 := Lib.hid hS5
        have hkl : (((pieces 44 s).take k).map blkOf).length = k := by simp; omega
        have HO5 : Hid (OwnBl w5 w.heap.size (.slice (some ⟨gg, 0, none⟩) (k + 1) capg) (((pieces 44 s).take (k + 1)).map blkOf)) := by
          show w5.ownsRow w.heap.size 52 2 (.slice (some ⟨gg, 0, none⟩) (k + 1) capg) (((pieces 44 s).take (k + 1)).map blkOf).length (cells2 (((pieces 44 s).take (k + 1)).map blkOf))
          rw [parsed_take hlt, List.length_append, cells2_append, hkl, ← HP.out]
          rw [hkl] at hown5
          exact hown5
        clear hown5 hsz hgrow hat hkl hS5 hlk
        go_wp2_with fail
        go_roundw
        case rel =>
          refine ⟨k + 1, by omega, by go_num, HO5.out, HS5.out, fun j h hj => ?_, hB5⟩
          rcases Nat.lt_succ_iff_lt_or_eq.1 hj with hj | rfl
          · exact HK.out j h hj
          · rw [← HP.out]; omega
        case measure => simp [intOf]; omega
    · have hkk : k = (pieces 44 s).length := by omega
      have hlong : longB (pieces 44 s) = true := longB_iff.2 fun j h => HK.out j h (by omega)
      rw [hkk, List.take_length] at hown
      obtain ⟨A5, cap5, hv5, hc5, hg5⟩ := own_gr hown
      have htot : (parsed s).length + tot (parsed s) ≤ 1048576 := by
        have h1 : (parsed s).length + tot (parsed s) = lensOf (pieces 44 s) := tot_parsed hlong
        have h2 := HPL.out
        have h3 : 0 < (pieces 44 s).length ∨ (pieces 44 s).length = 0 := by omega
        have h4 : (pieces 44 s).length ≠ 0 := by
          intro e
          have := cutL_lens 44 s.data.toList
          have e2 : (cutL 44 s.data.toList).length = 0 := by simpa [pieces] using e
          rw [List.eq_nil_of_length_eq_zero e2] at this
          simp at this
        omega
      have hf := implFormat_any A5 cap5 (parsed s) wr hg5 htot
      have hpl : (parsed s).length = (pieces 44 s).length := by simp [parsed]
      rw [hpl] at hf
      rw [List.length_map] at hv5
      have HF := Lib.hid hf
      rw [hv5] at hown ⊢
      have HOWN := Lib.hid hown
      have HL := Lib.hid hlong
      have hBs := hB.size
      clear hf hv5 hown hlong hkk htot hpl
      by_cases he : fmtVal (parsed s) = s
      · have g1 : ((fmtVal (parsed s)).toList == s.toList) = true := beq_toList.2 he
        have HOK := Lib.hid (show parseOk s = true by unfold parseOk; rw [HL.out, he]; simp)
        have HV := Lib.hid (show parseVal s = parsed s by unfold parseVal; rw [HOK.out]; rfl)
        clear he
        go_wp2_with fail
        refine HF.out.mono ?_
        rintro e w6 ⟨rfl, b6⟩
        go_wp2_with fail
        refine bodyPost_ret (v := .tuple #[.slice A5 (pieces 44 s).length cap5, .bool true]) (by simp [results, Tryd.results7, go_sem]) rfl ⟨.slice A5 (pieces 44 s).length cap5, by rw [HOK.out], ?_, hB.trans (b6.mono hBs)⟩
        rw [HV.out]
        exact ownRow_below HOWN.out b6
      · have g1 : ((fmtVal (parsed s)).toList == s.toList) = false := Bool.eq_false_iff.2 fun e => he (beq_toList.1 e)
        have HOK := Lib.hid (show parseOk s = false by unfold parseOk; rw [HL.out]; simpa using he)
        have HV := Lib.hid (show parseVal s = [] by unfold parseVal; rw [HOK.out]; rfl)
        clear he
        go_wp2_with fail
        refine HF.out.mono ?_
        rintro e w6 ⟨rfl, b6⟩
        go_wp2_with fail
        have hs6 := b6.size
        refine bodyPost_ret (v := .tuple #[.slice none 0 0, .bool false]) (by simp [results, Tryd.results7, go_sem]) rfl ⟨.slice none 0 0, by rw [HOK.out], ?_, hB.trans (b6.mono hBs)⟩
        rw [HV.out]
        exact World.ownsRow_nil w6 w.heap.size 52 2
end Go.Proofs.YteodlcgmncchpacDoor
