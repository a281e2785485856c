/-
  Contract of the model's ParseGraph.
-/
import Derived.Test.YtimgkjlhahapnabCut
import Derived.Test.YtimgkjlhahapnabFormat
import Derived.Deep.AppendLies
import Derived.Deep.RegionLaw
namespace Go.Proofs.Ytimgkjlhahapnab
open Go.RowKit Go.Sort

def blkOf (p : ByteArray) : Bl := (p.extract 0 1, p.extract 2 p.size)

def longB (ps : List ByteArray) : Bool := ps.all fun p => decide (2 ≤ p.size)
def parsed (s : ByteArray) : List Bl := (pieces 44 s).map blkOf
def parseOk (s : ByteArray) : Bool := longB (pieces 44 s) && decide (fmtVal (parsed s) = s)
def parseVal (s : ByteArray) : List Bl := if parseOk s then parsed s else []

theorem longB_iff {ps : List ByteArray} : longB ps = true ↔ ∀ k (h : k < ps.length), 2 ≤ ps[k].size := by
  unfold longB
  rw [List.all_eq_true]
  constructor
  · intro h k hk; simpa using h _ (List.getElem_mem hk)
  · intro h p hp
    obtain ⟨k, hk, rfl⟩ := List.getElem_of_mem hp
    simpa using h k hk

/-- The lengths of the pieces. -/
def lensOf (ps : List ByteArray) : Nat := (ps.map ByteArray.size).sum

theorem cutL_lens (c : UInt8) : ∀ l : List UInt8, ((cutL c l).map List.length).sum + (cutL c l).length = l.length + 1
  | [] => rfl
  | b :: l => by
    have ih := cutL_lens c l
    by_cases hb : b = c
    · simp [cutL, hb]; omega
    · cases h : cutL c l with
      | nil => rw [h] at ih; simp at ih
      | cons p ps => rw [h] at ih; simp [cutL, hb, h] at ih ⊢; omega

theorem pieces_lens (c : UInt8) (s : ByteArray) : lensOf (pieces c s) + (pieces c s).length = s.size + 1 := by
  have h := cutL_lens c s.data.toList
  have e : lensOf (pieces c s) = ((cutL c s.data.toList).map List.length).sum := by
    unfold lensOf pieces
    rw [List.map_map]
    congr 1
  rw [e]
  have e2 : (pieces c s).length = (cutL c s.data.toList).length := by simp [pieces]
  have e3 : s.data.toList.length = s.size := by rw [Array.length_toList]; rfl
  omega

theorem blkOf_size (p : ByteArray) (h : 2 ≤ p.size) : (blkOf p).1.size + (blkOf p).2.size + 1 = p.size := by
  unfold blkOf
  simp only [ByteArray.size_extract]
  omega

theorem tot_parsed : ∀ {ps : List ByteArray}, longB ps = true → (ps.map blkOf).length + tot (ps.map blkOf) = lensOf ps
  | [], _ => rfl
  | p :: ps, h => by
    have h1 : decide (2 ≤ p.size) = true ∧ longB ps = true := by simpa [longB] using h
    have ih := tot_parsed h1.2
    have h2 := blkOf_size p (by simpa using h1.1)
    have e : lensOf (p :: ps) = p.size + lensOf ps := by simp [lensOf]
    rw [e]
    simp only [List.map_cons, List.length_cons, tot] at ih ⊢
    omega

/-- The cells of blocks. -/
def cells2 (g : List Bl) : List Value := g.flatMap fun b => [.string b.1, .string b.2]

theorem cells2_append (g h : List Bl) : cells2 (g ++ h) = cells2 g ++ cells2 h := by simp [cells2]
theorem cells2_length (g : List Bl) : (cells2 g).length = g.length * 2 := by
  induction g with
  | nil => rfl
  | cons b g ih => simp only [cells2, List.flatMap_cons, List.length_append, List.length_cons, List.length_nil] at ih ⊢; omega
theorem cells2_at : ∀ {g : List Bl} {k : Nat} (h : k < g.length), (cells2 g)[k * 2]? = some (.string g[k].1) ∧ (cells2 g)[k * 2 + 1]? = some (.string g[k].2)
  | b :: g, 0, _ => by simp [cells2]
  | b :: g, k + 1, h => by
    have ih := cells2_at (g := g) (k := k) (by simpa using h)
    have e : cells2 (b :: g) = .string b.1 :: .string b.2 :: cells2 g := rfl
    have e1 : (k + 1) * 2 = k * 2 + 1 + 1 := by omega
    rw [e, e1]
    simpa using ih

/-- A slice of the call's own that holds blocks. -/
abbrev OwnBl (w : World) (base : Nat) (v : Value) (g : List Bl) : Prop := w.ownsRow base 38 2 v g.length (cells2 g)

theorem own_gr {w : World} {base : Nat} {v : Value} {g : List Bl} (h : OwnBl w base v g) : ∃ A cap, v = .slice A g.length cap ∧ g.length ≤ cap ∧ Gr w A g := by
  rcases h.2 with ⟨rfl, hn⟩ | ⟨gb, cap, cur, hv, _, hg, hnc, _⟩
  · exact ⟨none, 0, by rw [hn], by omega, fun hpos => absurd hpos (by omega)⟩
  · subst hv
    refine ⟨_, _, rfl, hnc, fun _ => ⟨gb, 0, rfl, ?_, fun j hj => ?_⟩⟩
    · rcases Nat.lt_or_ge gb w.heap.size with h' | h'
      · exact h'
      · rw [Array.getElem?_eq_none h'] at hg; cases hg
    · have c0 := h.cellAt (j * 2) (by omega)
      have c1 := h.cellAt (j * 2 + 1) (by omega)
      rw [(cells2_at hj).1] at c0
      rw [(cells2_at hj).2] at c1
      rw [Nat.zero_add]
      exact ⟨c0, c1⟩

def ParsePost (s : ByteArray) (w : World) (e : Ending) (w' : World) : Prop :=
  ∃ v, e = .returned (.tuple #[v, .bool (parseOk s)]) ∧ OwnBl w' w.heap.size v (parseVal s) ∧ Below w.heap.size w w'

theorem parsed_take {s : ByteArray} {k : Nat} (h : k < (pieces 44 s).length) : ((pieces 44 s).take (k + 1)).map blkOf = ((pieces 44 s).take k).map blkOf ++ [blkOf (pieces 44 s)[k]] := by
  rw [List.take_succ_eq_append_getElem h, List.map_append]; rfl

set_option maxHeartbeats 1600000 in
set_option maxRecDepth 100000 in
theorem specParse_any (s : ByteArray) (w : World) (hs : s.size ≤ 1048576) :
    Calls Try.prog 99 #[.string s] w (ParsePost s w) := by
  obtain ⟨i0, hi, hz0, hz1, hz2⟩ := info_parts info_block
  have HPL := Lib.hid (pieces_lens 44 s)
  have HC : Hid (∀ w, Calls Try.prog 115 #[.string s, .int .u8 44] w (CutPost 44 s w)) := fun w => cut_any s 44 w hs
  go_enter Try.func99, Try.ntmps99
  go_wp2_with fail
  have HO0 := Lib.hid (World.ownsRow_made (base := w.heap.size) (e := 38) (size := 2) w #[] 0 (Nat.le_refl _) (Nat.zero_le _) rfl)
  refine (HC.out _).mono ?_
  rintro e w1 ⟨A, cap, rfl, hst, b1⟩
  have HST := Lib.hid hst
  have HO1 : Hid (OwnBl w1 w.heap.size (.slice (some ⟨w.heap.size, 0, none⟩) 0 0) []) := ownRow_below HO0.out b1
  have hB1 := (Below.refl w.heap.size w).alloc (Nat.le_refl _) (.cells #[] 38)
  have hB1 := below_trans_self hB1 b1
  have hlen : (pieces 44 s).length ≤ 1048577 := by have := HPL.out; omega
  clear hst
  go_wp2_with fail
  go_loopw [4, 11] (fun v i wr => ∃ k : Nat, k ≤ (pieces 44 s).length ∧ i = .int .i64 k ∧ OwnBl wr w.heap.size v (((pieces 44 s).take k).map blkOf) ∧ OwnStr wr (w.alloc (.cells #[] 38)).heap.size (.slice A (pieces 44 s).length cap) (pieces 44 s) ∧ Hid (∀ j (h : j < (pieces 44 s).length), j < k → 2 ≤ (pieces 44 s)[j].size) ∧ Below w.heap.size w wr) (fun _ i _ => (pieces 44 s).length - (intOf i).toNat)
  case atStart => exact ⟨0, Nat.zero_le _, rfl, HO1.out, HST.out, fun j _ h => absurd h (by omega), hB1⟩
  case round =>
    obtain ⟨k, hk, rfl, hown, hstr, HK, hB⟩ := hrel
    by_cases hlt : k < (pieces 44 s).length
    · obtain ⟨b, off, rfl, hb, hc⟩ := hstr.strs (by omega)
      have x0 := hc k hlt
      obtain ⟨p, hp⟩ : ∃ p, p = (pieces 44 s)[k] := ⟨_, rfl⟩
      rw [← hp] at x0
      have HP := Lib.hid hp
      have HOWN := Lib.hid hown
      have HSTR := Lib.hid hstr
      have hBs := hB.size
      clear hp hc hown hstr
      by_cases hp2 : p.size < 2
      · have g1 : decide ((p.size : Int) < 2) = true := by simp; omega
        have HF := Lib.hid (show parseOk s = false by
          unfold parseOk
          have : longB (pieces 44 s) = false := Bool.eq_false_iff.2 fun e => by have := longB_iff.1 e k hlt; rw [← HP.out] at this; omega
          rw [this]; rfl)
        have HE := Lib.hid (show parseVal s = [] by unfold parseVal; rw [HF.out]; rfl)
        go_wp2_with fail
        refine bodyPost_ret (v := .tuple #[.slice (some ⟨wr.heap.size, 0, none⟩) 0 0, .bool false]) (by simp [results, Try.results99, go_sem]) rfl ⟨.slice (some ⟨wr.heap.size, 0, none⟩) 0 0, by rw [HF.out], ?_, hB.alloc hBs _⟩
        rw [HE.out]
        exact World.ownsRow_made wr #[] 0 hBs (Nat.zero_le _) rfl
      · have g1 : decide ((p.size : Int) < 2) = false := by simp; omega
        have l1 : 1 ≤ p.size := by omega
        have l2 : (1 : Int) ≤ p.size := by omega
        have l3 : (2 : Int) ≤ p.size := by omega
        have hlk : (((pieces 44 s).take k).map blkOf).length ≤ 1048577 := by simp; omega
        go_wp2_with fail
        go_region_law ((refine step_append_lies _ (by rfl) _ _ _ (by rfl) w.heap.size 38 i0 _ 2 32 Try.underlying23 hi hz0 hz1 hz2 rfl (by omega) _ _ _ (by rfl) ((HOWN.out.alloc _).drew) ⟨wr.heap.size, 0, none⟩ 1 1 [.string (p.extract 0 1), .string (p.extract 2 p.size)] (by rfl) (by rfl) (World.news_of_block (cs := #[.string (p.extract 0 1), .string (p.extract 2 p.size)]) (t := 38) (fr := (0, 0)) (heap_alloc_new wr _)) (by simp [Value.oneCell']) (by omega) (by unfold maxLen; omega) (by omega) (by simp; omega) (wr.heap.size + 1) (by simp) ?_; intro gg capg w5 hown5 hgrow hat hltg))
        have hsz := ((HOWN.out.alloc (.cells #[.string (p.extract 0 1), .string (p.extract 2 p.size)] 38)).drew).lt
        have hB5 := ((hB.alloc hBs (.cells #[.string (p.extract 0 1), .string (p.extract 2 p.size)] 38)).drew).grown hgrow (by simp; omega) (fun j hj => (hsz j hj).1)
        have hS5 : OwnStr w5 (w.alloc (.cells #[] 38)).heap.size (.slice (some ⟨b, off, none⟩) (pieces 44 s).length cap) (pieces 44 s) :=
          ((HSTR.out.alloc (.cells #[.string (p.extract 0 1), .string (p.extract 2 p.size)] 38)).drew).kept hgrow (owns_ne (((HSTR.out.alloc (.cells #[.string (p.extract 0 1), .string (p.extract 2 p.size)] 38)).drew)) (((HOWN.out.alloc (.cells #[.string (p.extract 0 1), .string (p.extract 2 p.size)] 38)).drew)) (by decide))
        have HS5 := Lib.hid hS5
        have hkl : (((pieces 44 s).take k).map blkOf).length = k := by simp; omega
        have HO5 : Hid (OwnBl w5 w.heap.size (.slice (some ⟨gg, 0, none⟩) (k + 1) capg) (((pieces 44 s).take (k + 1)).map blkOf)) := by
          show w5.ownsRow w.heap.size 38 2 (.slice (some ⟨gg, 0, none⟩) (k + 1) capg) (((pieces 44 s).take (k + 1)).map blkOf).length (cells2 (((pieces 44 s).take (k + 1)).map blkOf))
          rw [parsed_take hlt, List.length_append, cells2_append, hkl, ← HP.out]
          rw [hkl] at hown5
          exact hown5
        clear hown5 hsz hgrow hat hkl hS5 hlk
        go_wp2_with fail
        go_roundw
        case rel =>
          refine ⟨k + 1, by omega, by go_num, HO5.out, HS5.out, fun j h hj => ?_, hB5⟩
          rcases Nat.lt_succ_iff_lt_or_eq.1 hj with hj | rfl
          · exact HK.out j h hj
          · rw [← HP.out]; omega
        case measure => simp [intOf]; omega
    · have hkk : k = (pieces 44 s).length := by omega
      have hlong : longB (pieces 44 s) = true := longB_iff.2 fun j h => HK.out j h (by omega)
      rw [hkk, List.take_length] at hown
      obtain ⟨A5, cap5, hv5, hc5, hg5⟩ := own_gr hown
      have htot : (parsed s).length + tot (parsed s) ≤ 1048576 := by
        have h1 : (parsed s).length + tot (parsed s) = lensOf (pieces 44 s) := tot_parsed hlong
        have h2 := HPL.out
        have h3 : 0 < (pieces 44 s).length ∨ (pieces 44 s).length = 0 := by omega
        have h4 : (pieces 44 s).length ≠ 0 := by
          intro e
          have := cutL_lens 44 s.data.toList
          have e2 : (cutL 44 s.data.toList).length = 0 := by simpa [pieces] using e
          rw [List.eq_nil_of_length_eq_zero e2] at this
          simp at this
        omega
      have hf := specFormat_any A5 cap5 (parsed s) wr hg5 htot hc5
      have hpl : (parsed s).length = (pieces 44 s).length := by simp [parsed]
      rw [hpl] at hf
      rw [List.length_map] at hv5
      have HF := Lib.hid hf
      rw [hv5] at hown ⊢
      have HOWN := Lib.hid hown
      have HL := Lib.hid hlong
      have hBs := hB.size
      clear hf hv5 hown hlong hkk htot hpl
      by_cases he : fmtVal (parsed s) = s
      · have g1 : ((fmtVal (parsed s)).toList == s.toList) = true := beq_toList.2 he
        have HOK := Lib.hid (show parseOk s = true by unfold parseOk; rw [HL.out, he]; simp)
        have HV := Lib.hid (show parseVal s = parsed s by unfold parseVal; rw [HOK.out]; rfl)
        clear he
        go_wp2_with fail
        refine HF.out.mono ?_
        rintro e w6 ⟨rfl, b6⟩
        go_wp2_with fail
        refine bodyPost_ret (v := .tuple #[.slice A5 (pieces 44 s).length cap5, .bool true]) (by simp [results, Try.results99, go_sem]) rfl ⟨.slice A5 (pieces 44 s).length cap5, by rw [HOK.out], ?_, hB.trans (b6.mono hBs)⟩
        rw [HV.out]
        exact ownRow_below HOWN.out b6
      · have g1 : ((fmtVal (parsed s)).toList == s.toList) = false := Bool.eq_false_iff.2 fun e => he (beq_toList.1 e)
        have HOK := Lib.hid (show parseOk s = false by unfold parseOk; rw [HL.out]; simpa using he)
        have HV := Lib.hid (show parseVal s = [] by unfold parseVal; rw [HOK.out]; rfl)
        clear he
        go_wp2_with fail
        refine HF.out.mono ?_
        rintro e w6 ⟨rfl, b6⟩
        go_wp2_with fail
        have hs6 := b6.size
        refine bodyPost_ret (v := .tuple #[.slice (some ⟨w6.heap.size, 0, none⟩) 0 0, .bool false]) (by simp [results, Try.results99, go_sem]) rfl ⟨.slice (some ⟨w6.heap.size, 0, none⟩) 0 0, by rw [HOK.out], ?_, (hB.trans (b6.mono hBs)).alloc (by omega) _⟩
        rw [HV.out]
        exact World.ownsRow_made w6 #[] 0 (by omega) (Nat.zero_le _) rfl
end Go.Proofs.Ytimgkjlhahapnab
