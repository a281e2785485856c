/-
  Contract of the model's l16Cut: a text, cut at each byte of one kind.
-/
import Derived.Test.YtgkamcnbpiipoaaGreatBase
import Derived.Test.YtgkamcnbpiipoaaGreatStrs
import Derived.OwnWalk
import Derived.Test.YtgkamcnbpiipoaaGreatNextOf
import Derived.Deep.AppendLies
import Derived.Deep.RegionLaw
namespace Go.Proofs.YtgkamcnbpiipoaaGreat
open Go.RowKit Go.Sort

/-- The pieces between the bytes c. -/
def cutL (c : UInt8) : List UInt8 → List (List UInt8)
  | [] => [[]]
  | b :: l => if b = c then [] :: cutL c l else match cutL c l with | p :: ps => (b :: p) :: ps | [] => [[b]]

theorem cutL_no {c : UInt8} : ∀ {l : List UInt8}, (∀ x ∈ l, x ≠ c) → cutL c l = [l]
  | [], _ => rfl
  | b :: l, h => by
    have hb : b ≠ c := h b (by simp)
    have ih := cutL_no (l := l) fun x hx => h x (List.mem_cons_of_mem _ hx)
    simp [cutL, hb, ih]

theorem cutL_at {c : UInt8} : ∀ {l : List UInt8} {r : List UInt8}, (∀ x ∈ l, x ≠ c) → cutL c (l ++ c :: r) = l :: cutL c r
  | [], r, _ => by simp [cutL]
  | b :: l, r, h => by
    have hb : b ≠ c := h b (by simp)
    have ih := cutL_at (l := l) (r := r) fun x hx => h x (List.mem_cons_of_mem _ hx)
    simp [cutL, hb, ih]

def mk (l : List UInt8) : ByteArray := ⟨l.toArray⟩
def pieces (c : UInt8) (s : ByteArray) : List ByteArray := (cutL c s.data.toList).map mk

/-- What is known when the byte k is asked and the piece at hand begins at f. -/
def CutInv (c : UInt8) (s : ByteArray) (f k : Nat) (ps : List ByteArray) : Prop :=
  (f ≤ k ∧ k ≤ s.size ∧ (∀ j (h : j < s.size), f ≤ j → j < k → s[j] ≠ c) ∧ pieces c s = ps ++ (cutL c (s.data.toList.drop f)).map mk) ∨ (k = s.size + 1 ∧ ps = pieces c s)

theorem ex_toList (s : ByteArray) (f k : Nat) : (s.extract f k).data.toList = (s.data.toList.drop f).take (k - f) := by
  rw [← Lib.toList_data, Lib.extract_toList]

theorem mk_extract (s : ByteArray) (f k : Nat) : mk ((s.data.toList.drop f).take (k - f)) = s.extract f k := by
  apply ba_ext; rw [ex_toList]; simp [mk]

theorem part_free {c : UInt8} {s : ByteArray} {f k : Nat} (h : ∀ j (h : j < s.size), f ≤ j → j < k → s[j] ≠ c) : ∀ x ∈ (s.data.toList.drop f).take (k - f), x ≠ c := by
  intro x hx
  obtain ⟨i, hi, rfl⟩ := List.getElem_of_mem hx
  have hi1 : i < k - f := by simp at hi; omega
  have hi2 : f + i < s.size := by simp at hi; omega
  rw [List.getElem_take, List.getElem_drop]
  have := byte_at s (f + i) hi2
  rw [List.getElem?_eq_getElem (by simp; omega)] at this
  rw [Option.some.inj this]
  exact h _ hi2 (by omega) (by omega)

theorem CutInv.start (c : UInt8) (s : ByteArray) : CutInv c s 0 0 [] :=
  .inl ⟨Nat.le_refl _, Nat.zero_le _, fun j _ _ h => absurd h (by omega), by simp [pieces]⟩

theorem CutInv.last {c : UInt8} {s : ByteArray} {f : Nat} {ps : List ByteArray} (h : CutInv c s f s.size ps) : CutInv c s (s.size + 1) (s.size + 1) (ps ++ [s.extract f s.size]) := by
  rcases h with ⟨hf, _, hno, he⟩ | ⟨h, _⟩
  · refine .inr ⟨rfl, ?_⟩
    have hl : s.data.toList.length = s.size := by rw [Array.length_toList]; rfl
    have h1 : (s.data.toList.drop f).take (s.size - f) = s.data.toList.drop f := List.take_of_length_le (by rw [List.length_drop, hl]; exact Nat.le_refl _)
    have h2 := part_free hno
    have h3 := mk_extract s f s.size
    rw [h1] at h2 h3
    rw [he, cutL_no h2, List.map_cons, List.map_nil, h3]
  · omega

theorem CutInv.hit {c : UInt8} {s : ByteArray} {f k : Nat} {ps : List ByteArray} (h : CutInv c s f k ps) (hk : k < s.size) (hc : s[k] = c) : CutInv c s (k + 1) (k + 1) (ps ++ [s.extract f k]) := by
  rcases h with ⟨hf, _, hno, he⟩ | ⟨h, _⟩
  · refine .inl ⟨Nat.le_refl _, hk, fun j _ h1 h2 => absurd h2 (by omega), ?_⟩
    have hl : s.data.toList.length = s.size := by rw [Array.length_toList]; rfl
    have h2 := part_free hno
    have h3 := mk_extract s f k
    have h4 : s.data.toList.drop f = (s.data.toList.drop f).take (k - f) ++ c :: s.data.toList.drop (k + 1) := by
      have e1 := List.take_append_drop (k - f) (s.data.toList.drop f)
      have e2 : (s.data.toList.drop f).drop (k - f) = s.data.toList.drop k := by rw [List.drop_drop]; congr 1; omega
      have e3 : s.data.toList.drop k = c :: s.data.toList.drop (k + 1) := by
        rw [List.drop_eq_getElem_cons (by omega)]
        have := byte_at s k hk
        rw [List.getElem?_eq_getElem (by omega)] at this
        rw [Option.some.inj this, hc]
      rw [e2, e3] at e1
      exact e1.symm
    rw [he, h4, cutL_at h2, List.map_cons, h3, List.append_assoc, List.singleton_append]
  · omega

theorem CutInv.miss {c : UInt8} {s : ByteArray} {f k : Nat} {ps : List ByteArray} (h : CutInv c s f k ps) (hk : k < s.size) (hc : s[k] ≠ c) : CutInv c s f (k + 1) ps := by
  rcases h with ⟨hf, _, hno, he⟩ | ⟨h, _⟩
  · refine .inl ⟨by omega, hk, fun j hj h1 h2 => ?_, he⟩
    rcases Nat.lt_succ_iff_lt_or_eq.1 h2 with h3 | rfl
    · exact hno j hj h1 h3
    · exact hc
  · omega

theorem CutInv.done {c : UInt8} {s : ByteArray} {f k : Nat} {ps : List ByteArray} (h : CutInv c s f k ps) (hk : ¬ k ≤ s.size) : ps = pieces c s := by
  rcases h with ⟨_, h, _⟩ | ⟨_, h⟩
  · omega
  · exact h

theorem CutInv.le {c : UInt8} {s : ByteArray} {f k : Nat} {ps : List ByteArray} (h : CutInv c s f k ps) (hk : k ≤ s.size) : f ≤ k := by
  rcases h with ⟨h, _⟩ | ⟨h, _⟩ <;> omega

theorem owns_ne {w : World} {b1 b2 n1 n2 s1 s2 : Nat} {e1 e2 : TypeId} {v1 v2 : Value} {x1 x2 : List Value} (h1 : w.ownsRow b1 e1 s1 v1 n1 x1) (h2 : w.ownsRow b2 e2 s2 v2 n2 x2) (hne : e1 ≠ e2) : v1.ownBlock = none ∨ v1.ownBlock ≠ v2.ownBlock := by
  rcases h1.2 with ⟨rfl, _⟩ | ⟨g1, c1, u1, rfl, _, hg1, _⟩
  · exact .inl rfl
  · rcases h2.2 with ⟨rfl, _⟩ | ⟨g2, c2, u2, rfl, _, hg2, _⟩
    · exact .inr (by simp [Value.ownBlock])
    · refine .inr fun e => ?_
      have hgg : g1 = g2 := by simpa [Value.ownBlock] using e
      subst hgg
      rw [hg1] at hg2
      injection hg2 with hg2
      injection hg2 with _ ht
      exact hne ht

theorem ownRow_below {w w' : World} {base : Nat} {e : TypeId} {size : Nat} {v : Value} {n : Nat} {xs : List Value} (h : w.ownsRow base e size v n xs) (hb : Below w.heap.size w w') : w'.ownsRow base e size v n xs := by
  refine ⟨h.1, ?_⟩
  rcases h.2 with hn | ⟨g, cap, cur, hv, hb2, hg, rest⟩
  · exact .inl hn
  · refine .inr ⟨g, cap, cur, hv, hb2, ?_, rest⟩
    have hlt : g < w.heap.size := by
      rcases Nat.lt_or_ge g w.heap.size with h' | h'
      · exact h'
      · rw [Array.getElem?_eq_none h'] at hg; cases hg
    exact (hb.block g hlt).trans hg

def CutPost (c : UInt8) (s : ByteArray) (w : World) (e : Ending) (w' : World) : Prop :=
  ∃ A cap, e = .returned (.slice A (pieces c s).length cap) ∧ OwnStr w' w.heap.size (.slice A (pieces c s).length cap) (pieces c s) ∧ Below w.heap.size w w'

set_option maxHeartbeats 1600000 in
theorem cut_any (s : ByteArray) (c : UInt8) (w : World) (hs : s.size ≤ 1048576) :
    Calls Tryz.prog 58 #[.string s, .int .u8 c.toNat] w (CutPost c s w) := by
  obtain ⟨i0, hi, hz0, hz1, hz2⟩ := info_parts info_str
  go_enter Tryz.func58, Tryz.ntmps58
  go_wp2_with fail
  have HO0 := Lib.hid (World.ownsRow_made (base := w.heap.size) (e := 9) (size := 1) w #[] 0 (Nat.le_refl _) (Nat.zero_le _) rfl)
  go_loopw [5, 6, 7] (fun v f i wr => ∃ (a k : Nat) (ps : List ByteArray), k ≤ s.size + 1 ∧ i = .int .i64 k ∧ f = .int .i64 a ∧ ps.length ≤ k ∧ Hid (CutInv c s a k ps) ∧ wr.ownsRow w.heap.size 9 1 v ps.length (ps.map Value.string) ∧ Below w.heap.size w wr) (fun _ _ i _ => s.size + 1 - (intOf i).toNat)
  case atStart => exact ⟨0, 0, [], Nat.zero_le _, rfl, rfl, Nat.le_refl _, CutInv.start c s, HO0.out, (Below.refl _ _).alloc (Nat.le_refl _) _⟩
  case round =>
    obtain ⟨a, k, ps, hk, rfl, rfl, hlen, HI, hown, hB⟩ := hrel
    by_cases hle : k ≤ s.size
    · have hak := HI.out.le hle
      have HOWN := Lib.hid hown
      have hBs := hB.size
      by_cases hcut : k = s.size ∨ ∃ h : k < s.size, s[k] = c
      · have HNEXT : Hid (CutInv c s (k + 1) (k + 1) (ps ++ [s.extract a k])) := by
          rcases hcut with rfl | ⟨h, hc⟩
          · exact HI.out.last
          · exact HI.out.hit h hc
        have hsplit : ((k : Int) == (s.size : Int)) = true ∨ (((k : Int) == (s.size : Int)) = false ∧ ∃ h : k < s.size, ((s[k].toNat : Int) == (c.toNat : Int)) = true) := by
          by_cases he : k = s.size
          · exact .inl (by rw [he]; simp)
          · rcases hcut with h | ⟨h, hc⟩
            · exact absurd h he
            · exact .inr ⟨by simp; omega, h, by rw [hc]; simp⟩
        clear hcut hown
        rcases hsplit with g1 | ⟨g1, hlt, g2⟩
        all_goals
          go_wp2_with (at_builtin; refine wpList_append_own _ rfl _ _ 51 rfl w.heap.size 9 i0 (.string ⟨#[]⟩) 1 16 Tryz.underlying51 hi hz0 hz1 hz2 rfl (by decide) _ _ _ rfl (HOWN.out.alloc _) ⟨wr.heap.size, 0, none⟩ 1 1 [.string (s.extract a k)] rfl rfl ?c1 ?c2 ?c3 ?c4 ?c5 ?_)
          case c1 =>
            intro j u hj
            match j, hj with
            | 0, hj =>
              have hu : Value.string (s.extract a k) = u := by simpa using hj
              rw [← hu]
              simp [Addr.add]
          case c2 => intro u hu; have hu' : u = .string (s.extract a k) := by simpa using hu
                     subst hu'; rfl
          case c3 => unfold maxLen; omega
          case c4 => omega
          case c5 => simp; omega
          intro v' w5 hown' hgrow _
          have hsz := (HOWN.out.alloc (.cells #[.string (s.extract a k)] 9)).lt
          have hB5 := (hB.alloc hBs (.cells #[.string (s.extract a k)] 9)).grown hgrow (by simp; omega) (fun j hj => (hsz j hj).1)
          have HO5 : Hid (w5.ownsRow w.heap.size 9 1 v' (ps ++ [s.extract a k]).length ((ps ++ [s.extract a k]).map Value.string)) := by
            show w5.ownsRow w.heap.size 9 1 v' (ps ++ [s.extract a k]).length ((ps ++ [s.extract a k]).map Value.string)
            rw [List.length_append, List.map_append]; exact hown'
          clear hown' hsz hgrow
          go_wp2_with fail
          go_roundw
          case rel => exact ⟨k + 1, k + 1, ps ++ [s.extract a k], by omega, by go_num, by go_num, by simp; omega, HNEXT.out, HO5.out, hB5⟩
          case measure => simp [intOf]; omega
      · have hlt : k < s.size := by
          rcases Nat.lt_or_ge k s.size with h | h
          · exact h
          · exact absurd (.inl (by omega)) hcut
        have g1 : ((k : Int) == (s.size : Int)) = false := by simp; omega
        have hne : s[k] ≠ c := fun e => hcut (.inr ⟨hlt, e⟩)
        have g2 := byte_ne hne
        have HNEXT := Lib.hid (HI.out.miss hlt hne)
        clear hcut hne hown
        go_wp2_with fail
        go_roundw
        case rel => exact ⟨a, k + 1, ps, by omega, by go_num, rfl, by omega, HNEXT.out, HOWN.out, hB⟩
        case measure => simp [intOf]; omega
    · obtain ⟨A, cap, hv, _⟩ := own_strs hown
      have hps := HI.out.done hle
      rw [hps] at hv hown
      rw [hv] at hown ⊢
      have HST := Lib.hid hown
      clear hv hown hps
      go_wp2_with fail
      exact bodyPost_ret (v := .slice A (pieces c s).length cap) (by simp [results, Tryz.results58, go_sem]) rfl ⟨A, cap, rfl, HST.out, hB⟩
end Go.Proofs.YtgkamcnbpiipoaaGreat

/-
  Contract of the model's ParseGraph.
-/
namespace Go.Proofs.YtgkamcnbpiipoaaGreat
open Go.RowKit Go.Sort

def blkOf (p : ByteArray) : Bl := (p.extract 0 1, p.extract 2 p.size)

def longB (ps : List ByteArray) : Bool := ps.all fun p => decide (2 ≤ p.size)
def parsed (s : ByteArray) : List Bl := (pieces 44 s).map blkOf
def parseOk (s : ByteArray) : Bool := longB (pieces 44 s) && decide (fmtVal (parsed s) = s)
def parseVal (s : ByteArray) : List Bl := if parseOk s then parsed s else []

theorem longB_iff {ps : List ByteArray} : longB ps = true ↔ ∀ k (h : k < ps.length), 2 ≤ ps[k].size := by
  unfold longB
  rw [List.all_eq_true]
  constructor
  · intro h k hk; simpa using h _ (List.getElem_mem hk)
  · intro h p hp
    obtain ⟨k, hk, rfl⟩ := List.getElem_of_mem hp
    simpa using h k hk

/-- The lengths of the pieces. -/
def lensOf (ps : List ByteArray) : Nat := (ps.map ByteArray.size).sum

theorem cutL_lens (c : UInt8) : ∀ l : List UInt8, ((cutL c l).map List.length).sum + (cutL c l).length = l.length + 1
  | [] => rfl
  | b :: l => by
    have ih := cutL_lens c l
    by_cases hb : b = c
    · simp [cutL, hb]; omega
    · cases h : cutL c l with
      | nil => rw [h] at ih; simp at ih
      | cons p ps => rw [h] at ih; simp [cutL, hb, h] at ih ⊢; omega

theorem pieces_lens (c : UInt8) (s : ByteArray) : lensOf (pieces c s) + (pieces c s).length = s.size + 1 := by
  have h := cutL_lens c s.data.toList
  have e : lensOf (pieces c s) = ((cutL c s.data.toList).map List.length).sum := by
    unfold lensOf pieces
    rw [List.map_map]
    congr 1
  rw [e]
  have e2 : (pieces c s).length = (cutL c s.data.toList).length := by simp [pieces]
  have e3 : s.data.toList.length = s.size := by rw [Array.length_toList]; rfl
  omega

theorem blkOf_size (p : ByteArray) (h : 2 ≤ p.size) : (blkOf p).1.size + (blkOf p).2.size + 1 = p.size := by
  unfold blkOf
  simp only [ByteArray.size_extract]
  omega

theorem tot_parsed : ∀ {ps : List ByteArray}, longB ps = true → (ps.map blkOf).length + tot (ps.map blkOf) = lensOf ps
  | [], _ => rfl
  | p :: ps, h => by
    have h1 : decide (2 ≤ p.size) = true ∧ longB ps = true := by simpa [longB] using h
    have ih := tot_parsed h1.2
    have h2 := blkOf_size p (by simpa using h1.1)
    have e : lensOf (p :: ps) = p.size + lensOf ps := by simp [lensOf]
    rw [e]
    simp only [List.map_cons, List.length_cons, tot] at ih ⊢
    omega

/-- The cells of blocks. -/
def cells2 (g : List Bl) : List Value := g.flatMap fun b => [.string b.1, .string b.2]

theorem cells2_append (g h : List Bl) : cells2 (g ++ h) = cells2 g ++ cells2 h := by simp [cells2]
theorem cells2_length (g : List Bl) : (cells2 g).length = g.length * 2 := by
  induction g with
  | nil => rfl
  | cons b g ih => simp only [cells2, List.flatMap_cons, List.length_append, List.length_cons, List.length_nil] at ih ⊢; omega
theorem cells2_at : ∀ {g : List Bl} {k : Nat} (h : k < g.length), (cells2 g)[k * 2]? = some (.string g[k].1) ∧ (cells2 g)[k * 2 + 1]? = some (.string g[k].2)
  | b :: g, 0, _ => by simp [cells2]
  | b :: g, k + 1, h => by
    have ih := cells2_at (g := g) (k := k) (by simpa using h)
    have e : cells2 (b :: g) = .string b.1 :: .string b.2 :: cells2 g := rfl
    have e1 : (k + 1) * 2 = k * 2 + 1 + 1 := by omega
    rw [e, e1]
    simpa using ih

/-- A slice of the call's own that holds blocks. -/
abbrev OwnBl (w : World) (base : Nat) (v : Value) (g : List Bl) : Prop := w.ownsRow base 37 2 v g.length (cells2 g)

theorem own_gr {w : World} {base : Nat} {v : Value} {g : List Bl} (h : OwnBl w base v g) : ∃ A cap, v = .slice A g.length cap ∧ g.length ≤ cap ∧ Gr w A g := by
  rcases h.2 with ⟨rfl, hn⟩ | ⟨gb, cap, cur, hv, _, hg, hnc, _⟩
  · exact ⟨none, 0, by rw [hn], by omega, fun hpos => absurd hpos (by omega)⟩
  · subst hv
    refine ⟨_, _, rfl, hnc, fun _ => ⟨gb, 0, rfl, ?_, fun j hj => ?_⟩⟩
    · rcases Nat.lt_or_ge gb w.heap.size with h' | h'
      · exact h'
      · rw [Array.getElem?_eq_none h'] at hg; cases hg
    · have c0 := h.cellAt (j * 2) (by omega)
      have c1 := h.cellAt (j * 2 + 1) (by omega)
      rw [(cells2_at hj).1] at c0
      rw [(cells2_at hj).2] at c1
      rw [Nat.zero_add]
      exact ⟨c0, c1⟩

def ParsePost (s : ByteArray) (w : World) (e : Ending) (w' : World) : Prop :=
  ∃ v, e = .returned (.tuple #[v, .bool (parseOk s)]) ∧ OwnBl w' w.heap.size v (parseVal s) ∧ Below w.heap.size w w'

theorem parsed_take {s : ByteArray} {k : Nat} (h : k < (pieces 44 s).length) : ((pieces 44 s).take (k + 1)).map blkOf = ((pieces 44 s).take k).map blkOf ++ [blkOf (pieces 44 s)[k]] := by
  rw [List.take_succ_eq_append_getElem h, List.map_append]; rfl

set_option maxHeartbeats 1600000 in
set_option maxRecDepth 100000 in
theorem specParse_any (s : ByteArray) (w : World) (hs : s.size ≤ 1048576) :
    Calls Tryz.prog 35 #[.string s] w (ParsePost s w) := by
  obtain ⟨i0, hi, hz0, hz1, hz2⟩ := info_parts info_block
  have HPL := Lib.hid (pieces_lens 44 s)
  have HC : Hid (∀ w, Calls Tryz.prog 58 #[.string s, .int .u8 44] w (CutPost 44 s w)) := fun w => cut_any s 44 w hs
  go_enter Tryz.func35, Tryz.ntmps35
  go_wp2_with fail
  have HO0 := Lib.hid (World.ownsRow_made (base := w.heap.size) (e := 37) (size := 2) w #[] 0 (Nat.le_refl _) (Nat.zero_le _) rfl)
  refine (HC.out _).mono ?_
  rintro e w1 ⟨A, cap, rfl, hst, b1⟩
  have HST := Lib.hid hst
  have HO1 : Hid (OwnBl w1 w.heap.size (.slice (some ⟨w.heap.size, 0, none⟩) 0 0) []) := ownRow_below HO0.out b1
  have hB1 := (Below.refl w.heap.size w).alloc (Nat.le_refl _) (.cells #[] 37)
  have hB1 := below_trans_self hB1 b1
  have hlen : (pieces 44 s).length ≤ 1048577 := by have := HPL.out; omega
  clear hst
  go_wp2_with fail
  go_loopw [4, 11] (fun v i wr => ∃ k : Nat, k ≤ (pieces 44 s).length ∧ i = .int .i64 k ∧ OwnBl wr w.heap.size v (((pieces 44 s).take k).map blkOf) ∧ OwnStr wr (w.alloc (.cells #[] 37)).heap.size (.slice A (pieces 44 s).length cap) (pieces 44 s) ∧ Hid (∀ j (h : j < (pieces 44 s).length), j < k → 2 ≤ (pieces 44 s)[j].size) ∧ Below w.heap.size w wr) (fun _ i _ => (pieces 44 s).length - (intOf i).toNat)
  case atStart => exact ⟨0, Nat.zero_le _, rfl, HO1.out, HST.out, fun j _ h => absurd h (by omega), hB1⟩
  case round =>
    obtain ⟨k, hk, rfl, hown, hstr, HK, hB⟩ := hrel
    by_cases hlt : k < (pieces 44 s).length
    · obtain ⟨b, off, rfl, hb, hc⟩ := hstr.strs (by omega)
      have x0 := hc k hlt
      obtain ⟨p, hp⟩ : ∃ p, p = (pieces 44 s)[k] := ⟨_, rfl⟩
      rw [← hp] at x0
      have HP := Lib.hid hp
      have HOWN := Lib.hid hown
      have HSTR := Lib.hid hstr
      have hBs := hB.size
      clear hp hc hown hstr
      by_cases hp2 : p.size < 2
      · have g1 : decide ((p.size : Int) < 2) = true := by simp; omega
        have HF := Lib.hid (show parseOk s = false by
          unfold parseOk
          have : longB (pieces 44 s) = false := Bool.eq_false_iff.2 fun e => by have := longB_iff.1 e k hlt; rw [← HP.out] at this; omega
          rw [this]; rfl)
        have HE := Lib.hid (show parseVal s = [] by unfold parseVal; rw [HF.out]; rfl)
        go_wp2_with fail
        refine bodyPost_ret (v := .tuple #[.slice (some ⟨wr.heap.size, 0, none⟩) 0 0, .bool false]) (by simp [results, Tryz.results35, go_sem]) rfl ⟨.slice (some ⟨wr.heap.size, 0, none⟩) 0 0, by rw [HF.out], ?_, hB.alloc hBs _⟩
        rw [HE.out]
        exact World.ownsRow_made wr #[] 0 hBs (Nat.zero_le _) rfl
      · have g1 : decide ((p.size : Int) < 2) = false := by simp; omega
        have l1 : 1 ≤ p.size := by omega
        have l2 : (1 : Int) ≤ p.size := by omega
        have l3 : (2 : Int) ≤ p.size := by omega
        have hlk : (((pieces 44 s).take k).map blkOf).length ≤ 1048577 := by simp; omega
        go_wp2_with fail
        go_region_law ((refine step_append_lies _ (by rfl) _ _ _ (by rfl) w.heap.size 37 i0 _ 2 32 Tryz.underlying23 hi hz0 hz1 hz2 rfl (by omega) _ _ _ (by rfl) ((HOWN.out.alloc _).drew) ⟨wr.heap.size, 0, none⟩ 1 1 [.string (p.extract 0 1), .string (p.extract 2 p.size)] (by rfl) (by rfl) (World.news_of_block (cs := #[.string (p.extract 0 1), .string (p.extract 2 p.size)]) (t := 37) (fr := (0, 0)) (heap_alloc_new wr _)) (by simp [Value.oneCell']) (by omega) (by unfold maxLen; omega) (by omega) (by simp; omega) (wr.heap.size + 1) (by simp) ?_; intro gg capg w5 hown5 hgrow hat hltg))
        have hsz := ((HOWN.out.alloc (.cells #[.string (p.extract 0 1), .string (p.extract 2 p.size)] 37)).drew).lt
        have hB5 := ((hB.alloc hBs (.cells #[.string (p.extract 0 1), .string (p.extract 2 p.size)] 37)).drew).grown hgrow (by simp; omega) (fun j hj => (hsz j hj).1)
        have hS5 : OwnStr w5 (w.alloc (.cells #[] 37)).heap.size (.slice (some ⟨b, off, none⟩) (pieces 44 s).length cap) (pieces 44 s) :=
          ((HSTR.out.alloc (.cells #[.string (p.extract 0 1), .string (p.extract 2 p.size)] 37)).drew).kept hgrow (owns_ne (((HSTR.out.alloc (.cells #[.string (p.extract 0 1), .string (p.extract 2 p.size)] 37)).drew)) (((HOWN.out.alloc (.cells #[.string (p.extract 0 1), .string (p.extract 2 p.size)] 37)).drew)) (by decide))
        have HS5 := Lib.hid hS5
        have hkl : (((pieces 44 s).take k).map blkOf).length = k := by simp; omega
        have HO5 : Hid (OwnBl w5 w.heap.size (.slice (some ⟨gg, 0, none⟩) (k + 1) capg) (((pieces 44 s).take (k + 1)).map blkOf)) := by
          show w5.ownsRow w.heap.size 37 2 (.slice (some ⟨gg, 0, none⟩) (k + 1) capg) (((pieces 44 s).take (k + 1)).map blkOf).length (cells2 (((pieces 44 s).take (k + 1)).map blkOf))
          rw [parsed_take hlt, List.length_append, cells2_append, hkl, ← HP.out]
          rw [hkl] at hown5
          exact hown5
        clear hown5 hsz hgrow hat hkl hS5 hlk
        go_wp2_with fail
        go_roundw
        case rel =>
          refine ⟨k + 1, by omega, by go_num, HO5.out, HS5.out, fun j h hj => ?_, hB5⟩
          rcases Nat.lt_succ_iff_lt_or_eq.1 hj with hj | rfl
          · exact HK.out j h hj
          · rw [← HP.out]; omega
        case measure => simp [intOf]; omega
    · have hkk : k = (pieces 44 s).length := by omega
      have hlong : longB (pieces 44 s) = true := longB_iff.2 fun j h => HK.out j h (by omega)
      rw [hkk, List.take_length] at hown
      obtain ⟨A5, cap5, hv5, hc5, hg5⟩ := own_gr hown
      have htot : (parsed s).length + tot (parsed s) ≤ 1048576 := by
        have h1 : (parsed s).length + tot (parsed s) = lensOf (pieces 44 s) := tot_parsed hlong
        have h2 := HPL.out
        have h3 : 0 < (pieces 44 s).length ∨ (pieces 44 s).length = 0 := by omega
        have h4 : (pieces 44 s).length ≠ 0 := by
          intro e
          have := cutL_lens 44 s.data.toList
          have e2 : (cutL 44 s.data.toList).length = 0 := by simpa [pieces] using e
          rw [List.eq_nil_of_length_eq_zero e2] at this
          simp at this
        omega
      have hf := specFormat_any A5 cap5 (parsed s) wr hg5 htot hc5
      have hpl : (parsed s).length = (pieces 44 s).length := by simp [parsed]
      rw [hpl] at hf
      rw [List.length_map] at hv5
      have HF := Lib.hid hf
      rw [hv5] at hown ⊢
      have HOWN := Lib.hid hown
      have HL := Lib.hid hlong
      have hBs := hB.size
      clear hf hv5 hown hlong hkk htot hpl
      by_cases he : fmtVal (parsed s) = s
      · have g1 : ((fmtVal (parsed s)).toList == s.toList) = true := beq_toList.2 he
        have HOK := Lib.hid (show parseOk s = true by unfold parseOk; rw [HL.out, he]; simp)
        have HV := Lib.hid (show parseVal s = parsed s by unfold parseVal; rw [HOK.out]; rfl)
        clear he
        go_wp2_with fail
        refine HF.out.mono ?_
        rintro e w6 ⟨rfl, b6⟩
        go_wp2_with fail
        refine bodyPost_ret (v := .tuple #[.slice A5 (pieces 44 s).length cap5, .bool true]) (by simp [results, Tryz.results35, go_sem]) rfl ⟨.slice A5 (pieces 44 s).length cap5, by rw [HOK.out], ?_, hB.trans (b6.mono hBs)⟩
        rw [HV.out]
        exact ownRow_below HOWN.out b6
      · have g1 : ((fmtVal (parsed s)).toList == s.toList) = false := Bool.eq_false_iff.2 fun e => he (beq_toList.1 e)
        have HOK := Lib.hid (show parseOk s = false by unfold parseOk; rw [HL.out]; simpa using he)
        have HV := Lib.hid (show parseVal s = [] by unfold parseVal; rw [HOK.out]; rfl)
        clear he
        go_wp2_with fail
        refine HF.out.mono ?_
        rintro e w6 ⟨rfl, b6⟩
        go_wp2_with fail
        have hs6 := b6.size
        refine bodyPost_ret (v := .tuple #[.slice (some ⟨w6.heap.size, 0, none⟩) 0 0, .bool false]) (by simp [results, Tryz.results35, go_sem]) rfl ⟨.slice (some ⟨w6.heap.size, 0, none⟩) 0 0, by rw [HOK.out], ?_, (hB.trans (b6.mono hBs)).alloc (by omega) _⟩
        rw [HV.out]
        exact World.ownsRow_made w6 #[] 0 (by omega) (Nat.zero_le _) rfl
end Go.Proofs.YtgkamcnbpiipoaaGreat
