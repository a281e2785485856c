/-
  Contract of the model's l16Cut: a text, cut at each byte of one kind.
-/
import Derived.Test.YtimgkjlhahapnabSl
import Derived.OwnWalk
namespace Go.Proofs.Ytimgkjlhahapnab
open Go.RowKit Go.Sort

/-- The pieces between the bytes c. -/
def cutL (c : UInt8) : List UInt8 → List (List UInt8)
  | [] => [[]]
  | b :: l => if b = c then [] :: cutL c l else match cutL c l with | p :: ps => (b :: p) :: ps | [] => [[b]]

theorem cutL_no {c : UInt8} : ∀ {l : List UInt8}, (∀ x ∈ l, x ≠ c) → cutL c l = [l]
  | [], _ => rfl
  | b :: l, h => by
    have hb : b ≠ c := h b (by simp)
    have ih := cutL_no (l := l) fun x hx => h x (List.mem_cons_of_mem _ hx)
    simp [cutL, hb, ih]

theorem cutL_at {c : UInt8} : ∀ {l : List UInt8} {r : List UInt8}, (∀ x ∈ l, x ≠ c) → cutL c (l ++ c :: r) = l :: cutL c r
  | [], r, _ => by simp [cutL]
  | b :: l, r, h => by
    have hb : b ≠ c := h b (by simp)
    have ih := cutL_at (l := l) (r := r) fun x hx => h x (List.mem_cons_of_mem _ hx)
    simp [cutL, hb, ih]

def mk (l : List UInt8) : ByteArray := ⟨l.toArray⟩
def pieces (c : UInt8) (s : ByteArray) : List ByteArray := (cutL c s.data.toList).map mk

/-- What is known when the byte k is asked and the piece at hand begins at f. -/
def CutInv (c : UInt8) (s : ByteArray) (f k : Nat) (ps : List ByteArray) : Prop :=
  (f ≤ k ∧ k ≤ s.size ∧ (∀ j (h : j < s.size), f ≤ j → j < k → s[j] ≠ c) ∧ pieces c s = ps ++ (cutL c (s.data.toList.drop f)).map mk) ∨ (k = s.size + 1 ∧ ps = pieces c s)

theorem ex_toList (s : ByteArray) (f k : Nat) : (s.extract f k).data.toList = (s.data.toList.drop f).take (k - f) := by
  rw [← Lib.toList_data, Lib.extract_toList]

theorem mk_extract (s : ByteArray) (f k : Nat) : mk ((s.data.toList.drop f).take (k - f)) = s.extract f k := by
  apply ba_ext; rw [ex_toList]; simp [mk]

theorem part_free {c : UInt8} {s : ByteArray} {f k : Nat} (h : ∀ j (h : j < s.size), f ≤ j → j < k → s[j] ≠ c) : ∀ x ∈ (s.data.toList.drop f).take (k - f), x ≠ c := by
  intro x hx
  obtain ⟨i, hi, rfl⟩ := List.getElem_of_mem hx
  have hi1 : i < k - f := by simp at hi; omega
  have hi2 : f + i < s.size := by simp at hi; omega
  rw [List.getElem_take, List.getElem_drop]
  have := byte_at s (f + i) hi2
  rw [List.getElem?_eq_getElem (by simp; omega)] at this
  rw [Option.some.inj this]
  exact h _ hi2 (by omega) (by omega)

theorem CutInv.start (c : UInt8) (s : ByteArray) : CutInv c s 0 0 [] :=
  .inl ⟨Nat.le_refl _, Nat.zero_le _, fun j _ _ h => absurd h (by omega), by simp [pieces]⟩

theorem CutInv.last {c : UInt8} {s : ByteArray} {f : Nat} {ps : List ByteArray} (h : CutInv c s f s.size ps) : CutInv c s (s.size + 1) (s.size + 1) (ps ++ [s.extract f s.size]) := by
  rcases h with ⟨hf, _, hno, he⟩ | ⟨h, _⟩
  · refine .inr ⟨rfl, ?_⟩
    have hl : s.data.toList.length = s.size := by rw [Array.length_toList]; rfl
    have h1 : (s.data.toList.drop f).take (s.size - f) = s.data.toList.drop f := List.take_of_length_le (by rw [List.length_drop, hl]; exact Nat.le_refl _)
    have h2 := part_free hno
    have h3 := mk_extract s f s.size
    rw [h1] at h2 h3
    rw [he, cutL_no h2, List.map_cons, List.map_nil, h3]
  · omega

theorem CutInv.hit {c : UInt8} {s : ByteArray} {f k : Nat} {ps : List ByteArray} (h : CutInv c s f k ps) (hk : k < s.size) (hc : s[k] = c) : CutInv c s (k + 1) (k + 1) (ps ++ [s.extract f k]) := by
  rcases h with ⟨hf, _, hno, he⟩ | ⟨h, _⟩
  · refine .inl ⟨Nat.le_refl _, hk, fun j _ h1 h2 => absurd h2 (by omega), ?_⟩
    have hl : s.data.toList.length = s.size := by rw [Array.length_toList]; rfl
    have h2 := part_free hno
    have h3 := mk_extract s f k
    have h4 : s.data.toList.drop f = (s.data.toList.drop f).take (k - f) ++ c :: s.data.toList.drop (k + 1) := by
      have e1 := List.take_append_drop (k - f) (s.data.toList.drop f)
      have e2 : (s.data.toList.drop f).drop (k - f) = s.data.toList.drop k := by rw [List.drop_drop]; congr 1; omega
      have e3 : s.data.toList.drop k = c :: s.data.toList.drop (k + 1) := by
        rw [List.drop_eq_getElem_cons (by omega)]
        have := byte_at s k hk
        rw [List.getElem?_eq_getElem (by omega)] at this
        rw [Option.some.inj this, hc]
      rw [e2, e3] at e1
      exact e1.symm
    rw [he, h4, cutL_at h2, List.map_cons, h3, List.append_assoc, List.singleton_append]
  · omega

theorem CutInv.miss {c : UInt8} {s : ByteArray} {f k : Nat} {ps : List ByteArray} (h : CutInv c s f k ps) (hk : k < s.size) (hc : s[k] ≠ c) : CutInv c s f (k + 1) ps := by
  rcases h with ⟨hf, _, hno, he⟩ | ⟨h, _⟩
  · refine .inl ⟨by omega, hk, fun j hj h1 h2 => ?_, he⟩
    rcases Nat.lt_succ_iff_lt_or_eq.1 h2 with h3 | rfl
    · exact hno j hj h1 h3
    · exact hc
  · omega

theorem CutInv.done {c : UInt8} {s : ByteArray} {f k : Nat} {ps : List ByteArray} (h : CutInv c s f k ps) (hk : ¬ k ≤ s.size) : ps = pieces c s := by
  rcases h with ⟨_, h, _⟩ | ⟨_, h⟩
  · omega
  · exact h

theorem CutInv.le {c : UInt8} {s : ByteArray} {f k : Nat} {ps : List ByteArray} (h : CutInv c s f k ps) (hk : k ≤ s.size) : f ≤ k := by
  rcases h with ⟨h, _⟩ | ⟨h, _⟩ <;> omega

/-- A slice that reads as strings. -/
def Strs (w : World) (A : Option Addr) (ps : List ByteArray) : Prop :=
  0 < ps.length → ∃ b off, A = some ⟨b, off, none⟩ ∧ b < w.heap.size ∧ ∀ k (h : k < ps.length), w.cell? ⟨b, off + k, none⟩ = some (.string ps[k])

theorem Strs.below {w w' : World} {A : Option Addr} {ps : List ByteArray} (h : Strs w A ps) (hb : Below w.heap.size w w') : Strs w' A ps := by
  intro hn
  obtain ⟨b, off, rfl, hlt, hc⟩ := h hn
  have := hb.size
  exact ⟨b, off, rfl, by omega, fun k hk => (hb.cell (p := ⟨b, off + k, none⟩) hlt).trans (hc k hk)⟩

theorem info_str : (Try.prog.info? 9).map (fun i => (i.zero, i.size, i.bytes)) = some (some (.string ⟨#[]⟩), 1, 16) := by kernel_rfl

theorem own_strs {w : World} {base : Nat} {v : Value} {ps : List ByteArray} (h : w.ownsRow base 9 1 v ps.length (ps.map Value.string)) : ∃ A cap, v = .slice A ps.length cap ∧ Strs w A ps := by
  rcases h.2 with ⟨rfl, hn⟩ | ⟨gb, cap, cur, hv, _, hg, _⟩
  · exact ⟨none, 0, by rw [hn], fun hpos => absurd hpos (by omega)⟩
  · subst hv
    refine ⟨_, _, rfl, fun _ => ⟨gb, 0, rfl, ?_, fun j hj => ?_⟩⟩
    · rcases Nat.lt_or_ge gb w.heap.size with h' | h'
      · exact h'
      · rw [Array.getElem?_eq_none h'] at hg; cases hg
    · have hc := h.cellAt j (by omega)
      rw [List.getElem?_map, List.getElem?_eq_getElem hj] at hc
      rw [Nat.zero_add]; exact hc

/-- A slice of the call's own that holds strings. -/
abbrev OwnStr (w : World) (base : Nat) (v : Value) (ps : List ByteArray) : Prop := w.ownsRow base 9 1 v ps.length (ps.map Value.string)

theorem OwnStr.strs {w : World} {base : Nat} {A : Option Addr} {cap : Nat} {ps : List ByteArray} (h : OwnStr w base (.slice A ps.length cap) ps) : Strs w A ps := by
  obtain ⟨A', cap', he, hs⟩ := own_strs h
  injection he with h1 _ _
  rw [h1]; exact hs

theorem owns_ne {w : World} {b1 b2 n1 n2 s1 s2 : Nat} {e1 e2 : TypeId} {v1 v2 : Value} {x1 x2 : List Value} (h1 : w.ownsRow b1 e1 s1 v1 n1 x1) (h2 : w.ownsRow b2 e2 s2 v2 n2 x2) (hne : e1 ≠ e2) : v1.ownBlock = none ∨ v1.ownBlock ≠ v2.ownBlock := by
  rcases h1.2 with ⟨rfl, _⟩ | ⟨g1, c1, u1, rfl, _, hg1, _⟩
  · exact .inl rfl
  · rcases h2.2 with ⟨rfl, _⟩ | ⟨g2, c2, u2, rfl, _, hg2, _⟩
    · exact .inr (by simp [Value.ownBlock])
    · refine .inr fun e => ?_
      have hgg : g1 = g2 := by simpa [Value.ownBlock] using e
      subst hgg
      rw [hg1] at hg2
      injection hg2 with hg2
      injection hg2 with _ ht
      exact hne ht

theorem ownRow_below {w w' : World} {base : Nat} {e : TypeId} {size : Nat} {v : Value} {n : Nat} {xs : List Value} (h : w.ownsRow base e size v n xs) (hb : Below w.heap.size w w') : w'.ownsRow base e size v n xs := by
  refine ⟨h.1, ?_⟩
  rcases h.2 with hn | ⟨g, cap, cur, hv, hb2, hg, rest⟩
  · exact .inl hn
  · refine .inr ⟨g, cap, cur, hv, hb2, ?_, rest⟩
    have hlt : g < w.heap.size := by
      rcases Nat.lt_or_ge g w.heap.size with h' | h'
      · exact h'
      · rw [Array.getElem?_eq_none h'] at hg; cases hg
    exact (hb.block g hlt).trans hg

def CutPost (c : UInt8) (s : ByteArray) (w : World) (e : Ending) (w' : World) : Prop :=
  ∃ A cap, e = .returned (.slice A (pieces c s).length cap) ∧ OwnStr w' w.heap.size (.slice A (pieces c s).length cap) (pieces c s) ∧ Below w.heap.size w w'

set_option maxHeartbeats 1600000 in
theorem cut_any (s : ByteArray) (c : UInt8) (w : World) (hs : s.size ≤ 1048576) :
    Calls Try.prog 115 #[.string s, .int .u8 c.toNat] w (CutPost c s w) := by
  obtain ⟨i0, hi, hz0, hz1, hz2⟩ := info_parts info_str
  go_enter Try.func115, Try.ntmps115
  go_wp2_with fail
  have HO0 := Lib.hid (World.ownsRow_made (base := w.heap.size) (e := 9) (size := 1) w #[] 0 (Nat.le_refl _) (Nat.zero_le _) rfl)
  go_loopw [5, 6, 7] (fun v f i wr => ∃ (a k : Nat) (ps : List ByteArray), k ≤ s.size + 1 ∧ i = .int .i64 k ∧ f = .int .i64 a ∧ ps.length ≤ k ∧ Hid (CutInv c s a k ps) ∧ wr.ownsRow w.heap.size 9 1 v ps.length (ps.map Value.string) ∧ Below w.heap.size w wr) (fun _ _ i _ => s.size + 1 - (intOf i).toNat)
  case atStart => exact ⟨0, 0, [], Nat.zero_le _, rfl, rfl, Nat.le_refl _, CutInv.start c s, HO0.out, (Below.refl _ _).alloc (Nat.le_refl _) _⟩
  case round =>
    obtain ⟨a, k, ps, hk, rfl, rfl, hlen, HI, hown, hB⟩ := hrel
    by_cases hle : k ≤ s.size
    · have hak := HI.out.le hle
      have HOWN := Lib.hid hown
      have hBs := hB.size
      by_cases hcut : k = s.size ∨ ∃ h : k < s.size, s[k] = c
      · have HNEXT : Hid (CutInv c s (k + 1) (k + 1) (ps ++ [s.extract a k])) := by
          rcases hcut with rfl | ⟨h, hc⟩
          · exact HI.out.last
          · exact HI.out.hit h hc
        have hsplit : ((k : Int) == (s.size : Int)) = true ∨ (((k : Int) == (s.size : Int)) = false ∧ ∃ h : k < s.size, ((s[k].toNat : Int) == (c.toNat : Int)) = true) := by
          by_cases he : k = s.size
          · exact .inl (by rw [he]; simp)
          · rcases hcut with h | ⟨h, hc⟩
            · exact absurd h he
            · exact .inr ⟨by simp; omega, h, by rw [hc]; simp⟩
        clear hcut hown
        rcases hsplit with g1 | ⟨g1, hlt, g2⟩
        all_goals
          go_wp2_with (at_builtin; refine wpList_append_own _ rfl _ _ 65 rfl w.heap.size 9 i0 (.string ⟨#[]⟩) 1 16 Try.underlying65 hi hz0 hz1 hz2 rfl (by decide) _ _ _ rfl (HOWN.out.alloc _) ⟨wr.heap.size, 0, none⟩ 1 1 [.string (s.extract a k)] rfl rfl ?c1 ?c2 ?c3 ?c4 ?c5 ?_)
          case c1 =>
            intro j u hj
            match j, hj with
            | 0, hj =>
              have hu : Value.string (s.extract a k) = u := by simpa using hj
              rw [← hu]
              simp [Addr.add]
          case c2 => intro u hu; have hu' : u = .string (s.extract a k) := by simpa using hu
                     subst hu'; rfl
          case c3 => unfold maxLen; omega
          case c4 => omega
          case c5 => simp; omega
          intro v' w5 hown' hgrow _
          have hsz := (HOWN.out.alloc (.cells #[.string (s.extract a k)] 9)).lt
          have hB5 := (hB.alloc hBs (.cells #[.string (s.extract a k)] 9)).grown hgrow (by simp; omega) (fun j hj => (hsz j hj).1)
          have HO5 : Hid (w5.ownsRow w.heap.size 9 1 v' (ps ++ [s.extract a k]).length ((ps ++ [s.extract a k]).map Value.string)) := by
            show w5.ownsRow w.heap.size 9 1 v' (ps ++ [s.extract a k]).length ((ps ++ [s.extract a k]).map Value.string)
            rw [List.length_append, List.map_append]; exact hown'
          clear hown' hsz hgrow
          go_wp2_with fail
          go_roundw
          case rel => exact ⟨k + 1, k + 1, ps ++ [s.extract a k], by omega, by go_num, by go_num, by simp; omega, HNEXT.out, HO5.out, hB5⟩
          case measure => simp [intOf]; omega
      · have hlt : k < s.size := by
          rcases Nat.lt_or_ge k s.size with h | h
          · exact h
          · exact absurd (.inl (by omega)) hcut
        have g1 : ((k : Int) == (s.size : Int)) = false := by simp; omega
        have hne : s[k] ≠ c := fun e => hcut (.inr ⟨hlt, e⟩)
        have g2 := byte_ne hne
        have HNEXT := Lib.hid (HI.out.miss hlt hne)
        clear hcut hne hown
        go_wp2_with fail
        go_roundw
        case rel => exact ⟨a, k + 1, ps, by omega, by go_num, rfl, by omega, HNEXT.out, HOWN.out, hB⟩
        case measure => simp [intOf]; omega
    · obtain ⟨A, cap, hv, _⟩ := own_strs hown
      have hps := HI.out.done hle
      rw [hps] at hv hown
      rw [hv] at hown ⊢
      have HST := Lib.hid hown
      clear hv hown hps
      go_wp2_with fail
      exact bodyPost_ret (v := .slice A (pieces c s).length cap) (by simp [results, Try.results115, go_sem]) rfl ⟨A, cap, rfl, HST.out, hB⟩
end Go.Proofs.Ytimgkjlhahapnab
