import Derived.Test.YtlkfakdghjaoaaaGreatDoorJ0
import Derived.Test.YtlkfakdghjaoaaaGreatDoorJ3
import Derived.OwnWalk
import Derived.Test.YtlkfakdghjaoaaaGreatDoorJ4
import Derived.Deep.AppendLies
import Derived.Deep.RegionLaw
import Derived.Test.YtlkfakdghjaoaaaGreatDoorIter
import Derived.RangeFuncBound
import Derived.RangeFuncCalls
import Derived.RangeFuncLeaves
import Derived.Shelf.Abstract
import Derived.Shelf.RegionOpen
import Derived.WalkKit
import Derived.OwnWalkIn
import Derived.TacticsInMore
import Derived.LoopNIn
import Derived.LoopIn
import Derived.Sort.LoopGhostIn
namespace Go.Proofs.YtlkfakdghjaoaaaGreatDoor
open Go.RowKit Go.Sort
def cutL (c : UInt8) : List UInt8 → List (List UInt8)
 | [] => [[]]
 | b :: l => if b = c then [] :: cutL c l else match cutL c l with | p :: ps => (b :: p) :: ps | [] => [[b]]
theorem cutL_no {c : UInt8} : ∀ {l : List UInt8}, (∀ x ∈ l, x ≠ c) → cutL c l = [l]
 | [], _ => rfl
 | b :: l, h => by
  have hb : b ≠ c := h b (by simp)
  have ih := cutL_no (l := l) fun x hx => h x (List.mem_cons_of_mem _ hx)
  simp [cutL, hb, ih]
theorem cutL_at {c : UInt8} : ∀ {l : List UInt8} {r : List UInt8}, (∀ x ∈ l, x ≠ c) → cutL c (l ++ c :: r) = l :: cutL c r
 | [], r, _ => by simp [cutL]
 | b :: l, r, h => by
  have hb : b ≠ c := h b (by simp)
  have ih := cutL_at (l := l) (r := r) fun x hx => h x (List.mem_cons_of_mem _ hx)
  simp [cutL, hb, ih]
def mk (l : List UInt8) : ByteArray := ⟨l.toArray⟩
def pieces (c : UInt8) (s : ByteArray) : List ByteArray := (cutL c s.data.toList).map mk
def CutInv (c : UInt8) (s : ByteArray) (f k : Nat) (ps : List ByteArray) : Prop :=
 (f ≤ k ∧ k ≤ s.size ∧ (∀ j (h : j < s.size), f ≤ j → j < k → s[j] ≠ c) ∧ pieces c s = ps ++ (cutL c (s.data.toList.drop f)).map mk) ∨ (k = s.size + 1 ∧ ps = pieces c s)
theorem ex_toList (s : ByteArray) (f k : Nat) : (s.extract f k).data.toList = (s.data.toList.drop f).take (k - f) := by
 rw [← Lib.toList_data, Lib.extract_toList]
theorem mk_extract (s : ByteArray) (f k : Nat) : mk ((s.data.toList.drop f).take (k - f)) = s.extract f k := by
 apply ba_ext; rw [ex_toList]; simp [mk]
theorem part_free {c : UInt8} {s : ByteArray} {f k : Nat} (h : ∀ j (h : j < s.size), f ≤ j → j < k → s[j] ≠ c) : ∀ x ∈ (s.data.toList.drop f).take (k - f), x ≠ c := by
 intro x hx
 obtain ⟨i, hi, rfl⟩ := List.getElem_of_mem hx
 have hi1 : i < k - f := by simp at hi; omega
 have hi2 : f + i < s.size := by simp at hi; omega
 rw [List.getElem_take, List.getElem_drop]
 have := byte_at s (f + i) hi2
 rw [List.getElem?_eq_getElem (by simp; omega)] at this
 rw [Option.some.inj this]
 exact h _ hi2 (by omega) (by omega)
theorem CutInv.start (c : UInt8) (s : ByteArray) : CutInv c s 0 0 [] :=
 .inl ⟨Nat.le_refl _, Nat.zero_le _, fun j _ _ h => absurd h (by omega), by simp [pieces]⟩
theorem CutInv.last {c : UInt8} {s : ByteArray} {f : Nat} {ps : List ByteArray} (h : CutInv c s f s.size ps) : CutInv c s (s.size + 1) (s.size + 1) (ps ++ [s.extract f s.size]) := by
 rcases h with ⟨hf, _, hno, he⟩ | ⟨h, _⟩
 ·refine .inr ⟨rfl, ?_⟩
  have hl : s.data.toList.length = s.size := by rw [Array.length_toList]; rfl
  have h1 : (s.data.toList.drop f).take (s.size - f) = s.data.toList.drop f := List.take_of_length_le (by rw [List.length_drop, hl]; exact Nat.le_refl _)
  have h2 := part_free hno
  have h3 := mk_extract s f s.size
  rw [h1] at h2 h3
  rw [he, cutL_no h2, List.map_cons, List.map_nil, h3]
 ·omega
theorem CutInv.hit {c : UInt8} {s : ByteArray} {f k : Nat} {ps : List ByteArray} (h : CutInv c s f k ps) (hk : k < s.size) (hc : s[k] = c) : CutInv c s (k + 1) (k + 1) (ps ++ [s.extract f k]) := by
 rcases h with ⟨hf, _, hno, he⟩ | ⟨h, _⟩
 ·refine .inl ⟨Nat.le_refl _, hk, fun j _ h1 h2 => absurd h2 (by omega), ?_⟩
  have hl : s.data.toList.length = s.size := by rw [Array.length_toList]; rfl
  have h2 := part_free hno
  have h3 := mk_extract s f k
  have h4 : s.data.toList.drop f = (s.data.toList.drop f).take (k - f) ++ c :: s.data.toList.drop (k + 1) := by
   have e1 := List.take_append_drop (k - f) (s.data.toList.drop f)
   have e2 : (s.data.toList.drop f).drop (k - f) = s.data.toList.drop k := by rw [List.drop_drop]; congr 1; omega
   have e3 : s.data.toList.drop k = c :: s.data.toList.drop (k + 1) := by
    rw [List.drop_eq_getElem_cons (by omega)]
    have := byte_at s k hk
    rw [List.getElem?_eq_getElem (by omega)] at this
    rw [Option.some.inj this, hc]
   rw [e2, e3] at e1
   exact e1.symm
  rw [he, h4, cutL_at h2, List.map_cons, h3, List.append_assoc, List.singleton_append]
 ·omega
theorem CutInv.miss {c : UInt8} {s : ByteArray} {f k : Nat} {ps : List ByteArray} (h : CutInv c s f k ps) (hk : k < s.size) (hc : s[k] ≠ c) : CutInv c s f (k + 1) ps := by
 rcases h with ⟨hf, _, hno, he⟩ | ⟨h, _⟩
 ·refine .inl ⟨by omega, hk, fun j hj h1 h2 => ?_, he⟩
  rcases Nat.lt_succ_iff_lt_or_eq.1 h2 with h3 | rfl
  ·exact hno j hj h1 h3
  ·exact hc
 ·omega
theorem CutInv.done {c : UInt8} {s : ByteArray} {f k : Nat} {ps : List ByteArray} (h : CutInv c s f k ps) (hk : ¬ k ≤ s.size) : ps = pieces c s := by
 rcases h with ⟨_, h, _⟩ | ⟨_, h⟩
 ·omega
 ·exact h
theorem CutInv.le {c : UInt8} {s : ByteArray} {f k : Nat} {ps : List ByteArray} (h : CutInv c s f k ps) (hk : k ≤ s.size) : f ≤ k := by
 rcases h with ⟨h, _⟩ | ⟨h, _⟩ <;> omega
theorem owns_ne {w : World} {b1 b2 n1 n2 s1 s2 : Nat} {e1 e2 : TypeId} {v1 v2 : Value} {x1 x2 : List Value} (h1 : w.ownsRow b1 e1 s1 v1 n1 x1) (h2 : w.ownsRow b2 e2 s2 v2 n2 x2) (hne : e1 ≠ e2) : v1.ownBlock = none ∨ v1.ownBlock ≠ v2.ownBlock := by
 rcases h1.2 with ⟨rfl, _⟩ | ⟨g1, c1, u1, rfl, _, hg1, _⟩
 ·exact .inl rfl
 ·rcases h2.2 with ⟨rfl, _⟩ | ⟨g2, c2, u2, rfl, _, hg2, _⟩
  ·exact .inr (by simp [Value.ownBlock])
  ·refine .inr fun e => ?_
   have hgg : g1 = g2 := by simpa [Value.ownBlock] using e
   subst hgg
   rw [hg1] at hg2
   injection hg2 with hg2
   injection hg2 with _ ht
   exact hne ht
def CutPost (c : UInt8) (s : ByteArray) (w : World) (e : Ending) (w' : World) : Prop :=
 ∃ A cap, e = .returned (.slice A (pieces c s).length cap) ∧ OwnStr w' w.heap.size (.slice A (pieces c s).length cap) (pieces c s) ∧ Below w.heap.size w w'
set_option maxHeartbeats 1600000 in
theorem cut_any (s : ByteArray) (c : UInt8) (w : World) (hs : s.size ≤ 1048576) :
  Calls Tryz.prog 171 #[.string s, .int .u8 c.toNat] w (CutPost c s w) := by
 obtain ⟨i0, hi, hz0, hz1, hz2⟩ := info_parts info_str
 go_enter Tryz.func171, Tryz.ntmps171
 go_wp2_with fail
 have HO0 := Lib.hid (World.ownsRow_made (base := w.heap.size) (e := 9) (size := 1) w #[] 0 (Nat.le_refl _) (Nat.zero_le _) rfl)
 go_loopw [5, 6, 7] (fun v f i wr => ∃ (a k : Nat) (ps : List ByteArray), k ≤ s.size + 1 ∧ i = .int .i64 k ∧ f = .int .i64 a ∧ ps.length ≤ k ∧ Hid (CutInv c s a k ps) ∧ wr.ownsRow w.heap.size 9 1 v ps.length (ps.map Value.string) ∧ Below w.heap.size w wr) (fun _ _ i _ => s.size + 1 - (intOf i).toNat)
 case atStart => exact ⟨0, 0, [], Nat.zero_le _, rfl, rfl, Nat.le_refl _, CutInv.start c s, HO0.out, (Below.refl _ _).alloc (Nat.le_refl _) _⟩
 case round =>
  obtain ⟨a, k, ps, hk, rfl, rfl, hlen, HI, hown, hB⟩ := hrel
  by_cases hle : k ≤ s.size
  ·have hak := HI.out.le hle
   have HOWN := Lib.hid hown
   have hBs := hB.size
   by_cases hcut : k = s.size ∨ ∃ h : k < s.size, s[k] = c
   ·have HNEXT : Hid (CutInv c s (k + 1) (k + 1) (ps ++ [s.extract a k])) := by
     rcases hcut with rfl | ⟨h, hc⟩
     ·exact HI.out.last
     ·exact HI.out.hit h hc
    have hsplit : ((k : Int) == (s.size : Int)) = true ∨ (((k : Int) == (s.size : Int)) = false ∧ ∃ h : k < s.size, ((s[k].toNat : Int) == (c.toNat : Int)) = true) := by
     by_cases he : k = s.size
     ·exact .inl (by rw [he]; simp)
     ·rcases hcut with h | ⟨h, hc⟩
      ·exact absurd h he
      ·exact .inr ⟨by simp; omega, h, by rw [hc]; simp⟩
    clear hcut hown
    rcases hsplit with g1 | ⟨g1, hlt, g2⟩
    all_goals
     go_wp2_with (at_builtin; refine wpList_append_own _ rfl _ _ 37 rfl w.heap.size 9 i0 (.string ⟨#[]⟩) 1 16 Tryz.underlying37 hi hz0 hz1 hz2 rfl (by decide) _ _ _ rfl (HOWN.out.alloc _) ⟨wr.heap.size, 0, none⟩ 1 1 [.string (s.extract a k)] rfl rfl ?c1 ?c2 ?c3 ?c4 ?c5 ?_)
     case c1 =>
      intro j u hj
      match j, hj with
      | 0, hj =>
       have hu : Value.string (s.extract a k) = u := by simpa using hj
       rw [← hu]
       simp [Addr.add]
     case c2 => intro u hu; have hu' : u = .string (s.extract a k) := by simpa using hu
                subst hu'; rfl
     case c3 => unfold maxLen; omega
     case c4 => omega
     case c5 => simp; omega
     intro v' w5 hown' hgrow _
     have hsz := (HOWN.out.alloc (.cells #[.string (s.extract a k)] 9)).lt
     have hB5 := (hB.alloc hBs (.cells #[.string (s.extract a k)] 9)).grown hgrow (by simp; omega) (fun j hj => (hsz j hj).1)
     have HO5 : Hid (w5.ownsRow w.heap.size 9 1 v' (ps ++ [s.extract a k]).length ((ps ++ [s.extract a k]).map Value.string)) := by
      show w5.ownsRow w.heap.size 9 1 v' (ps ++ [s.extract a k]).length ((ps ++ [s.extract a k]).map Value.string)
      rw [List.length_append, List.map_append]; exact hown'
     clear hown' hsz hgrow
     go_wp2_with fail
     go_roundw
     case rel => exact ⟨k + 1, k + 1, ps ++ [s.extract a k], by omega, by go_num, by go_num, by simp; omega, HNEXT.out, HO5.out, hB5⟩
     case measure => simp [intOf]; omega
   ·have hlt : k < s.size := by
     rcases Nat.lt_or_ge k s.size with h | h
     ·exact h
     ·exact absurd (.inl (by omega)) hcut
    have g1 : ((k : Int) == (s.size : Int)) = false := by simp; omega
    have hne : s[k] ≠ c := fun e => hcut (.inr ⟨hlt, e⟩)
    have g2 := byte_ne hne
    have HNEXT := Lib.hid (HI.out.miss hlt hne)
    clear hcut hne hown
    go_wp2_with fail
    go_roundw
    case rel => exact ⟨a, k + 1, ps, by omega, by go_num, rfl, by omega, HNEXT.out, HOWN.out, hB⟩
    case measure => simp [intOf]; omega
  ·obtain ⟨A, cap, hv, _⟩ := own_strs hown
   have hps := HI.out.done hle
   rw [hps] at hv hown
   rw [hv] at hown ⊢
   have HST := Lib.hid hown
   clear hv hown hps
   go_wp2_with fail
   exact bodyPost_ret (v := .slice A (pieces c s).length cap) (by simp [results, Tryz.results171, go_sem]) rfl ⟨A, cap, rfl, HST.out, hB⟩
end Go.Proofs.YtlkfakdghjaoaaaGreatDoor
namespace Go.Proofs.YtlkfakdghjaoaaaGreatDoor
open Go.RowKit Go.Sort
def blkOf (p : ByteArray) : Bl := (p.extract 0 1, p.extract 2 p.size)
def longB (ps : List ByteArray) : Bool := ps.all fun p => decide (2 ≤ p.size)
def parsed (s : ByteArray) : List Bl := (pieces 44 s).map blkOf
def parseOk (s : ByteArray) : Bool := longB (pieces 44 s) && decide (fmtVal (parsed s) = s)
def parseVal (s : ByteArray) : List Bl := if parseOk s then parsed s else []
theorem longB_iff {ps : List ByteArray} : longB ps = true ↔ ∀ k (h : k < ps.length), 2 ≤ ps[k].size := by
 unfold longB
 rw [List.all_eq_true]
 constructor
 ·intro h k hk; simpa using h _ (List.getElem_mem hk)
 ·intro h p hp
  obtain ⟨k, hk, rfl⟩ := List.getElem_of_mem hp
  simpa using h k hk
def lensOf (ps : List ByteArray) : Nat := (ps.map ByteArray.size).sum
theorem cutL_lens (c : UInt8) : ∀ l : List UInt8, ((cutL c l).map List.length).sum + (cutL c l).length = l.length + 1
 | [] => rfl
 | b :: l => by
  have ih := cutL_lens c l
  by_cases hb : b = c
  ·simp [cutL, hb]; omega
  ·cases h : cutL c l with
   | nil => rw [h] at ih; simp at ih
   | cons p ps => rw [h] at ih; simp [cutL, hb, h] at ih ⊢; omega
theorem pieces_lens (c : UInt8) (s : ByteArray) : lensOf (pieces c s) + (pieces c s).length = s.size + 1 := by
 have h := cutL_lens c s.data.toList
 have e : lensOf (pieces c s) = ((cutL c s.data.toList).map List.length).sum := by
  unfold lensOf pieces
  rw [List.map_map]
  congr 1
 rw [e]
 have e2 : (pieces c s).length = (cutL c s.data.toList).length := by simp [pieces]
 have e3 : s.data.toList.length = s.size := by rw [Array.length_toList]; rfl
 omega
theorem blkOf_size (p : ByteArray) (h : 2 ≤ p.size) : (blkOf p).1.size + (blkOf p).2.size + 1 = p.size := by
 unfold blkOf
 simp only [ByteArray.size_extract]
 omega
theorem tot_parsed : ∀ {ps : List ByteArray}, longB ps = true → (ps.map blkOf).length + tot (ps.map blkOf) = lensOf ps
 | [], _ => rfl
 | p :: ps, h => by
  have h1 : decide (2 ≤ p.size) = true ∧ longB ps = true := by simpa [longB] using h
  have ih := tot_parsed h1.2
  have h2 := blkOf_size p (by simpa using h1.1)
  have e : lensOf (p :: ps) = p.size + lensOf ps := by simp [lensOf]
  rw [e]
  simp only [List.map_cons, List.length_cons, tot] at ih ⊢
  omega
def cells2 (g : List Bl) : List Value := g.flatMap fun b => [.string b.1, .string b.2]
theorem cells2_append (g h : List Bl) : cells2 (g ++ h) = cells2 g ++ cells2 h := by simp [cells2]
theorem cells2_length (g : List Bl) : (cells2 g).length = g.length * 2 := by
 induction g with
 | nil => rfl
 | cons b g ih => simp only [cells2, List.flatMap_cons, List.length_append, List.length_cons, List.length_nil] at ih ⊢; omega
theorem cells2_at : ∀ {g : List Bl} {k : Nat} (h : k < g.length), (cells2 g)[k * 2]? = some (.string g[k].1) ∧ (cells2 g)[k * 2 + 1]? = some (.string g[k].2)
 | b :: g, 0, _ => by simp [cells2]
 | b :: g, k + 1, h => by
  have ih := cells2_at (g := g) (k := k) (by simpa using h)
  have e : cells2 (b :: g) = .string b.1 :: .string b.2 :: cells2 g := rfl
  have e1 : (k + 1) * 2 = k * 2 + 1 + 1 := by omega
  rw [e, e1]
  simpa using ih
abbrev OwnBl (w : World) (base : Nat) (v : Value) (g : List Bl) : Prop := w.ownsRow base 45 2 v g.length (cells2 g)
theorem own_gr {w : World} {base : Nat} {v : Value} {g : List Bl} (h : OwnBl w base v g) : ∃ A cap, v = .slice A g.length cap ∧ g.length ≤ cap ∧ Gr w A g := by
 rcases h.2 with ⟨rfl, hn⟩ | ⟨gb, cap, cur, hv, _, hg, hnc, _⟩
 ·exact ⟨none, 0, by rw [hn], by omega, fun hpos => absurd hpos (by omega)⟩
 ·subst hv
  refine ⟨_, _, rfl, hnc, fun _ => ⟨gb, 0, rfl, ?_, fun j hj => ?_⟩⟩
  ·rcases Nat.lt_or_ge gb w.heap.size with h' | h'
   ·exact h'
   ·rw [Array.getElem?_eq_none h'] at hg; cases hg
  ·have c0 := h.cellAt (j * 2) (by omega)
   have c1 := h.cellAt (j * 2 + 1) (by omega)
   rw [(cells2_at hj).1] at c0
   rw [(cells2_at hj).2] at c1
   rw [Nat.zero_add]
   exact ⟨c0, c1⟩
def ParsePost (s : ByteArray) (w : World) (e : Ending) (w' : World) : Prop :=
 ∃ v, e = .returned (.tuple #[v, .bool (parseOk s)]) ∧ OwnBl w' w.heap.size v (parseVal s) ∧ Below w.heap.size w w'
theorem parsed_take {s : ByteArray} {k : Nat} (h : k < (pieces 44 s).length) : ((pieces 44 s).take (k + 1)).map blkOf = ((pieces 44 s).take k).map blkOf ++ [blkOf (pieces 44 s)[k]] := by
 rw [List.take_succ_eq_append_getElem h, List.map_append]; rfl
set_option maxHeartbeats 1600000 in
set_option maxRecDepth 100000 in
theorem specParse_any (s : ByteArray) (w : World) (hs : s.size ≤ 1048576) :
  Calls Tryz.prog 134 #[.string s] w (ParsePost s w) := by
 obtain ⟨i0, hi, hz0, hz1, hz2⟩ := info_parts info_block
 have HPL := Lib.hid (pieces_lens 44 s)
 have HC : Hid (∀ w, Calls Tryz.prog 171 #[.string s, .int .u8 44] w (CutPost 44 s w)) := fun w => cut_any s 44 w hs
 go_enter Tryz.func134, Tryz.ntmps134
 go_wp2_with fail
 have HO0 := Lib.hid (World.ownsRow_made (base := w.heap.size) (e := 45) (size := 2) w #[] 0 (Nat.le_refl _) (Nat.zero_le _) rfl)
 refine (HC.out _).mono ?_
 rintro e w1 ⟨A, cap, rfl, hst, b1⟩
 have HST := Lib.hid hst
 have HO1 : Hid (OwnBl w1 w.heap.size (.slice (some ⟨w.heap.size, 0, none⟩) 0 0) []) := ownRow_below HO0.out b1
 have hB1 := (Below.refl w.heap.size w).alloc (Nat.le_refl _) (.cells #[] 45)
 have hB1 := below_trans_self hB1 b1
 have hlen : (pieces 44 s).length ≤ 1048577 := by have := HPL.out; omega
 clear hst
 go_wp2_with fail
 go_loopw [4, 11] (fun v i wr => ∃ k : Nat, k ≤ (pieces 44 s).length ∧ i = .int .i64 k ∧ OwnBl wr w.heap.size v (((pieces 44 s).take k).map blkOf) ∧ OwnStr wr (w.alloc (.cells #[] 45)).heap.size (.slice A (pieces 44 s).length cap) (pieces 44 s) ∧ Hid (∀ j (h : j < (pieces 44 s).length), j < k → 2 ≤ (pieces 44 s)[j].size) ∧ Below w.heap.size w wr) (fun _ i _ => (pieces 44 s).length - (intOf i).toNat)
 case atStart => exact ⟨0, Nat.zero_le _, rfl, HO1.out, HST.out, fun j _ h => absurd h (by omega), hB1⟩
 case round =>
  obtain ⟨k, hk, rfl, hown, hstr, HK, hB⟩ := hrel
  by_cases hlt : k < (pieces 44 s).length
  ·obtain ⟨b, off, rfl, hb, hc⟩ := hstr.strs (by omega)
   have x0 := hc k hlt
   obtain ⟨p, hp⟩ : ∃ p, p = (pieces 44 s)[k] := ⟨_, rfl⟩
   rw [← hp] at x0
   have HP := Lib.hid hp
   have HOWN := Lib.hid hown
   have HSTR := Lib.hid hstr
   have hBs := hB.size
   clear hp hc hown hstr
   by_cases hp2 : p.size < 2
   ·have g1 : decide ((p.size : Int) < 2) = true := by simp; omega
    have HF := Lib.hid (show parseOk s = false by
     unfold parseOk
     have : longB (pieces 44 s) = false := Bool.eq_false_iff.2 fun e => by have := longB_iff.1 e k hlt; rw [← HP.out] at this; omega
     rw [this]; rfl)
    have HE := Lib.hid (show parseVal s = [] by unfold parseVal; rw [HF.out]; rfl)
    go_wp2_with fail
    refine bodyPost_ret (v := .tuple #[.slice (some ⟨wr.heap.size, 0, none⟩) 0 0, .bool false]) (by simp [results, Tryz.results134, go_sem]) rfl ⟨.slice (some ⟨wr.heap.size, 0, none⟩) 0 0, by rw [HF.out], ?_, hB.alloc hBs _⟩
    rw [HE.out]
    exact World.ownsRow_made wr #[] 0 hBs (Nat.zero_le _) rfl
   ·have g1 : decide ((p.size : Int) < 2) = false := by simp; omega
    have l1 : 1 ≤ p.size := by omega
    have l2 : (1 : Int) ≤ p.size := by omega
    have l3 : (2 : Int) ≤ p.size := by omega
    have hlk : (((pieces 44 s).take k).map blkOf).length ≤ 1048577 := by simp; omega
    go_wp2_with fail
    go_region_law ((refine step_append_lies _ (by rfl) _ _ _ (by rfl) w.heap.size 45 i0 _ 2 32 Tryz.underlying23 hi hz0 hz1 hz2 rfl (by omega) _ _ _ (by rfl) ((HOWN.out.alloc _).drew) ⟨wr.heap.size, 0, none⟩ 1 1 [.string (p.extract 0 1), .string (p.extract 2 p.size)] (by rfl) (by rfl) (World.news_of_block (cs := #[.string (p.extract 0 1), .string (p.extract 2 p.size)]) (t := 45) (fr := (0, 0)) (heap_alloc_new wr _)) (by simp [Value.oneCell']) (by omega) (by unfold maxLen; omega) (by omega) (by simp; omega) (wr.heap.size + 1) (by simp) ?_; intro gg capg w5 hown5 hgrow hat hltg))
    have hsz := ((HOWN.out.alloc (.cells #[.string (p.extract 0 1), .string (p.extract 2 p.size)] 45)).drew).lt
    have hB5 := ((hB.alloc hBs (.cells #[.string (p.extract 0 1), .string (p.extract 2 p.size)] 45)).drew).grown hgrow (by simp; omega) (fun j hj => (hsz j hj).1)
    have hS5 : OwnStr w5 (w.alloc (.cells #[] 45)).heap.size (.slice (some ⟨b, off, none⟩) (pieces 44 s).length cap) (pieces 44 s) :=
     ((HSTR.out.alloc (.cells #[.string (p.extract 0 1), .string (p.extract 2 p.size)] 45)).drew).kept hgrow (owns_ne (((HSTR.out.alloc (.cells #[.string (p.extract 0 1), .string (p.extract 2 p.size)] 45)).drew)) (((HOWN.out.alloc (.cells #[.string (p.extract 0 1), .string (p.extract 2 p.size)] 45)).drew)) (by decide))
    have HS5 := Lib.hid hS5
    have hkl : (((pieces 44 s).take k).map blkOf).length = k := by simp; omega
    have HO5 : Hid (OwnBl w5 w.heap.size (.slice (some ⟨gg, 0, none⟩) (k + 1) capg) (((pieces 44 s).take (k + 1)).map blkOf)) := by
     show w5.ownsRow w.heap.size 45 2 (.slice (some ⟨gg, 0, none⟩) (k + 1) capg) (((pieces 44 s).take (k + 1)).map blkOf).length (cells2 (((pieces 44 s).take (k + 1)).map blkOf))
     rw [parsed_take hlt, List.length_append, cells2_append, hkl, ← HP.out]
     rw [hkl] at hown5
     exact hown5
    clear hown5 hsz hgrow hat hkl hS5 hlk
    go_wp2_with fail
    go_roundw
    case rel =>
     refine ⟨k + 1, by omega, by go_num, HO5.out, HS5.out, fun j h hj => ?_, hB5⟩
     rcases Nat.lt_succ_iff_lt_or_eq.1 hj with hj | rfl
     ·exact HK.out j h hj
     ·rw [← HP.out]; omega
    case measure => simp [intOf]; omega
  ·have hkk : k = (pieces 44 s).length := by omega
   have hlong : longB (pieces 44 s) = true := longB_iff.2 fun j h => HK.out j h (by omega)
   rw [hkk, List.take_length] at hown
   obtain ⟨A5, cap5, hv5, hc5, hg5⟩ := own_gr hown
   have htot : (parsed s).length + tot (parsed s) ≤ 1048576 := by
    have h1 : (parsed s).length + tot (parsed s) = lensOf (pieces 44 s) := tot_parsed hlong
    have h2 := HPL.out
    have h3 : 0 < (pieces 44 s).length ∨ (pieces 44 s).length = 0 := by omega
    have h4 : (pieces 44 s).length ≠ 0 := by
     intro e
     have := cutL_lens 44 s.data.toList
     have e2 : (cutL 44 s.data.toList).length = 0 := by simpa [pieces] using e
     rw [List.eq_nil_of_length_eq_zero e2] at this
     simp at this
    omega
   have hf := specFormat_any A5 cap5 (parsed s) wr hg5 htot hc5
   have hpl : (parsed s).length = (pieces 44 s).length := by simp [parsed]
   rw [hpl] at hf
   rw [List.length_map] at hv5
   have HF := Lib.hid hf
   rw [hv5] at hown ⊢
   have HOWN := Lib.hid hown
   have HL := Lib.hid hlong
   have hBs := hB.size
   clear hf hv5 hown hlong hkk htot hpl
   by_cases he : fmtVal (parsed s) = s
   ·have g1 : ((fmtVal (parsed s)).toList == s.toList) = true := beq_toList.2 he
    have HOK := Lib.hid (show parseOk s = true by unfold parseOk; rw [HL.out, he]; simp)
    have HV := Lib.hid (show parseVal s = parsed s by unfold parseVal; rw [HOK.out]; rfl)
    clear he
    go_wp2_with fail
    refine HF.out.mono ?_
    rintro e w6 ⟨rfl, b6⟩
    go_wp2_with fail
    refine bodyPost_ret (v := .tuple #[.slice A5 (pieces 44 s).length cap5, .bool true]) (by simp [results, Tryz.results134, go_sem]) rfl ⟨.slice A5 (pieces 44 s).length cap5, by rw [HOK.out], ?_, hB.trans (b6.mono hBs)⟩
    rw [HV.out]
    exact ownRow_below HOWN.out b6
   ·have g1 : ((fmtVal (parsed s)).toList == s.toList) = false := Bool.eq_false_iff.2 fun e => he (beq_toList.1 e)
    have HOK := Lib.hid (show parseOk s = false by unfold parseOk; rw [HL.out]; simpa using he)
    have HV := Lib.hid (show parseVal s = [] by unfold parseVal; rw [HOK.out]; rfl)
    clear he
    go_wp2_with fail
    refine HF.out.mono ?_
    rintro e w6 ⟨rfl, b6⟩
    go_wp2_with fail
    have hs6 := b6.size
    refine bodyPost_ret (v := .tuple #[.slice (some ⟨w6.heap.size, 0, none⟩) 0 0, .bool false]) (by simp [results, Tryz.results134, go_sem]) rfl ⟨.slice (some ⟨w6.heap.size, 0, none⟩) 0 0, by rw [HOK.out], ?_, (hB.trans (b6.mono hBs)).alloc (by omega) _⟩
    rw [HV.out]
    exact World.ownsRow_made w6 #[] 0 (by omega) (Nat.zero_le _) rfl
end Go.Proofs.YtlkfakdghjaoaaaGreatDoor

namespace Go.Proofs.YtlkfakdghjaoaaaGreatDoor
open Go.RowKit Go.Sort
theorem idx_empty (c : UInt8) : Lib.indexByte (⟨#[]⟩ : ByteArray).data.toList c = -1 := by
 have : ¬ 0 ≤ Lib.indexByte (⟨#[]⟩ : ByteArray).data.toList c := by rw [idx_mem]; simp
 exact idx_none fun j hj => by simp at hj
theorem nxt_two' {g : List Bl} (hv : validB g = true) {i : Nat} (hi : i < g.length) : g[i].2.size ≤ 2 := (nextB_iff.1 (nextsB_iff.1 (valid_iff.1 hv).2.2.2 i hi)).1
theorem step_lt {g : List Bl} (hv : validB g = true) {i k : Nat} (hi : i < g.length) {ts : List Nat} (h : ts ⊆ nxt g i) : ∀ x ∈ stepL (bfs g k) ts, x < g.length := by
 intro x hx
 rcases (stepL_mem _ _ _).1 hx with h1 | h1
 ·exact bfs_lt hv k x h1
 ·exact nxt_lt hv hi (h h1)
theorem step_le {g : List Bl} (hv : validB g = true) {i k : Nat} (hi : i < g.length) {ts : List Nat} (h : ts ⊆ nxt g i) : (stepL (bfs g k) ts).length ≤ g.length :=
 nodup_lt_len _ _ (stepL_nodup _ _ (bfs_nodup g k)) (step_lt hv hi h)
set_option maxRecDepth 100000 in
set_option maxHeartbeats 2000000 in
theorem l1From_any (A : Option Addr) (cap : Nat) (g : List Bl) (s : ByteArray) (w : World) (hg : Gr w A g) (hn : g.length ≤ 1048576) (hv : validB g = true) (hs : s = nthName g 0) :
  Calls Tryz.prog 164 #[.slice A g.length cap, .string s, .string ⟨#[]⟩] w fun e w' => e = .returned (.string (namesAt g (reach g))) ∧ Below w.heap.size w w' := by
 have hpos := (valid_iff.1 hv).1
 have h26 := (valid_iff.1 hv).2.1
 have hs1 : s.size = 1 := by obtain ⟨c, hc, _⟩ := valid_one hv (List.getElem_mem hpos); rw [hs, nthName_at hpos, hc]; rfl
 have h0s : 0 < s.size := by omega
 have HF : Hid (∀ w, Calls Tryz.prog 114 #[.string ⟨#[]⟩, .int .u8 (s[0]'h0s).toNat] w fun e w' => e = .returned (.int .i64 (-1)) ∧ w = w') := fun w => by
  have := find_any (⟨#[]⟩ : ByteArray) (s[0]'h0s) w (by have : (⟨#[]⟩ : ByteArray).size = 0 := rfl; omega)
  rw [idx_empty] at this; exact this
 have HV := Lib.hid hv
 have HG := Lib.hid hg
 have HS := Lib.hid hs
 clear hv hg hs
 go_enter Tryz.func164, Tryz.ntmps164
 go_wp2_with fail
 refine (HF.out w).mono ?_
 rintro e w1 ⟨rfl, rfl⟩
 go_wp2_with fail
 go_loopg [7, 8] g.length (fun gk s i wr => ∃ k, gk = g.length - k ∧ k ≤ (bfs g k).length ∧ s = .string (namesAt g (bfs g k)) ∧ i = .int .i64 k ∧ Below w.heap.size w wr)
 case atStart => exact ⟨0, rfl, by simp, by rw [HS.out]; show _ = Value.string (namesAt g [0]); rw [namesAt_one], rfl, Below.refl _ _⟩
 case round =>
  obtain ⟨k, rfl, hkl, rfl, rfl, hB⟩ := hrel
  have hlen := bfs_len HV.out k
  obtain ⟨o, ho⟩ : ∃ o, o = namesAt g (bfs g k) := ⟨_, rfl⟩
  have hos : o.size = (bfs g k).length := by rw [ho, namesAt_size HV.out _ (bfs_lt HV.out k)]
  rw [← ho]
  by_cases hlt : k < (bfs g k).length
  ·obtain ⟨x, hx⟩ : ∃ x, x = (bfs g k)[k] := ⟨_, rfl⟩
   have hxl : x < g.length := hx ▸ bfs_lt HV.out k _ (List.getElem_mem hlt)
   obtain ⟨_, hcut⟩ := namesAt_cut HV.out (bfs_lt HV.out k) hlt
   have hcut' : o.extract k (k + 1) = g[x].1 := by rw [ho, hcut]; congr 2; exact hx.symm
   have HN := Lib.hid (l1Next_any A cap g (o.extract k (k + 1)) x wr (HG.out.keep hB.size (fun b o hlt => hB.cell (p := ⟨b, o, none⟩) hlt)) hn (by rw [hcut']; exact posOf_name HV.out hxl) hxl)
   have q1 : ((k : Int) < o.size) := by omega
   have hko : k + 1 ≤ o.size := by omega
   obtain ⟨nx, hnx⟩ : ∃ nx, nx = g[x].2 := ⟨_, rfl⟩
   have hnl : nx.size ≤ 2 := hnx ▸ nxt_two' HV.out hxl
   rw [← hnx] at HN
   have HO := Lib.hid ho
   have HX := Lib.hid hx
   have HNX := Lib.hid hnx
   have HB := Lib.hid hB
   have HLT := Lib.hid hlt
   have HLEN := Lib.hid hlen
   clear ho hx hcut hcut' hnx hB
   go_wp2_with fail
   refine HN.out.mono ?_
   rintro e w2 ⟨rfl, b2⟩
   have HB2 := Lib.hid (HB.out.trans (b2.mono HB.out.size))
   clear b2
   go_wp2_with fail
   go_loopw [7, 32] (fun s i wr => ∃ j out, j ≤ nx.size ∧ Hid (out = stepL (bfs g k) ((nxt g x).take j)) ∧ s = .string (namesAt g out) ∧ i = .int .i64 j ∧ Below w.heap.size w wr) (fun _ i _ => nx.size - (intOf i).toNat)
   case atStart => exact ⟨0, bfs g k, Nat.zero_le _, rfl, by rw [HO.out], rfl, HB2.out⟩
   case round =>
    obtain ⟨j, out, hj, HOUT, rfl, rfl, hB3⟩ := hrel
    have hol : ∀ y ∈ out, y < g.length := by rw [HOUT.out]; exact step_lt HV.out hxl (List.take_prefix _ _).subset
    have hole : out.length ≤ g.length := by rw [HOUT.out]; exact step_le HV.out hxl (List.take_prefix _ _).subset
    obtain ⟨p, hp⟩ : ∃ p, p = namesAt g out := ⟨_, rfl⟩
    have hps : p.size = out.length := by rw [hp, namesAt_size HV.out _ hol]
    rw [← hp]
    by_cases hjd : j < nx.size
    ·obtain ⟨t, htl, hget, _, hnm⟩ := nxt_get HV.out hxl (k := j) (by rw [← HNX.out]; exact hjd)
     have hbyte : g[x].2[j]'(by rw [← HNX.out]; exact hjd) = nx[j] := by congr 1; exact HNX.out.symm
     rw [hbyte] at hnm
     have hidx := idx_namesAt HV.out hol htl hnm
     rw [← hp] at hidx
     have HT := Lib.hid (show stepL (bfs g k) ((nxt g x).take (j + 1)) = if t ∈ out then out else out ++ [t] by
      have hjl : j < (nxt g x).length := (List.getElem?_eq_some_iff.1 hget).1
      have e : (nxt g x)[j] = t := (List.getElem?_eq_some_iff.1 hget).2
      rw [List.take_succ_eq_append_getElem hjl, e, stepL_snoc, ← HOUT.out])
     have HPP := Lib.hid hp
     have HB3 := Lib.hid hB3
     have hz1 : p.size + (⟨#[]⟩ : ByteArray).size ≤ 1048576 := by have : (⟨#[]⟩ : ByteArray).size = 0 := rfl; omega
     have hj1 : j + 1 ≤ nx.size := by omega
     have HEX := Lib.hid (show nx.extract j (j + 1) = nthName g t by rw [ex_byte nx (a := j) (b := j + 1) (by omega) (by omega) (by omega), nthName_at htl, hnm])
     obtain ⟨z, hz⟩ : ∃ z, z = Lib.indexByte p.data.toList nx[j] := ⟨_, rfl⟩
     have HFC : Hid (∀ w, Calls Tryz.prog 114 #[.string (p ++ ⟨#[]⟩), .int .u8 nx[j].toNat] w fun e w' => e = .returned (.int .i64 z) ∧ w = w') := fun w => by
      rw [ba_append_empty, hz]; exact find_any p nx[j] w (by omega)
     rw [← hz] at hidx
     clear hp hbyte hnm hget hB3 hz
     by_cases hin : t ∈ out
     ·have q2 : ¬ z < 0 := by have := hidx.2 hin; omega
      rw [if_pos hin] at HT
      clear hidx hin
      go_wp2_with fail
      refine (HFC.out _).mono ?_
      rintro e w4 ⟨rfl, rfl⟩
      go_wp2_with fail
      go_roundw
      case rel => exact ⟨j + 1, out, by omega, HT.out.symm, by rw [HPP.out], by go_num, HB3.out⟩
      case measure => simp [intOf]; omega
     ·have q2 : z < 0 := by
       rcases Int.lt_or_le z 0 with h | h
       ·exact h
       ·exact absurd (hidx.1 h) hin
      rw [if_neg hin] at HT
      have hz2 : p.size + (nx.extract j (j + 1)).size ≤ 1048576 := by rw [HEX.out, nthName_at htl]; obtain ⟨c, hc, _⟩ := valid_one HV.out (List.getElem_mem htl); rw [hc]; show p.size + 1 ≤ _; omega
      have HNX2 := Lib.hid (show namesAt g (out ++ [t]) = p ++ nx.extract j (j + 1) by rw [namesAt_append, namesAt_one, HPP.out, HEX.out])
      clear hidx hin
      go_wp2_with fail
      refine (HFC.out _).mono ?_
      rintro e w4 ⟨rfl, rfl⟩
      go_wp2_with fail
      go_roundw
      case rel => exact ⟨j + 1, out ++ [t], by omega, HT.out.symm, by rw [HNX2.out], by go_num, HB3.out⟩
      case measure => simp [intOf]; omega
    ·have hjn : j = nx.size := by omega
     have HBF := Lib.hid (show out = bfs g (k + 1) by rw [HOUT.out, bfs_step HLT.out, ← HX.out, List.take_of_length_le (by rw [nxt_length hxl, ← HNX.out]; omega)])
     have HPP := Lib.hid hp
     have HB3 := Lib.hid hB3
     have hkl2 : k + 1 ≤ out.length := by
      have h1 := (stepL_prefix ((nxt g x).take j) (bfs g k)).length_le
      rw [← HOUT.out] at h1; have := HLT.out; omega
     clear hp hB3
     go_wp2_with fail
     go_roundg (g.length - (k + 1))
     case measure => have := HLEN.out; have := HLT.out; omega
     case rel => exact ⟨k + 1, rfl, by rw [← HBF.out]; exact hkl2, by rw [HPP.out, HBF.out], by go_num, HB3.out⟩
  ·have hke : k = (bfs g k).length := by omega
   have HR := Lib.hid (show o = namesAt g (reach g) by rw [ho, reach_done (g := g) (k := k) (by omega) (by omega)])
   have q1 : ¬ ((k : Int) < o.size) := by omega
   have HB := Lib.hid hB
   clear ho hke hB
   go_wp2_with fail
   go_ret
   exact ⟨ret_string HR.out, HB.out⟩
def srt (_g : List Bl) (l : List Nat) (k : Nat) : List Nat := (List.range k).filter fun i => decide (i ∈ l)
theorem srt_yes {g : List Bl} {l : List Nat} {k : Nat} (h : k ∈ l) : srt g l (k + 1) = srt g l k ++ [k] := by
 unfold srt; rw [List.range_succ, List.filter_append, List.filter_cons, if_pos (by simpa using h)]; rfl
theorem srt_no {g : List Bl} {l : List Nat} {k : Nat} (h : k ∉ l) : srt g l (k + 1) = srt g l k := by
 unfold srt; rw [List.range_succ, List.filter_append, List.filter_cons, if_neg (by simpa using h), List.filter_nil, List.append_nil]
theorem srt_lt {g : List Bl} {l : List Nat} {k : Nat} (hk : k ≤ g.length) : ∀ i ∈ srt g l k, i < g.length := by
 intro i hi
 have := List.mem_range.1 (List.mem_filter.1 hi).1
 omega
theorem srt_len (g : List Bl) (l : List Nat) (k : Nat) : (srt g l k).length ≤ k := by
 have := List.length_filter_le (fun i => decide (i ∈ l)) (List.range k)
 simpa [srt] using this
theorem one_get {c : UInt8} {s : ByteArray} (h : s = ⟨#[c]⟩) (h0 : 0 < s.size) : s[0]'h0 = c := by subst h; rfl
set_option maxRecDepth 100000 in
theorem l1Sorted_any (A : Option Addr) (cap : Nat) (g : List Bl) (l : List Nat) (s : ByteArray) (w : World) (hg : Gr w A g) (hn : g.length + tot g ≤ 1048576) (hv : validB g = true) (hl : ∀ i ∈ l, i < g.length) (hs : s = namesAt g l) (hsz : s.size ≤ 4611686018427387904) :
  Calls Tryz.prog 163 #[.slice A g.length cap, .string s] w fun e w' => e = .returned (.string (namesAt g (srt g l g.length))) ∧ Below w.heap.size w w' := by
 have HV := Lib.hid hv
 have HS := Lib.hid hs
 have HL := Lib.hid hl
 clear hv hs hl
 go_enter Tryz.func163, Tryz.ntmps163
 go_wp2_with fail
 go_loopw [5, 10] (fun o i wr => ∃ k : Nat, k ≤ g.length ∧ i = .int .i64 k ∧ o = .string (namesAt g (srt g l k)) ∧ Below w.heap.size w wr) (fun _ i _ => g.length - (intOf i).toNat)
 case atStart => exact ⟨0, Nat.zero_le _, rfl, rfl, Below.refl _ _⟩
 case round =>
  obtain ⟨k, hk, rfl, rfl, hB⟩ := hrel
  obtain ⟨o, ho⟩ : ∃ o, o = namesAt g (srt g l k) := ⟨_, rfl⟩
  have hos : o.size ≤ k := by rw [ho, namesAt_size HV.out _ (srt_lt hk)]; exact srt_len g l k
  rw [← ho]
  have HO := Lib.hid ho
  by_cases hlt : k < g.length
  ·obtain ⟨b, off, t, t2, rfl, hb, hc0, hc1, he, he2⟩ := gr_at (hg.below hB) hlt
   obtain ⟨c, hc, _⟩ := valid_one HV.out (List.getElem_mem hlt)
   have htc : t = ⟨#[c]⟩ := he.symm.trans hc
   have ht1 : t.size = 1 := by rw [htc]; rfl
   have h0t : 0 < t.size := by omega
   have hidx := idx_namesAt HV.out HL.out hlt hc
   rw [← HS.out] at hidx
   obtain ⟨z, hz⟩ : ∃ z, z = Lib.indexByte s.data.toList c := ⟨_, rfl⟩
   rw [← hz] at hidx
   have HFC : Hid (∀ w, Calls Tryz.prog 114 #[.string s, .int .u8 (t[0]'h0t).toNat] w fun e w' => e = .returned (.int .i64 z) ∧ w = w') := fun w => by
    rw [hz, one_get htc h0t]; exact find_any s c w hsz
   have hB2 := hB.alloc hB.size (.cells #[.string t, .string t2] 45)
   have HB2 := Lib.hid hB2
   have HE := Lib.hid he
   have hst : o.size + t.size ≤ 1048576 := by omega
   clear he he2 hc htc hz ho hB2
   by_cases hin : k ∈ l
   ·have q2 : 0 ≤ z := hidx.2 hin
    have HSR := Lib.hid (show namesAt g (srt g l (k + 1)) = o ++ t by rw [srt_yes hin, namesAt_append, namesAt_one, HO.out, nthName_at hlt, HE.out])
    clear hidx hin
    go_wp2_with fail
    refine (HFC.out _).mono ?_
    rintro e w4 ⟨rfl, rfl⟩
    go_wp2_with fail
    go_roundw
    case rel => exact ⟨k + 1, by omega, by go_num, by rw [HSR.out], HB2.out⟩
    case measure => simp [intOf]; omega
   ·have q2 : ¬ 0 ≤ z := fun h => hin (hidx.1 h)
    have HSR := Lib.hid (show namesAt g (srt g l (k + 1)) = o by rw [srt_no hin, HO.out])
    clear hidx hin
    go_wp2_with fail
    refine (HFC.out _).mono ?_
    rintro e w4 ⟨rfl, rfl⟩
    go_wp2_with fail
    go_roundw
    case rel => exact ⟨k + 1, by omega, by go_num, by rw [HSR.out], HB2.out⟩
    case measure => simp [intOf]; omega
  ·have HSR := Lib.hid (show o = namesAt g (srt g l g.length) by rw [HO.out]; congr 2; omega)
   have HB := Lib.hid hB
   clear ho hB
   go_wp2_with fail
   go_ret
   exact ⟨ret_string HSR.out, HB.out⟩
theorem reachS_srt (g : List Bl) : reachS g = srt g (reach g) g.length := rfl
set_option maxRecDepth 100000 in
theorem l1Reached_any (A : Option Addr) (cap : Nat) (g : List Bl) (w : World) (hg : Gr w A g) (hn : g.length + tot g ≤ 1048576) (hv : validB g = true) :
  Calls Tryz.prog 122 #[.slice A g.length cap] w fun e w' => e = .returned (.string (namesAt g (reachS g))) ∧ Below w.heap.size w w' := by
 have hpos := (valid_iff.1 hv).1
 obtain ⟨b, off, t, t2, hA, hb, hc0, hc1, he, he2⟩ := gr_at hg hpos
 have hc0' : w.cell? ⟨b, off, none⟩ = some (.string t) := by simpa using hc0
 have H1 := Lib.hid (l1From_any A cap g t w hg (by omega) hv (by rw [nthName_at hpos, he]))
 have H2 := Lib.hid (fun w h => l1Sorted_any A cap g (reach g) (namesAt g (reach g)) w h hn hv (fun i hi => reach_lt hv hi) rfl (by rw [namesAt_size hv _ (fun i hi => reach_lt hv hi)]; have := reach_len hv; omega))
 have HG := Lib.hid hg
 clear hc0 hc1 he he2 hg hv
 subst hA
 go_enter Tryz.func122, Tryz.ntmps122
 go_wp2_with fail
 refine H1.out.mono ?_
 rintro e w1 ⟨rfl, b1⟩
 go_wp2_with fail
 refine (H2.out w1 (HG.out.below b1)).mono ?_
 rintro e w2 ⟨rfl, b2⟩
 go_wp2_with fail
 go_ret
 exact ⟨ret_string (by rw [reachS_srt]), below_trans_self b1 b2⟩
def reachV (g : List Bl) : ByteArray := if validB g then namesAt g (reachS g) else ⟨#[]⟩
theorem reachV_yes {g : List Bl} (h : validB g = true) : reachV g = namesAt g (reachS g) := by unfold reachV; rw [h]; rfl
theorem reachV_no {g : List Bl} (h : validB g = false) : reachV g = ⟨#[]⟩ := by unfold reachV; rw [h]; rfl
end Go.Proofs.YtlkfakdghjaoaaaGreatDoor

namespace Go.Proofs.YtlkfakdghjaoaaaGreatDoor
open Go.RowKit Go.Sort Go.Shelf
attribute [local go_sem] Oper.semAt_some
def NodesIn (w : World) (NB : Nat) (g : List Bl) : Prop := ∀ i (h : i < g.length), Blk w (nb NB i) 101 #[.int .i64 i, .string g[i].1, ends NB g i]
theorem NodesIn.of {w : World} {NB : Nat} {g : List Bl} (h : Nodes w NB g (ends NB g)) : NodesIn w NB g := h.node
theorem NodesIn.below {w w' : World} {NB : Nat} {g : List Bl} (h : NodesIn w NB g) (hb : Below w.heap.size w w') : NodesIn w' NB g := fun i hi => (hb.block _ (h i hi).lt).trans (h i hi)
theorem NodesIn.kept {w w' : World} {NB : Nat} {g : List Bl} {R : Nat → Prop} (h : NodesIn w NB g) (hk : Keeps R w w') (hR : ∀ i, i < g.length → R (nb NB i)) : NodesIn w' NB g :=
 fun i hi => (hk.2 _ (h i hi).lt (hR i hi)).trans (h i hi)
end Go.Proofs.YtlkfakdghjaoaaaGreatDoor
namespace Go.Proofs.YtlkfakdghjaoaaaGreatDoor
open Go.RowKit Go.Sort Go.Shelf
attribute [local go_sem] Oper.semAt_some
theorem below_put {n₀ : Nat} {a W : World} (h : Below n₀ a W) {l : Nat} (hl : n₀ ≤ l) (o : Obj) : Below n₀ a (W.putObj l o) :=
 h.trans ⟨rfl, rfl, rfl, by simp, fun k hk => World.putObj_heap_other (by omega)⟩
structure Disp2 (NB : Nat) (g : List Bl) (i : Nat) (T : TypeId) (v : Value) (F : FuncId) : Prop where
 val : ends NB g i = .iface T v
 look : ∀ w, (method 441 T v "loop.example/structuredjumps/impl.targets").run Tryz.prog w = .ok (F, v) w
 enter : ∀ args w, (callFunc F args).run Tryz.prog w = .ok (.enter F args) w
 goes : ∀ w, Calls Tryz.prog F #[v] w fun e w' => ∃ A, e = .returned (.slice A (nxt g i).length (nxt g i).length) ∧ Below w.heap.size w w' ∧
  (0 < (nxt g i).length → ∃ b, A = some ⟨b, 0, none⟩ ∧ w.heap.size ≤ b ∧ Blk w' b 95 ((nxt g i).map (nptr NB)).toArray)
theorem disp2 {NB : Nat} {g : List Bl} (hv : validB g = true) {i : Nat} (hi : i < g.length) : ∃ T v F, Disp2 NB g i T v F := by
 rcases ends_of (NB := NB) hi (goes hv hi) with ⟨hn, he⟩ | ⟨p, hp, hn, he⟩ | ⟨p, q, hp, hq, hn, he⟩
 ·refine ⟨_, _, _, he, fun w => look_stop w, enters_of Tryz.func295 (by kernel_rfl) rfl, fun w => ?_⟩
  refine (stop_targets w).mono ?_
  rintro e w' ⟨rfl, hB⟩
  rw [hn]
  exact ⟨none, rfl, hB, fun h => absurd h (by simp)⟩
 ·refine ⟨_, _, _, he, fun w => look_jump _ w, enters_of Tryz.func290 (by kernel_rfl) rfl, fun w => ?_⟩
  refine (jump_targets _ w).mono ?_
  rintro e w' ⟨rfl, hb, hB⟩
  rw [hn]
  exact ⟨_, rfl, hB, fun _ => ⟨_, rfl, by omega, hb⟩⟩
 ·refine ⟨_, _, _, he, fun w => look_branch _ _ w, enters_of Tryz.func291 (by kernel_rfl) rfl, fun w => ?_⟩
  refine (branch_targets _ _ w).mono ?_
  rintro e w' ⟨rfl, hb, hB⟩
  rw [hn]
  exact ⟨_, rfl, hB, fun _ => ⟨_, rfl, by omega, hb⟩⟩
theorem nxt_two {g : List Bl} (hv : validB g = true) {i : Nat} (hi : i < g.length) : (nxt g i).length ≤ 2 := by
 rcases goes hv hi with ⟨h, _⟩ | ⟨p, hp, h, _⟩ | ⟨p, q, hp, hq, h, _⟩ <;> rw [h] <;> simp
end Go.Proofs.YtlkfakdghjaoaaaGreatDoor
namespace Go.Proofs.YtlkfakdghjaoaaaGreatDoor
open Go.RowKit Go.Sort
end Go.Proofs.YtlkfakdghjaoaaaGreatDoor
