import Derived.Test.YtlkfakdghjaoaaaGreatDoorJ3
import Derived.OwnWalk
import Derived.Test.YtlkfakdghjaoaaaGreatDoorJ4
import Derived.Deep.AppendLies
import Derived.Deep.RegionLaw
import Derived.RangeFuncBound
import Derived.RangeFuncCalls
import Derived.RangeFuncLeaves
import Derived.Shelf.Abstract
import Derived.Shelf.RegionOpen
import Derived.WalkKit
import Derived.OwnWalkIn
import Derived.TacticsInMore
import Derived.LoopNIn
import Derived.LoopIn
import Derived.Sort.LoopGhostIn
set_option maxHeartbeats 1600000
set_option maxRecDepth 100000
namespace Go.Proofs.YtlkfakdghjaoaaaGreatDoor
open Go.RowKit Go.Sort
def fI (c : UInt8) : List UInt8 → List (List UInt8)
 | [] => [[]]
 | b :: l => if b = c then [] :: fI c l else match fI c l with | p :: ps => (b :: p) :: ps | [] => [[b]]
theorem yK {c : UInt8} : ∀ {l : List UInt8}, (∀ x ∈ l, x ≠ c) → fI c l = [l]
 | [], _ => rfl
 | b :: l, h => by
  have hb : b ≠ c := h b (by simp)
  have ih := yK (l := l) fun x hx => h x (List.mem_cons_of_mem _ hx)
  simp [fI, hb, ih]
theorem yL {c : UInt8} : ∀ {l : List UInt8} {r : List UInt8}, (∀ x ∈ l, x ≠ c) → fI c (l ++ c :: r) = l :: fI c r
 | [], r, _ => by simp [fI]
 | b :: l, r, h => by
  have hb : b ≠ c := h b (by simp)
  have ih := yL (l := l) (r := r) fun x hx => h x (List.mem_cons_of_mem _ hx)
  simp [fI, hb, ih]
def mk (l : List UInt8) : ByteArray := ⟨l.toArray⟩
def aE (c : UInt8) (s : ByteArray) : List ByteArray := (fI c s.data.toList).map mk
def CutInv (c : UInt8) (s : ByteArray) (f k : Nat) (ps : List ByteArray) : Prop :=
 (f ≤ k ∧ k ≤ s.size ∧ (∀ j (h : j < s.size), f ≤ j → j < k → s[j] ≠ c) ∧ aE c s = ps ++ (fI c (s.data.toList.drop f)).map mk) ∨ (k = s.size + 1 ∧ ps = aE c s)
theorem Cc (s : ByteArray) (f k : Nat) : (s.extract f k).data.toList = (s.data.toList.drop f).take (k - f) := by
 rw [← Lib.toList_data, Lib.extract_toList]
theorem rn (s : ByteArray) (f k : Nat) : mk ((s.data.toList.drop f).take (k - f)) = s.extract f k := by
 apply bg; rw [Cc]; simp [mk]
theorem tO {c : UInt8} {s : ByteArray} {f k : Nat} (h : ∀ j (h : j < s.size), f ≤ j → j < k → s[j] ≠ c) : ∀ x ∈ (s.data.toList.drop f).take (k - f), x ≠ c := by
 intro x hx
 obtain ⟨i, hi, rfl⟩ := List.getElem_of_mem hx
 have hi1 : i < k - f := by simp at hi; omega
 have hi2 : f + i < s.size := by simp at hi; omega
 rw [List.getElem_take, List.getElem_drop]
 have := aF s (f + i) hi2
 rw [List.getElem?_eq_getElem (by simp; omega)] at this
 rw [Option.some.inj this]
 exact h _ hi2 (by omega) (by omega)
theorem CutInv.start (c : UInt8) (s : ByteArray) : CutInv c s 0 0 [] :=
 .inl ⟨Nat.le_refl _, Nat.zero_le _, fun j _ _ h => absurd h (by omega), by simp [aE]⟩
theorem CutInv.last {c : UInt8} {s : ByteArray} {f : Nat} {ps : List ByteArray} (h : CutInv c s f s.size ps) : CutInv c s (s.size + 1) (s.size + 1) (ps ++ [s.extract f s.size]) := by
 rcases h with ⟨hf, _, hno, he⟩ | ⟨h, _⟩
 ·refine .inr ⟨rfl, ?_⟩
  have hl : s.data.toList.length = s.size := by rw [Array.length_toList]; rfl
  have h1 : (s.data.toList.drop f).take (s.size - f) = s.data.toList.drop f := List.take_of_length_le (by rw [List.length_drop, hl]; exact Nat.le_refl _)
  have h2 := tO hno
  have h3 := rn s f s.size
  rw [h1] at h2 h3
  rw [he, yK h2, List.map_cons, List.map_nil, h3]
 ·omega
theorem CutInv.hit {c : UInt8} {s : ByteArray} {f k : Nat} {ps : List ByteArray} (h : CutInv c s f k ps) (hk : k < s.size) (hc : s[k] = c) : CutInv c s (k + 1) (k + 1) (ps ++ [s.extract f k]) := by
 rcases h with ⟨hf, _, hno, he⟩ | ⟨h, _⟩
 ·refine .inl ⟨Nat.le_refl _, hk, fun j _ h1 h2 => absurd h2 (by omega), ?_⟩
  have hl : s.data.toList.length = s.size := by rw [Array.length_toList]; rfl
  have h2 := tO hno
  have h3 := rn s f k
  have h4 : s.data.toList.drop f = (s.data.toList.drop f).take (k - f) ++ c :: s.data.toList.drop (k + 1) := by
   have e1 := List.take_append_drop (k - f) (s.data.toList.drop f)
   have e2 : (s.data.toList.drop f).drop (k - f) = s.data.toList.drop k := by rw [List.drop_drop]; congr 1; omega
   have e3 : s.data.toList.drop k = c :: s.data.toList.drop (k + 1) := by
    rw [List.drop_eq_getElem_cons (by omega)]
    have := aF s k hk
    rw [List.getElem?_eq_getElem (by omega)] at this
    rw [Option.some.inj this, hc]
   rw [e2, e3] at e1
   exact e1.symm
  rw [he, h4, yL h2, List.map_cons, h3, List.append_assoc, List.singleton_append]
 ·omega
theorem CutInv.miss {c : UInt8} {s : ByteArray} {f k : Nat} {ps : List ByteArray} (h : CutInv c s f k ps) (hk : k < s.size) (hc : s[k] ≠ c) : CutInv c s f (k + 1) ps := by
 rcases h with ⟨hf, _, hno, he⟩ | ⟨h, _⟩
 ·refine .inl ⟨by omega, hk, fun j hj h1 h2 => ?_, he⟩
  rcases Nat.lt_succ_iff_lt_or_eq.1 h2 with h3 | rfl
  ·exact hno j hj h1 h3
  ·exact hc
 ·omega
theorem CutInv.done {c : UInt8} {s : ByteArray} {f k : Nat} {ps : List ByteArray} (h : CutInv c s f k ps) (hk : ¬ k ≤ s.size) : ps = aE c s := by
 rcases h with ⟨_, h, _⟩ | ⟨_, h⟩
 ·omega
 ·exact h
theorem CutInv.le {c : UInt8} {s : ByteArray} {f k : Nat} {ps : List ByteArray} (h : CutInv c s f k ps) (hk : k ≤ s.size) : f ≤ k := by
 rcases h with ⟨h, _⟩ | ⟨h, _⟩ <;> omega
theorem E8 {w : World} {b1 b2 n1 n2 s1 s2 : Nat} {e1 e2 : TypeId} {v1 v2 : Value} {x1 x2 : List Value} (h1 : w.ownsRow b1 e1 s1 v1 n1 x1) (h2 : w.ownsRow b2 e2 s2 v2 n2 x2) (hne : e1 ≠ e2) : v1.ownBlock = none ∨ v1.ownBlock ≠ v2.ownBlock := by
 rcases h1.2 with ⟨rfl, _⟩ | ⟨g1, c1, u1, rfl, _, hg1, _⟩
 ·exact .inl rfl
 ·rcases h2.2 with ⟨rfl, _⟩ | ⟨g2, c2, u2, rfl, _, hg2, _⟩
  ·exact .inr (by simp [Value.ownBlock])
  ·refine .inr fun e => ?_
   have hgg : g1 = g2 := by simpa [Value.ownBlock] using e
   subst hgg
   rw [hg1] at hg2
   injection hg2 with hg2
   injection hg2 with _ ht
   exact hne ht
def yM (c : UInt8) (s : ByteArray) (w : World) (e : Ending) (w' : World) : Prop :=
 ∃ A cap, e = .returned (.slice A (aE c s).length cap) ∧ OwnStr w' w.heap.size (.slice A (aE c s).length cap) (aE c s) ∧ Below w.heap.size w w'
theorem E9 (s : ByteArray) (c : UInt8) (w : World) (hs : s.size ≤ 1048576) :
  Calls Tryz.prog 171 #[.string s, .int .u8 c.toNat] w (yM c s w) := by
 obtain ⟨i0, hi, hz0, hz1, hz2⟩ := info_parts km
 go_enter Tryz.func171, Tryz.ntmps171
 go_wp2_with fail
 have HO0 := GR (World.ownsRow_made (base := w.heap.size) (e := 9) (size := 1) w #[] 0 (Nat.le_refl _) (Nat.zero_le _) rfl)
 go_loopw [5, 6, 7] (fun v f i wr => ∃ (a k : Nat) (ps : List ByteArray), k ≤ s.size + 1 ∧ i = .int .i64 k ∧ f = .int .i64 a ∧ ps.length ≤ k ∧ Hid (CutInv c s a k ps) ∧ wr.ownsRow w.heap.size 9 1 v ps.length (ps.map Value.string) ∧ Below w.heap.size w wr) (fun _ _ i _ => s.size + 1 - (intOf i).toNat)
 case atStart => exact ⟨0, 0, [], Nat.zero_le _, rfl, rfl, Nat.le_refl _, CutInv.start c s, HO0.out, (Below.refl _ _).alloc (Nat.le_refl _) _⟩
 case round =>
  obtain ⟨a, k, ps, hk, rfl, rfl, hlen, HI, hown, hB⟩ := hrel
  by_cases hle : k ≤ s.size
  ·have hak := HI.out.le hle
   have HOWN := GR hown
   have hBs := hB.size
   by_cases hcut : k = s.size ∨ ∃ h : k < s.size, s[k] = c
   ·have HNEXT : Hid (CutInv c s (k + 1) (k + 1) (ps ++ [s.extract a k])) := by
     rcases hcut with rfl | ⟨h, hc⟩
     ·exact HI.out.last
     ·exact HI.out.hit h hc
    have hsplit : ((k : Int) == (s.size : Int)) = true ∨ (((k : Int) == (s.size : Int)) = false ∧ ∃ h : k < s.size, ((s[k].toNat : Int) == (c.toNat : Int)) = true) := by
     by_cases he : k = s.size
     ·exact .inl (by rw [he]; simp)
     ·rcases hcut with h | ⟨h, hc⟩
      ·exact absurd h he
      ·exact .inr ⟨by simp; omega, h, by rw [hc]; simp⟩
    clear hcut hown
    rcases hsplit with g1 | ⟨g1, hlt, g2⟩
    all_goals
     go_wp2_with (at_builtin; refine wpList_append_own _ rfl _ _ 37 rfl w.heap.size 9 i0 (.string ⟨#[]⟩) 1 16 Tryz.underlying37 hi hz0 hz1 hz2 rfl (by decide) _ _ _ rfl (HOWN.out.alloc _) ⟨wr.heap.size, 0, none⟩ 1 1 [.string (s.extract a k)] rfl rfl ?c1 ?c2 ?c3 ?c4 ?c5 ?_)
     case c1 =>
      intro j u hj
      match j, hj with
      | 0, hj =>
       have hu : Value.string (s.extract a k) = u := by simpa using hj
       rw [← hu]
       simp [Addr.add]
     case c2 => intro u hu; have hu' : u = .string (s.extract a k) := by simpa using hu
                subst hu'; rfl
     case c3 => unfold maxLen; omega
     case c4 => omega
     case c5 => simp; omega
     intro v' w5 hown' hgrow _
     have hsz := (HOWN.out.alloc (.cells #[.string (s.extract a k)] 9)).lt
     have hB5 := (hB.alloc hBs (.cells #[.string (s.extract a k)] 9)).grown hgrow (by simp; omega) (fun j hj => (hsz j hj).1)
     have HO5 : Hid (w5.ownsRow w.heap.size 9 1 v' (ps ++ [s.extract a k]).length ((ps ++ [s.extract a k]).map Value.string)) := by
      show w5.ownsRow w.heap.size 9 1 v' (ps ++ [s.extract a k]).length ((ps ++ [s.extract a k]).map Value.string)
      rw [List.length_append, List.map_append]; exact hown'
     clear hown' hsz hgrow
     go_wp2_with fail
     go_roundw
     case rel => exact ⟨k + 1, k + 1, ps ++ [s.extract a k], by omega, by go_num, by go_num, by simp; omega, HNEXT.out, HO5.out, hB5⟩
     case measure => simp [intOf]; omega
   ·have hlt : k < s.size := by
     rcases Nat.lt_or_ge k s.size with h | h
     ·exact h
     ·exact absurd (.inl (by omega)) hcut
    have g1 : ((k : Int) == (s.size : Int)) = false := by simp; omega
    have hne : s[k] ≠ c := fun e => hcut (.inr ⟨hlt, e⟩)
    have g2 := dI hne
    have HNEXT := GR (HI.out.miss hlt hne)
    clear hcut hne hown
    go_wp2_with fail
    go_roundw
    case rel => exact ⟨a, k + 1, ps, by omega, by go_num, rfl, by omega, HNEXT.out, HOWN.out, hB⟩
    case measure => simp [intOf]; omega
  ·obtain ⟨A, cap, hv, _⟩ := gO hown
   have hps := HI.out.done hle
   rw [hps] at hv hown
   rw [hv] at hown ⊢
   have HST := GR hown
   clear hv hown hps
   go_wp2_with fail
   exact bodyPost_ret (v := .slice A (aE c s).length cap) (by simp [results, Tryz.results171, go_sem]) rfl ⟨A, cap, rfl, HST.out, hB⟩
end Go.Proofs.YtlkfakdghjaoaaaGreatDoor
namespace Go.Proofs.YtlkfakdghjaoaaaGreatDoor
open Go.RowKit Go.Sort
def fk (p : ByteArray) : Bl := (p.extract 0 1, p.extract 2 p.size)
def kO (ps : List ByteArray) : Bool := ps.all fun p => decide (2 ≤ p.size)
def eo (s : ByteArray) : List Bl := (aE 44 s).map fk
def gv (s : ByteArray) : Bool := kO (aE 44 s) && decide (gC (eo s) = s)
def eq (s : ByteArray) : List Bl := if gv s then eo s else []
theorem tP {ps : List ByteArray} : kO ps = true ↔ ∀ k (h : k < ps.length), 2 ≤ ps[k].size := by
 unfold kO
 rw [List.all_eq_true]
 constructor
 ·intro h k hk; simpa using h _ (List.getElem_mem hk)
 ·intro h p hp
  obtain ⟨k, hk, rfl⟩ := List.getElem_of_mem hp
  simpa using h k hk
def gE (ps : List ByteArray) : Nat := (ps.map ByteArray.size).sum
theorem od (c : UInt8) : ∀ l : List UInt8, ((fI c l).map List.length).sum + (fI c l).length = l.length + 1
 | [] => rfl
 | b :: l => by
  have ih := od c l
  by_cases hb : b = c
  ·simp [fI, hb]; omega
  ·cases h : fI c l with
   | nil => rw [h] at ih; simp at ih
   | cons p ps => rw [h] at ih; simp [fI, hb, h] at ih ⊢; omega
theorem lm (c : UInt8) (s : ByteArray) : gE (aE c s) + (aE c s).length = s.size + 1 := by
 have h := od c s.data.toList
 have e : gE (aE c s) = ((fI c s.data.toList).map List.length).sum := by
  unfold gE aE
  rw [List.map_map]
  congr 1
 rw [e]
 have e2 : (aE c s).length = (fI c s.data.toList).length := by simp [aE]
 have e3 : s.data.toList.length = s.size := by rw [Array.length_toList]; rfl
 omega
theorem Ah (p : ByteArray) (h : 2 ≤ p.size) : (fk p).1.size + (fk p).2.size + 1 = p.size := by
 unfold fk
 simp only [ByteArray.size_extract]
 omega
theorem mN : ∀ {ps : List ByteArray}, kO ps = true → (ps.map fk).length + aO (ps.map fk) = gE ps
 | [], _ => rfl
 | p :: ps, h => by
  have h1 : decide (2 ≤ p.size) = true ∧ kO ps = true := by simpa [kO] using h
  have ih := mN h1.2
  have h2 := Ah p (by simpa using h1.1)
  have e : gE (p :: ps) = p.size + gE ps := by simp [gE]
  rw [e]
  simp only [List.map_cons, List.length_cons, aO] at ih ⊢
  omega
def cz (g : List Bl) : List Value := g.flatMap fun b => [.string b.1, .string b.2]
theorem gJ (g h : List Bl) : cz (g ++ h) = cz g ++ cz h := by simp [cz]
theorem uA (g : List Bl) : (cz g).length = g.length * 2 := by
 induction g with
 | nil => rfl
 | cons b g ih => simp only [cz, List.flatMap_cons, List.length_append, List.length_cons, List.length_nil] at ih ⊢; omega
theorem oe : ∀ {g : List Bl} {k : Nat} (h : k < g.length), (cz g)[k * 2]? = some (.string g[k].1) ∧ (cz g)[k * 2 + 1]? = some (.string g[k].2)
 | b :: g, 0, _ => by simp [cz]
 | b :: g, k + 1, h => by
  have ih := oe (g := g) (k := k) (by simpa using h)
  have e : cz (b :: g) = .string b.1 :: .string b.2 :: cz g := rfl
  have e1 : (k + 1) * 2 = k * 2 + 1 + 1 := by omega
  rw [e, e1]
  simpa using ih
abbrev fN (w : World) (base : Nat) (v : Value) (g : List Bl) : Prop := w.ownsRow base 45 2 v g.length (cz g)
theorem rp {w : World} {base : Nat} {v : Value} {g : List Bl} (h : fN w base v g) : ∃ A cap, v = .slice A g.length cap ∧ g.length ≤ cap ∧ Gr w A g := by
 rcases h.2 with ⟨rfl, hn⟩ | ⟨gb, cap, cur, hv, _, hg, hnc, _⟩
 ·exact ⟨none, 0, by rw [hn], by omega, fun hpos => absurd hpos (by omega)⟩
 ·subst hv
  refine ⟨_, _, rfl, hnc, fun _ => ⟨gb, 0, rfl, ?_, fun j hj => ?_⟩⟩
  ·rcases Nat.lt_or_ge gb w.heap.size with h' | h'
   ·exact h'
   ·rw [Array.getElem?_eq_none h'] at hg; cases hg
  ·have c0 := h.cellAt (j * 2) (by omega)
   have c1 := h.cellAt (j * 2 + 1) (by omega)
   rw [(oe hj).1] at c0
   rw [(oe hj).2] at c1
   rw [Nat.zero_add]
   exact ⟨c0, c1⟩
def tQ (s : ByteArray) (w : World) (e : Ending) (w' : World) : Prop :=
 ∃ v, e = .returned (.tuple #[v, .bool (gv s)]) ∧ fN w' w.heap.size v (eq s) ∧ Below w.heap.size w w'
theorem xY {s : ByteArray} {k : Nat} (h : k < (aE 44 s).length) : ((aE 44 s).take (k + 1)).map fk = ((aE 44 s).take k).map fk ++ [fk (aE 44 s)[k]] := by
 rw [List.take_succ_eq_append_getElem h, List.map_append]; rfl
theorem uB (s : ByteArray) (w : World) (hs : s.size ≤ 1048576) :
  Calls Tryz.prog 134 #[.string s] w (tQ s w) := by
 obtain ⟨i0, hi, hz0, hz1, hz2⟩ := info_parts lY
 have HPL := GR (lm 44 s)
 have HC : Hid (∀ w, Calls Tryz.prog 171 #[.string s, .int .u8 44] w (yM 44 s w)) := fun w => E9 s 44 w hs
 go_enter Tryz.func134, Tryz.ntmps134
 go_wp2_with fail
 have HO0 := GR (World.ownsRow_made (base := w.heap.size) (e := 45) (size := 2) w #[] 0 (Nat.le_refl _) (Nat.zero_le _) rfl)
 refine (HC.out _).mono ?_
 rintro e w1 ⟨A, cap, rfl, hst, b1⟩
 have HST := GR hst
 have HO1 : Hid (fN w1 w.heap.size (.slice (some ⟨w.heap.size, 0, none⟩) 0 0) []) := f8 HO0.out b1
 have hB1 := (Below.refl w.heap.size w).alloc (Nat.le_refl _) (.cells #[] 45)
 have hB1 := af hB1 b1
 have hlen : (aE 44 s).length ≤ 1048577 := by have := HPL.out; omega
 clear hst
 go_wp2_with fail
 go_loopw [4, 11] (fun v i wr => ∃ k : Nat, k ≤ (aE 44 s).length ∧ i = .int .i64 k ∧ fN wr w.heap.size v (((aE 44 s).take k).map fk) ∧ OwnStr wr (w.alloc (.cells #[] 45)).heap.size (.slice A (aE 44 s).length cap) (aE 44 s) ∧ Hid (∀ j (h : j < (aE 44 s).length), j < k → 2 ≤ (aE 44 s)[j].size) ∧ Below w.heap.size w wr) (fun _ i _ => (aE 44 s).length - (intOf i).toNat)
 case atStart => exact ⟨0, Nat.zero_le _, rfl, HO1.out, HST.out, fun j _ h => absurd h (by omega), hB1⟩
 case round =>
  obtain ⟨k, hk, rfl, hown, hstr, HK, hB⟩ := hrel
  by_cases hlt : k < (aE 44 s).length
  ·obtain ⟨b, off, rfl, hb, hc⟩ := hstr.strs (by omega)
   have x0 := hc k hlt
   obtain ⟨p, hp⟩ : ∃ p, p = (aE 44 s)[k] := ⟨_, rfl⟩
   rw [← hp] at x0
   have HP := GR hp
   have HOWN := GR hown
   have HSTR := GR hstr
   have hBs := hB.size
   clear hp hc hown hstr
   by_cases hp2 : p.size < 2
   ·have g1 : decide ((p.size : Int) < 2) = true := by simp; omega
    have HF := GR (show gv s = false by
     unfold gv
     have : kO (aE 44 s) = false := Bool.eq_false_iff.2 fun e => by have := tP.1 e k hlt; rw [← HP.out] at this; omega
     rw [this]; rfl)
    have HE := GR (show eq s = [] by unfold eq; rw [HF.out]; rfl)
    go_wp2_with fail
    refine bodyPost_ret (v := .tuple #[.slice (some ⟨wr.heap.size, 0, none⟩) 0 0, .bool false]) (by simp [results, Tryz.results134, go_sem]) rfl ⟨.slice (some ⟨wr.heap.size, 0, none⟩) 0 0, by rw [HF.out], ?_, hB.alloc hBs _⟩
    rw [HE.out]
    exact World.ownsRow_made wr #[] 0 hBs (Nat.zero_le _) rfl
   ·have g1 : decide ((p.size : Int) < 2) = false := by simp; omega
    have l1 : 1 ≤ p.size := by omega
    have l2 : (1 : Int) ≤ p.size := by omega
    have l3 : (2 : Int) ≤ p.size := by omega
    have hlk : (((aE 44 s).take k).map fk).length ≤ 1048577 := by simp; omega
    go_wp2_with fail
    go_region_law ((refine step_append_lies _ (by rfl) _ _ _ (by rfl) w.heap.size 45 i0 _ 2 32 Tryz.underlying23 hi hz0 hz1 hz2 rfl (by omega) _ _ _ (by rfl) ((HOWN.out.alloc _).drew) ⟨wr.heap.size, 0, none⟩ 1 1 [.string (p.extract 0 1), .string (p.extract 2 p.size)] (by rfl) (by rfl) (World.news_of_block (cs := #[.string (p.extract 0 1), .string (p.extract 2 p.size)]) (t := 45) (fr := (0, 0)) (heap_alloc_new wr _)) (by simp [Value.oneCell']) (by omega) (by unfold maxLen; omega) (by omega) (by simp; omega) (wr.heap.size + 1) (by simp) ?_; intro gg capg w5 hown5 hgrow hat hltg))
    have hsz := ((HOWN.out.alloc (.cells #[.string (p.extract 0 1), .string (p.extract 2 p.size)] 45)).drew).lt
    have hB5 := ((hB.alloc hBs (.cells #[.string (p.extract 0 1), .string (p.extract 2 p.size)] 45)).drew).grown hgrow (by simp; omega) (fun j hj => (hsz j hj).1)
    have hS5 : OwnStr w5 (w.alloc (.cells #[] 45)).heap.size (.slice (some ⟨b, off, none⟩) (aE 44 s).length cap) (aE 44 s) :=
     ((HSTR.out.alloc (.cells #[.string (p.extract 0 1), .string (p.extract 2 p.size)] 45)).drew).kept hgrow (E8 (((HSTR.out.alloc (.cells #[.string (p.extract 0 1), .string (p.extract 2 p.size)] 45)).drew)) (((HOWN.out.alloc (.cells #[.string (p.extract 0 1), .string (p.extract 2 p.size)] 45)).drew)) (by decide))
    have HS5 := GR hS5
    have hkl : (((aE 44 s).take k).map fk).length = k := by simp; omega
    have HO5 : Hid (fN w5 w.heap.size (.slice (some ⟨gg, 0, none⟩) (k + 1) capg) (((aE 44 s).take (k + 1)).map fk)) := by
     show w5.ownsRow w.heap.size 45 2 (.slice (some ⟨gg, 0, none⟩) (k + 1) capg) (((aE 44 s).take (k + 1)).map fk).length (cz (((aE 44 s).take (k + 1)).map fk))
     rw [xY hlt, List.length_append, gJ, hkl, ← HP.out]
     rw [hkl] at hown5
     exact hown5
    clear hown5 hsz hgrow hat hkl hS5 hlk
    go_wp2_with fail
    go_roundw
    case rel =>
     refine ⟨k + 1, by omega, by go_num, HO5.out, HS5.out, fun j h hj => ?_, hB5⟩
     rcases Nat.lt_succ_iff_lt_or_eq.1 hj with hj | rfl
     ·exact HK.out j h hj
     ·rw [← HP.out]; omega
    case measure => simp [intOf]; omega
  ·have hkk : k = (aE 44 s).length := by omega
   have hlong : kO (aE 44 s) = true := tP.2 fun j h => HK.out j h (by omega)
   rw [hkk, List.take_length] at hown
   obtain ⟨A5, cap5, hv5, hc5, hg5⟩ := rp hown
   have htot : (eo s).length + aO (eo s) ≤ 1048576 := by
    have h1 : (eo s).length + aO (eo s) = gE (aE 44 s) := mN hlong
    have h2 := HPL.out
    have h3 : 0 < (aE 44 s).length ∨ (aE 44 s).length = 0 := by omega
    have h4 : (aE 44 s).length ≠ 0 := by
     intro e
     have := od 44 s.data.toList
     have e2 : (fI 44 s.data.toList).length = 0 := by simpa [aE] using e
     rw [List.eq_nil_of_length_eq_zero e2] at this
     simp at this
    omega
   have hf := r8 A5 cap5 (eo s) wr hg5 htot hc5
   have hpl : (eo s).length = (aE 44 s).length := by simp [eo]
   rw [hpl] at hf
   rw [List.length_map] at hv5
   have HF := GR hf
   rw [hv5] at hown ⊢
   have HOWN := GR hown
   have HL := GR hlong
   have hBs := hB.size
   clear hf hv5 hown hlong hkk htot hpl
   by_cases he : gC (eo s) = s
   ·have g1 : ((gC (eo s)).toList == s.toList) = true := dS.2 he
    have HOK := GR (show gv s = true by unfold gv; rw [HL.out, he]; simp)
    have HV := GR (show eq s = eo s by unfold eq; rw [HOK.out]; rfl)
    clear he
    go_wp2_with fail
    refine HF.out.mono ?_
    rintro e w6 ⟨rfl, b6⟩
    go_wp2_with fail
    refine bodyPost_ret (v := .tuple #[.slice A5 (aE 44 s).length cap5, .bool true]) (by simp [results, Tryz.results134, go_sem]) rfl ⟨.slice A5 (aE 44 s).length cap5, by rw [HOK.out], ?_, hB.trans (b6.mono hBs)⟩
    rw [HV.out]
    exact f8 HOWN.out b6
   ·have g1 : ((gC (eo s)).toList == s.toList) = false := Bool.eq_false_iff.2 fun e => he (dS.1 e)
    have HOK := GR (show gv s = false by unfold gv; rw [HL.out]; simpa using he)
    have HV := GR (show eq s = [] by unfold eq; rw [HOK.out]; rfl)
    clear he
    go_wp2_with fail
    refine HF.out.mono ?_
    rintro e w6 ⟨rfl, b6⟩
    go_wp2_with fail
    have hs6 := b6.size
    refine bodyPost_ret (v := .tuple #[.slice (some ⟨w6.heap.size, 0, none⟩) 0 0, .bool false]) (by simp [results, Tryz.results134, go_sem]) rfl ⟨.slice (some ⟨w6.heap.size, 0, none⟩) 0 0, by rw [HOK.out], ?_, (hB.trans (b6.mono hBs)).alloc (by omega) _⟩
    rw [HV.out]
    exact World.ownsRow_made w6 #[] 0 (by omega) (Nat.zero_le _) rfl
end Go.Proofs.YtlkfakdghjaoaaaGreatDoor

set_option maxRecDepth 100000
set_option maxHeartbeats 2000000
namespace Go.Proofs.YtlkfakdghjaoaaaGreatDoor
open Go.RowKit Go.Sort
theorem Cd (c : UInt8) : Lib.indexByte (⟨#[]⟩ : ByteArray).data.toList c = -1 := by
 have : ¬ 0 ≤ Lib.indexByte (⟨#[]⟩ : ByteArray).data.toList c := by rw [eT]; simp
 exact uI fun j hj => by simp at hj
theorem gR {g : List Bl} (hv : aa g = true) {i : Nat} (hi : i < g.length) : g[i].2.size ≤ 2 := (bG.1 (cR.1 (aj.1 hv).2.2.2 i hi)).1
theorem yN {g : List Bl} (hv : aa g = true) {i k : Nat} (hi : i < g.length) {ts : List Nat} (h : ts ⊆ ai g i) : ∀ x ∈ cw (bR g k) ts, x < g.length := by
 intro x hx
 rcases (je _ _ _).1 hx with h1 | h1
 ·exact kt hv k x h1
 ·exact bP hv hi (h h1)
theorem Fa {g : List Bl} (hv : aa g = true) {i k : Nat} (hi : i < g.length) {ts : List Nat} (h : ts ⊆ ai g i) : (cw (bR g k) ts).length ≤ g.length :=
 bS _ _ (gD _ _ (jf g k)) (yN hv hi h)
theorem Ai (A : Option Addr) (cap : Nat) (g : List Bl) (s : ByteArray) (w : World) (hg : Gr w A g) (hn : g.length ≤ 1048576) (hv : aa g = true) (hs : s = ay g 0) :
  Calls Tryz.prog 164 #[.slice A g.length cap, .string s, .string ⟨#[]⟩] w fun e w' => e = .returned (.string (ae g (cI g))) ∧ Below w.heap.size w w' := by
 have hpos := (aj.1 hv).1
 have h26 := (aj.1 hv).2.1
 have hs1 : s.size = 1 := by obtain ⟨c, hc, _⟩ := a8 hv (List.getElem_mem hpos); rw [hs, al hpos, hc]; rfl
 have h0s : 0 < s.size := by omega
 have HF : Hid (∀ w, Calls Tryz.prog 114 #[.string ⟨#[]⟩, .int .u8 (s[0]'h0s).toNat] w fun e w' => e = .returned (.int .i64 (-1)) ∧ w = w') := fun w => by
  have := bf (⟨#[]⟩ : ByteArray) (s[0]'h0s) w (by have : (⟨#[]⟩ : ByteArray).size = 0 := rfl; omega)
  rw [Cd] at this; exact this
 have HV := GR hv
 have HG := GR hg
 have HS := GR hs
 clear hv hg hs
 go_enter Tryz.func164, Tryz.ntmps164
 go_wp2_with fail
 refine (HF.out w).mono ?_
 rintro e w1 ⟨rfl, rfl⟩
 go_wp2_with fail
 go_loopg [7, 8] g.length (fun gk s i wr => ∃ k, gk = g.length - k ∧ k ≤ (bR g k).length ∧ s = .string (ae g (bR g k)) ∧ i = .int .i64 k ∧ Below w.heap.size w wr)
 case atStart => exact ⟨0, rfl, by simp, by rw [HS.out]; show _ = Value.string (ae g [0]); rw [bp], rfl, Below.refl _ _⟩
 case round =>
  obtain ⟨k, rfl, hkl, rfl, rfl, hB⟩ := hrel
  have hlen := yH HV.out k
  obtain ⟨o, ho⟩ : ∃ o, o = ae g (bR g k) := ⟨_, rfl⟩
  have hos : o.size = (bR g k).length := by rw [ho, ax HV.out _ (kt HV.out k)]
  rw [← ho]
  by_cases hlt : k < (bR g k).length
  ·obtain ⟨x, hx⟩ : ∃ x, x = (bR g k)[k] := ⟨_, rfl⟩
   have hxl : x < g.length := hx ▸ kt HV.out k _ (List.getElem_mem hlt)
   obtain ⟨_, hcut⟩ := dD HV.out (kt HV.out k) hlt
   have hcut' : o.extract k (k + 1) = g[x].1 := by rw [ho, hcut]; congr 2; exact hx.symm
   have HN := GR (gq A cap g (o.extract k (k + 1)) x wr (HG.out.keep hB.size (fun b o hlt => hB.cell (p := ⟨b, o, none⟩) hlt)) hn (by rw [hcut']; exact gu HV.out hxl) hxl)
   have q1 : ((k : Int) < o.size) := by omega
   have hko : k + 1 ≤ o.size := by omega
   obtain ⟨nx, hnx⟩ : ∃ nx, nx = g[x].2 := ⟨_, rfl⟩
   have hnl : nx.size ≤ 2 := hnx ▸ gR HV.out hxl
   rw [← hnx] at HN
   have HO := GR ho
   have HX := GR hx
   have HNX := GR hnx
   have HB := GR hB
   have HLT := GR hlt
   have HLEN := GR hlen
   clear ho hx hcut hcut' hnx hB
   go_wp2_with fail
   refine HN.out.mono ?_
   rintro e w2 ⟨rfl, b2⟩
   have HB2 := GR (HB.out.trans (b2.mono HB.out.size))
   clear b2
   go_wp2_with fail
   go_loopw [7, 32] (fun s i wr => ∃ j out, j ≤ nx.size ∧ Hid (out = cw (bR g k) ((ai g x).take j)) ∧ s = .string (ae g out) ∧ i = .int .i64 j ∧ Below w.heap.size w wr) (fun _ i _ => nx.size - (intOf i).toNat)
   case atStart => exact ⟨0, bR g k, Nat.zero_le _, rfl, by rw [HO.out], rfl, HB2.out⟩
   case round =>
    obtain ⟨j, out, hj, HOUT, rfl, rfl, hB3⟩ := hrel
    have hol : ∀ y ∈ out, y < g.length := by rw [HOUT.out]; exact yN HV.out hxl (List.take_prefix _ _).subset
    have hole : out.length ≤ g.length := by rw [HOUT.out]; exact Fa HV.out hxl (List.take_prefix _ _).subset
    obtain ⟨p, hp⟩ : ∃ p, p = ae g out := ⟨_, rfl⟩
    have hps : p.size = out.length := by rw [hp, ax HV.out _ hol]
    rw [← hp]
    by_cases hjd : j < nx.size
    ·obtain ⟨t, htl, hget, _, hnm⟩ := jR HV.out hxl (k := j) (by rw [← HNX.out]; exact hjd)
     have hbyte : g[x].2[j]'(by rw [← HNX.out]; exact hjd) = nx[j] := by congr 1; exact HNX.out.symm
     rw [hbyte] at hnm
     have hidx := co HV.out hol htl hnm
     rw [← hp] at hidx
     have HT := GR (show cw (bR g k) ((ai g x).take (j + 1)) = if t ∈ out then out else out ++ [t] by
      have hjl : j < (ai g x).length := (List.getElem?_eq_some_iff.1 hget).1
      have e : (ai g x)[j] = t := (List.getElem?_eq_some_iff.1 hget).2
      rw [List.take_succ_eq_append_getElem hjl, e, rj, ← HOUT.out])
     have HPP := GR hp
     have HB3 := GR hB3
     have hz1 : p.size + (⟨#[]⟩ : ByteArray).size ≤ 1048576 := by have : (⟨#[]⟩ : ByteArray).size = 0 := rfl; omega
     have hj1 : j + 1 ≤ nx.size := by omega
     have HEX := GR (show nx.extract j (j + 1) = ay g t by rw [d9 nx (a := j) (b := j + 1) (by omega) (by omega) (by omega), al htl, hnm])
     obtain ⟨z, hz⟩ : ∃ z, z = Lib.indexByte p.data.toList nx[j] := ⟨_, rfl⟩
     have HFC : Hid (∀ w, Calls Tryz.prog 114 #[.string (p ++ ⟨#[]⟩), .int .u8 nx[j].toNat] w fun e w' => e = .returned (.int .i64 z) ∧ w = w') := fun w => by
      rw [cC, hz]; exact bf p nx[j] w (by omega)
     rw [← hz] at hidx
     clear hp hbyte hnm hget hB3 hz
     by_cases hin : t ∈ out
     ·have q2 : ¬ z < 0 := by have := hidx.2 hin; omega
      rw [if_pos hin] at HT
      clear hidx hin
      go_wp2_with fail
      refine (HFC.out _).mono ?_
      rintro e w4 ⟨rfl, rfl⟩
      go_wp2_with fail
      go_roundw
      case rel => exact ⟨j + 1, out, by omega, HT.out.symm, by rw [HPP.out], by go_num, HB3.out⟩
      case measure => simp [intOf]; omega
     ·have q2 : z < 0 := by
       rcases Int.lt_or_le z 0 with h | h
       ·exact h
       ·exact absurd (hidx.1 h) hin
      rw [if_neg hin] at HT
      have hz2 : p.size + (nx.extract j (j + 1)).size ≤ 1048576 := by rw [HEX.out, al htl]; obtain ⟨c, hc, _⟩ := a8 HV.out (List.getElem_mem htl); rw [hc]; show p.size + 1 ≤ _; omega
      have HNX2 := GR (show ae g (out ++ [t]) = p ++ nx.extract j (j + 1) by rw [be, bp, HPP.out, HEX.out])
      clear hidx hin
      go_wp2_with fail
      refine (HFC.out _).mono ?_
      rintro e w4 ⟨rfl, rfl⟩
      go_wp2_with fail
      go_roundw
      case rel => exact ⟨j + 1, out ++ [t], by omega, HT.out.symm, by rw [HNX2.out], by go_num, HB3.out⟩
      case measure => simp [intOf]; omega
    ·have hjn : j = nx.size := by omega
     have HBF := GR (show out = bR g (k + 1) by rw [HOUT.out, kq HLT.out, ← HX.out, List.take_of_length_le (by rw [d6 hxl, ← HNX.out]; omega)])
     have HPP := GR hp
     have HB3 := GR hB3
     have hkl2 : k + 1 ≤ out.length := by
      have h1 := (im ((ai g x).take j) (bR g k)).length_le
      rw [← HOUT.out] at h1; have := HLT.out; omega
     clear hp hB3
     go_wp2_with fail
     go_roundg (g.length - (k + 1))
     case measure => have := HLEN.out; have := HLT.out; omega
     case rel => exact ⟨k + 1, rfl, by rw [← HBF.out]; exact hkl2, by rw [HPP.out, HBF.out], by go_num, HB3.out⟩
  ·have hke : k = (bR g k).length := by omega
   have HR := GR (show o = ae g (cI g) by rw [ho, Ae (g := g) (k := k) (by omega) (by omega)])
   have q1 : ¬ ((k : Int) < o.size) := by omega
   have HB := GR hB
   clear ho hke hB
   go_wp2_with fail
   go_ret
   exact ⟨cO HR.out, HB.out⟩
def eW (_g : List Bl) (l : List Nat) (k : Nat) : List Nat := (List.range k).filter fun i => decide (i ∈ l)
theorem Fb {g : List Bl} {l : List Nat} {k : Nat} (h : k ∈ l) : eW g l (k + 1) = eW g l k ++ [k] := by
 unfold eW; rw [List.range_succ, List.filter_append, List.filter_cons, if_pos (by simpa using h)]; rfl
theorem FW {g : List Bl} {l : List Nat} {k : Nat} (h : k ∉ l) : eW g l (k + 1) = eW g l k := by
 unfold eW; rw [List.range_succ, List.filter_append, List.filter_cons, if_neg (by simpa using h), List.filter_nil, List.append_nil]
theorem Ce {g : List Bl} {l : List Nat} {k : Nat} (hk : k ≤ g.length) : ∀ i ∈ eW g l k, i < g.length := by
 intro i hi
 have := List.mem_range.1 (List.mem_filter.1 hi).1
 omega
theorem oI (g : List Bl) (l : List Nat) (k : Nat) : (eW g l k).length ≤ k := by
 have := List.length_filter_le (fun i => decide (i ∈ l)) (List.range k)
 simpa [eW] using this
theorem Fc {c : UInt8} {s : ByteArray} (h : s = ⟨#[c]⟩) (h0 : 0 < s.size) : s[0]'h0 = c := by subst h; rfl
theorem og (A : Option Addr) (cap : Nat) (g : List Bl) (l : List Nat) (s : ByteArray) (w : World) (hg : Gr w A g) (hn : g.length + aO g ≤ 1048576) (hv : aa g = true) (hl : ∀ i ∈ l, i < g.length) (hs : s = ae g l) (hsz : s.size ≤ 4611686018427387904) :
  Calls Tryz.prog 163 #[.slice A g.length cap, .string s] w fun e w' => e = .returned (.string (ae g (eW g l g.length))) ∧ Below w.heap.size w w' := by
 have HV := GR hv
 have HS := GR hs
 have HL := GR hl
 clear hv hs hl
 go_enter Tryz.func163, Tryz.ntmps163
 go_wp2_with fail
 go_loopw [5, 10] (fun o i wr => ∃ k : Nat, k ≤ g.length ∧ i = .int .i64 k ∧ o = .string (ae g (eW g l k)) ∧ Below w.heap.size w wr) (fun _ i _ => g.length - (intOf i).toNat)
 case atStart => exact ⟨0, Nat.zero_le _, rfl, rfl, Below.refl _ _⟩
 case round =>
  obtain ⟨k, hk, rfl, rfl, hB⟩ := hrel
  obtain ⟨o, ho⟩ : ∃ o, o = ae g (eW g l k) := ⟨_, rfl⟩
  have hos : o.size ≤ k := by rw [ho, ax HV.out _ (Ce hk)]; exact oI g l k
  rw [← ho]
  have HO := GR ho
  by_cases hlt : k < g.length
  ·obtain ⟨b, off, t, t2, rfl, hb, hc0, hc1, he, he2⟩ := gn (hg.below hB) hlt
   obtain ⟨c, hc, _⟩ := a8 HV.out (List.getElem_mem hlt)
   have htc : t = ⟨#[c]⟩ := he.symm.trans hc
   have ht1 : t.size = 1 := by rw [htc]; rfl
   have h0t : 0 < t.size := by omega
   have hidx := co HV.out HL.out hlt hc
   rw [← HS.out] at hidx
   obtain ⟨z, hz⟩ : ∃ z, z = Lib.indexByte s.data.toList c := ⟨_, rfl⟩
   rw [← hz] at hidx
   have HFC : Hid (∀ w, Calls Tryz.prog 114 #[.string s, .int .u8 (t[0]'h0t).toNat] w fun e w' => e = .returned (.int .i64 z) ∧ w = w') := fun w => by
    rw [hz, Fc htc h0t]; exact bf s c w hsz
   have hB2 := hB.alloc hB.size (.cells #[.string t, .string t2] 45)
   have HB2 := GR hB2
   have HE := GR he
   have hst : o.size + t.size ≤ 1048576 := by omega
   clear he he2 hc htc hz ho hB2
   by_cases hin : k ∈ l
   ·have q2 : 0 ≤ z := hidx.2 hin
    have HSR := GR (show ae g (eW g l (k + 1)) = o ++ t by rw [Fb hin, be, bp, HO.out, al hlt, HE.out])
    clear hidx hin
    go_wp2_with fail
    refine (HFC.out _).mono ?_
    rintro e w4 ⟨rfl, rfl⟩
    go_wp2_with fail
    go_roundw
    case rel => exact ⟨k + 1, by omega, by go_num, by rw [HSR.out], HB2.out⟩
    case measure => simp [intOf]; omega
   ·have q2 : ¬ 0 ≤ z := fun h => hin (hidx.1 h)
    have HSR := GR (show ae g (eW g l (k + 1)) = o by rw [FW hin, HO.out])
    clear hidx hin
    go_wp2_with fail
    refine (HFC.out _).mono ?_
    rintro e w4 ⟨rfl, rfl⟩
    go_wp2_with fail
    go_roundw
    case rel => exact ⟨k + 1, by omega, by go_num, by rw [HSR.out], HB2.out⟩
    case measure => simp [intOf]; omega
  ·have HSR := GR (show o = ae g (eW g l g.length) by rw [HO.out]; congr 2; omega)
   have HB := GR hB
   clear ho hB
   go_wp2_with fail
   go_ret
   exact ⟨cO HSR.out, HB.out⟩
theorem mO (g : List Bl) : am g = eW g (cI g) g.length := rfl
theorem nd (A : Option Addr) (cap : Nat) (g : List Bl) (w : World) (hg : Gr w A g) (hn : g.length + aO g ≤ 1048576) (hv : aa g = true) :
  Calls Tryz.prog 122 #[.slice A g.length cap] w fun e w' => e = .returned (.string (ae g (am g))) ∧ Below w.heap.size w w' := by
 have hpos := (aj.1 hv).1
 obtain ⟨b, off, t, t2, hA, hb, hc0, hc1, he, he2⟩ := gn hg hpos
 have hc0' : w.cell? ⟨b, off, none⟩ = some (.string t) := by simpa using hc0
 have H1 := GR (Ai A cap g t w hg (by omega) hv (by rw [al hpos, he]))
 have H2 := GR (fun w h => og A cap g (cI g) (ae g (cI g)) w h hn hv (fun i hi => mL hv hi) rfl (by rw [ax hv _ (fun i hi => mL hv hi)]; have := B5 hv; omega))
 have HG := GR hg
 clear hc0 hc1 he he2 hg hv
 subst hA
 go_enter Tryz.func122, Tryz.ntmps122
 go_wp2_with fail
 refine H1.out.mono ?_
 rintro e w1 ⟨rfl, b1⟩
 go_wp2_with fail
 refine (H2.out w1 (HG.out.below b1)).mono ?_
 rintro e w2 ⟨rfl, b2⟩
 go_wp2_with fail
 go_ret
 exact ⟨cO (by rw [mO]), af b1 b2⟩
end Go.Proofs.YtlkfakdghjaoaaaGreatDoor

set_option maxHeartbeats 2000000
set_option maxRecDepth 100000
namespace Go.Proofs.YtlkfakdghjaoaaaGreatDoor
open Go.RowKit Go.Sort Go.Shelf
attribute [local go_sem] Oper.semAt_some
theorem Aj (u v : Option Addr) (c : UInt8) (w : World) :
  Calls Tryz.prog 131 #[.agg #[.pointer u, .pointer v], .int .u8 c.toNat] w fun e w' => e = .returned (.pointer (if c = 108 then u else v)) ∧ Below w.heap.size w w' := by
 by_cases h : c = 108
 ·have q1 : (c.toNat : Int) = 108 := by rw [h]; rfl
  rw [if_pos h]
  clear h
  go_enter Tryz.func131, Tryz.ntmps131
  go_wp2
  go_ret
  exact ⟨rfl, (Below.refl _ _).alloc (Nat.le_refl _) _⟩
 ·have q1 : ((c.toNat : Int) == 108) = false := dI (b := 108) h
  rw [if_neg h]
  clear h
  go_enter Tryz.func131, Tryz.ntmps131
  go_wp2
  go_ret
  exact ⟨rfl, (Below.refl _ _).alloc (Nat.le_refl _) _⟩
theorem Ak {s : ByteArray} (h : 0 < s.size) : s.data.toList = s[0] :: (s.extract 1 s.size).data.toList := by
 have h0 := aF s 0 h
 rw [← Lib.toList_data (s.extract 1 s.size), Lib.extract_toList]
 have hl := dm (s := s)
 cases hd : s.data.toList with
 | nil => rw [hd] at hl; simp at hl; omega
 | cons c r =>
  rw [hd] at h0 hl
  have : c = s[0] := by simpa using h0
  rw [this]
  simp only [List.drop_succ_cons, List.drop_zero, List.length_cons] at hl ⊢
  rw [List.take_of_length_le (by omega)]
theorem Cf {s : ByteArray} (h : 0 < s.size) : (s.toList == ([] : List UInt8)) = false := by
 have hl := dm (s := s)
 rw [Lib.toList_data]
 cases hd : s.data.toList with
 | nil => rw [hd] at hl; simp at hl; omega
 | cons c r => rfl
def NodesIn (w : World) (NB : Nat) (g : List Bl) : Prop := ∀ i (h : i < g.length), Blk w (nb NB i) 101 #[.int .i64 i, .string g[i].1, ends NB g i]
theorem NodesIn.of {w : World} {NB : Nat} {g : List Bl} (h : Nodes w NB g (ends NB g)) : NodesIn w NB g := h.node
theorem NodesIn.below {w w' : World} {NB : Nat} {g : List Bl} (h : NodesIn w NB g) (hb : Below w.heap.size w w') : NodesIn w' NB g := fun i hi => (hb.block _ (h i hi).lt).trans (h i hi)
theorem NodesIn.kept {w w' : World} {NB : Nat} {g : List Bl} {R : Nat → Prop} (h : NodesIn w NB g) (hk : Keeps R w w') (hR : ∀ i, i < g.length → R (nb NB i)) : NodesIn w' NB g :=
 fun i hi => (hk.2 _ (h i hi).lt (hR i hi)).trans (h i hi)
abbrev FX (NB : Nat) (x : Nat × Nat) : Array Value := #[ag NB x.1, .int .i64 x.2]
theorem wJ (n : Nat) (NB CB EB : Nat) (g : List Bl) (choices : ByteArray) (R : Nat → Prop) (w : World) (hn : 1 ≤ n) (hv : aa g = true)
  (hC : w.cell? ⟨CB, 0, none⟩ = some (.string choices)) (hE : w.cell? ⟨EB, 0, none⟩ = some (ag NB 0)) (hN : NodesIn w NB g) (hR : ∀ i, i < g.length → R (nb NB i)) (hCl : CB < w.heap.size) (hEl : EB < w.heap.size) :
  nD Fence.wide n Tryz.prog 130 #[.pointer (some ⟨CB, 0, none⟩), .pointer (some ⟨EB, 0, none⟩)] (FX NB) R (fun pre => pre.length < 60) (fun pre x => pre ++ [x] <+: fj g choices)
   (fun xs => xs = fj g choices) (fun pre => pre <+: fj g choices) w := by
 intro l J Jx W hW hJ hBd hY h0
 have HC := GR ((hW.cell (p := ⟨CB, 0, none⟩) hCl).trans hC)
 have HE := GR ((hW.cell (p := ⟨EB, 0, none⟩) hEl).trans hE)
 have HN := GR (hN.below hW)
 have HY := GR hY
 have HJ := GR hJ
 have HBD := GR hBd
 have hc0 := HC.out
 have he0 := HE.out
 clear hC hE hN hW hY hJ hBd
 refine callsIn_of_wp Tryz.func130 rfl trivial ?_ rfl
 simp only [Tryz.ntmps130, List.size_toArray, List.length_cons, List.length_nil, Nat.reduceAdd, Nat.reduceSub, Array.replicate_succ, Array.replicate_zero, List.push_toArray, List.append_toArray, List.nil_append, List.cons_append]
 gi_wp2
 gi_loopg [4, 5] 61 (fun gk sl p wr => (∃ O pre i left, gk = 61 - pre.length ∧ sl = .string left ∧ p = ag NB i ∧ J O pre wr ∧ Going g choices pre i left.data.toList ∧ NodesIn wr NB g) ∨ (gk = 0 ∧ p = .pointer none ∧ ∃ O, J O (fj g choices) wr))
 case atStart => exact .inl ⟨_, [], 0, choices, rfl, rfl, rfl, h0, Going.start hv choices, HN.out⟩
 case round =>
  rcases hrel with ⟨O, pre, i, left, rfl, rfl, rfl, hJs, hG, hNs⟩ | ⟨rfl, rfl, O, hJs⟩
  ·have hl := HBD.out _ _ _ hJs
   have x2 := (hNs i hG.lt).cell 2
   rcases sg (NB := NB) hG.lt (goes hv hG.lt) with ⟨hn0, he⟩ | ⟨p, hp, hn1, he⟩ | ⟨p, q, hp, hq, hn2, he⟩
   ·have x2' : wr.cell? ⟨nb NB i, 2, none⟩ = some (.iface 230 (.agg #[])) := by rw [x2, he]; rfl
    have a1 := vI
    have a2 := r7
    clear x2 he
    obtain ⟨fn, tmps, assign, body, hy, hR⟩ := HY.out O pre (i, 0) wr hJs (by rw [hG.stop hl hn0]; exact List.prefix_refl _)
    have hy' : (Instr.yield l #[ag NB i, .int .i64 0]).run Tryz.prog wr = .ok (.round l fn tmps assign body) wr := hy
    have HR := GR (hG.stop hl hn0)
    clear hy hn0 hG
    gi_wp2
    refine hR.mono ?_
    rintro e W3 (⟨rfl, hJ3, hk3⟩ | ⟨rfl, hJx3⟩)
    ·gi_wp2
     gi_roundg 0
     case measure => omega
     case rel => exact .inr ⟨rfl, rfl, O, by rw [HR.out]; exact hJ3⟩
    ·gi_wp2
     refine bodyPost_ret (results_none rfl _ _ _) rfl ?_
     exact ⟨⟨_, rfl⟩, .inr ⟨pre ++ [(i, 0)], by rw [HR.out]; exact List.prefix_refl _, hJx3⟩⟩
   ·have x2' : wr.cell? ⟨nb NB i, 2, none⟩ = some (.iface 191 (.agg #[ag NB p])) := by rw [x2, he]; rfl
    have a1 := EN
    clear x2 he
    have hG2 := hG.jump hv hl hn1
    have HG2 := GR hG2
    have hpx : pre ++ [(i, 2)] <+: fj g choices := by rw [hG2.all]; exact List.prefix_append _ _
    have HPX := GR hpx
    have hJ1 := HJ.out O pre wr (wr.alloc (.cells #[ag NB p] 191)) hJs (Turns.alloc _ _ _)
    obtain ⟨fn, tmps, assign, body, hy, hRd⟩ := HY.out _ pre (i, 2) _ hJ1 hpx
    have hy' : (Instr.yield l #[ag NB i, .int .i64 2]).run Tryz.prog (wr.alloc (.cells #[ag NB p] 191)) = .ok (.round l fn tmps assign body) (wr.alloc (.cells #[ag NB p] 191)) := hy
    have HN2 := GR (hNs.below ((Below.refl _ wr).alloc (Nat.le_refl _) (.cells #[ag NB p] 191)))
    clear hy hG hG2 hn1 hpx hJ1 hNs
    gi_wp2
    refine hRd.mono ?_
    rintro e W3 (⟨rfl, hJ3, hk3⟩ | ⟨rfl, hJx3⟩)
    ·have HN3 := GR (HN2.out.kept hk3 fun i hi => .inl (hR i hi))
     gi_wp2
     gi_roundg (61 - (pre ++ [((i : Nat), (2 : Nat))]).length)
     case measure => simp only [List.length_append, List.length_cons, List.length_nil]; omega
     case rel => exact .inl ⟨_, _, p, left, rfl, rfl, rfl, hJ3, HG2.out, HN3.out⟩
    ·gi_wp2
     refine bodyPost_ret (results_none rfl _ _ _) rfl ?_
     exact ⟨⟨_, rfl⟩, .inr ⟨_, HPX.out, hJx3⟩⟩
   ·have x2' : wr.cell? ⟨nb NB i, 2, none⟩ = some (.iface 193 (.agg #[ag NB p, ag NB q])) := by rw [x2, he]; rfl
    have a1 := rZ
    have a2 := BG
    clear x2 he
    have HN2 := GR (hNs.below ((Below.refl _ wr).alloc (Nat.le_refl _) (.cells #[ag NB p, ag NB q] 193)))
    have hJ1 := HJ.out O pre wr (wr.alloc (.cells #[ag NB p, ag NB q] 193)) hJs (Turns.alloc _ _ _)
    by_cases h0l : left.size = 0
    ·have hle : left = ⟨#[]⟩ := bg (List.eq_nil_of_length_eq_zero (dm.trans h0l))
     subst hle
     have hst := hG.ask hl hn2
     have HR := GR hst
     obtain ⟨fn, tmps, assign, body, hy, hRd⟩ := HY.out _ pre (i, 1) _ hJ1 (by rw [hst]; exact List.prefix_refl _)
     have hy' : (Instr.yield l #[ag NB i, .int .i64 1]).run Tryz.prog (wr.alloc (.cells #[ag NB p, ag NB q] 193)) = .ok (.round l fn tmps assign body) (wr.alloc (.cells #[ag NB p, ag NB q] 193)) := hy
     clear hy hG hst hn2 hJ1 hNs
     gi_wp2
     refine hRd.mono ?_
     rintro e W3 (⟨rfl, hJ3, hk3⟩ | ⟨rfl, hJx3⟩)
     ·gi_wp2
      gi_roundg 0
      case measure => omega
      case rel => exact .inr ⟨rfl, rfl, _, by rw [HR.out]; exact hJ3⟩
     ·gi_wp2
      refine bodyPost_ret (results_none rfl _ _ _) rfl ?_
      exact ⟨⟨_, rfl⟩, .inr ⟨_, by rw [HR.out]; exact List.prefix_refl _, hJx3⟩⟩
    ·have hlt : 0 < left.size := by omega
     have hcons := Ak hlt
     rw [hcons] at hG
     have hG2 := hG.go hv hl hn2
     have HG2 := GR hG2
     have hpx : pre ++ [(i, 2)] <+: fj g choices := by rw [hG2.all]; exact List.prefix_append _ _
     have HPX := GR hpx
     obtain ⟨r, hr⟩ : ∃ r, r = (if left[0] = 108 then p else q) := ⟨_, rfl⟩
     have hch := fun W => Aj (some ⟨nb NB p, 0, none⟩) (some ⟨nb NB q, 0, none⟩) left[0] W
     have eptr : (if left[0] = 108 then (some ⟨nb NB p, 0, none⟩ : Option Addr) else some ⟨nb NB q, 0, none⟩) = some ⟨nb NB r, 0, none⟩ := by rw [hr]; split <;> rfl
     rw [eptr] at hch
     have HCH := GR hch
     have HRR := GR hr
     have q0 := Cf hlt
     clear hG hG2 hn2 hpx hNs hcons hch hr eptr
     gi_wp2
     gi_region_with (refine ⟨trivial, ?_⟩; gi_at_call 131; refine (callsIn_wide.2 (HCH.out _)).mono ?_; rintro e w' ⟨rfl, hb⟩)
     all_goals
      have hbb := ((Below.refl _ (wr.alloc (.cells #[ag NB p, ag NB q] 193))).drew.trans hb : Below (wr.alloc (.cells #[ag NB p, ag NB q] 193)).heap.size _ w')
      have hJ2 := HJ.out _ pre _ w' hJ1 (Turns.of_below hbb)
      have HN2' := GR (HN2.out.below hbb)
      obtain ⟨fn, tmps, assign, body, hy, hRd⟩ := HY.out _ pre (i, 2) _ hJ2 HPX.out
      have hy' : (Instr.yield l #[ag NB i, .int .i64 2]).run Tryz.prog w' = .ok (.round l fn tmps assign body) w' := hy
      clear hy hJ2 hJ1 hbb hb
      gi_wp2
      refine hRd.mono ?_
      rintro e W3 (⟨rfl, hJ3, hk3⟩ | ⟨rfl, hJx3⟩)
      ·have HN3 := GR (HN2'.out.kept hk3 fun i hi => .inl (hR i hi))
       gi_wp2
       gi_roundg (61 - (pre ++ [((i : Nat), (2 : Nat))]).length)
       case measure => simp only [List.length_append, List.length_cons, List.length_nil]; omega
       case rel => exact .inl ⟨_, _, r, left.extract 1 left.size, rfl, rfl, rfl, hJ3, by rw [HRR.out]; exact HG2.out, HN3.out⟩
      ·gi_wp2
       refine bodyPost_ret (results_none rfl _ _ _) rfl ?_
       exact ⟨⟨_, rfl⟩, .inr ⟨_, HPX.out, hJx3⟩⟩
  ·gi_wp2
   go_end0
   exact ⟨⟨_, rfl⟩, .inl ⟨_, _, rfl, hJs⟩⟩
end Go.Proofs.YtlkfakdghjaoaaaGreatDoor
namespace Go.Proofs.YtlkfakdghjaoaaaGreatDoor
open Go.RowKit Go.Sort Go.Shelf
attribute [local go_sem] Oper.semAt_some
def fl (g : List Bl) (choices : ByteArray) : Bool := aa g && bT choices
def lp (g : List Bl) (choices : ByteArray) : ByteArray := if fl g choices then lN g choices else ⟨#[]⟩
def lq (g : List Bl) (choices : ByteArray) : Int := if fl g choices then (ri g choices : Int) else 0
theorem DV {g : List Bl} {choices : ByteArray} (h : bT choices = false) : fl g choices = false := by unfold fl; rw [h, Bool.and_false]
theorem p3 {g : List Bl} {choices : ByteArray} (h : aa g = true) (h' : bT choices = true) : fl g choices = true := by unfold fl; rw [h, h']; rfl
theorem yO {g : List Bl} {choices : ByteArray} (h : fl g choices = false) : lp g choices = ⟨#[]⟩ := by unfold lp; rw [h]; rfl
theorem yP {g : List Bl} {choices : ByteArray} (h : fl g choices = false) : lq g choices = 0 := by unfold lq; rw [h]; rfl
theorem wK {g : List Bl} {choices : ByteArray} (h : fl g choices = true) : lp g choices = lN g choices := by unfold lp; rw [h]; rfl
theorem wL {g : List Bl} {choices : ByteArray} (h : fl g choices = true) : lq g choices = (ri g choices : Int) := by unfold lq; rw [h]; rfl
theorem oJ {a a' : ByteArray} {i i' : Int} {b b' : Bool} (h1 : a = a') (h2 : i = i') (h3 : b = b') : Ending.returned (.tuple #[.string a, .int .i64 i, .bool b]) = .returned (.tuple #[.string a', .int .i64 i', .bool b']) := by rw [h1, h2, h3]
def oK (g : List Bl) (choices : ByteArray) (w : World) (e : Ending) (w' : World) : Prop :=
 e = .returned (.tuple #[.string (lp g choices), .int .i64 (lq g choices), .bool (fl g choices)]) ∧ Below w.heap.size w w'
theorem xZ (u : Option Addr) (choices : ByteArray) (w : World) :
  Calls Tryz.prog 87 #[.pointer u, .string choices] w fun e w' =>
   e = .returned (.func (.func 130) #[] #[.pointer (some ⟨w.heap.size + 1, 0, none⟩), .pointer (some ⟨w.heap.size, 0, none⟩)]) ∧
   w' = (w.alloc (.cells #[.pointer u] 95)).alloc (.cells #[.string choices] 9) := by
 go_enter Tryz.func87, Tryz.ntmps87
 go_wp2
 go_ret
 exact ⟨rfl, rfl⟩
theorem Al (A : Option Addr) (cap : Nat) (g : List Bl) (choices : ByteArray) (w : World) (hg : Gr w A g) (hn : g.length + aO g ≤ 1048576) (hc : choices.size ≤ 4611686018427387904) (hb : fl g choices = false) :
  Calls Tryz.prog 47 #[.slice A g.length cap, .string choices] w (oK g choices w) := by
 have H1 := GR (yO hb)
 have H2 := GR (yP hb)
 have H3 := GR hb
 by_cases hv : aa g = true
 ·have HC := GR (iV A cap g w hg hn hv)
  have hcb : bT choices = false := by
   cases h : bT choices with
   | false => rfl
   | true => rw [p3 hv h] at hb; cases hb
  have HV := GR (fun w => ie choices w hc)
  rw [hcb] at HV
  clear hb hv hcb
  go_enter Tryz.func47, Tryz.ntmps47
  go_wp2_with fail
  refine HC.out.mono ?_
  rintro e w1 ⟨NB, hle, rfl, hN, b1⟩
  clear hN
  go_wp2_with fail
  refine (HV.out w1).mono ?_
  rintro e w2 ⟨rfl, b2⟩
  go_wp2_with fail
  go_ret3
  exact ⟨oJ H1.out.symm H2.out.symm H3.out.symm, af b1 b2⟩
 ·have hv' : aa g = false := by simpa using hv
  have HC := GR (mF A cap g w hg hn hv')
  clear hb hv hv'
  go_enter Tryz.func47, Tryz.ntmps47
  go_wp2_with fail
  refine HC.out.mono ?_
  rintro e w1 ⟨rfl, b1⟩
  go_wp2_with fail
  go_ret3
  exact ⟨oJ H1.out.symm H2.out.symm H3.out.symm, b1⟩
theorem oi {n₀ : Nat} {a W : World} (h : Below n₀ a W) {l : Nat} (hl : n₀ ≤ l) (o : Obj) : Below n₀ a (W.putObj l o) :=
 h.trans ⟨rfl, rfl, rfl, by simp, fun k hk => World.putObj_heap_other (by omega)⟩
theorem ru (W : World) (B : Nat) (t1 t2 : TypeId) (u1 u2 v1 v2 : Value) (h1 : Boxed W B t1 u1) (h2 : Boxed W (B + 1) t2 u2) :
  Boxed ((W.setCell ⟨B, 0, none⟩ v1).setCell ⟨B + 1, 0, none⟩ v2).drew B t1 v1 ∧ Boxed ((W.setCell ⟨B, 0, none⟩ v1).setCell ⟨B + 1, 0, none⟩ v2).drew (B + 1) t2 v2 ∧
   Turns (fun k => k = B ∨ k = B + 1) W ((W.setCell ⟨B, 0, none⟩ v1).setCell ⟨B + 1, 0, none⟩ v2).drew :=
 ⟨(h1.set v1).other (by omega) v2, (h2.other (by omega) v1).set v2,
  (Turns.setCell (p := ⟨B, 0, none⟩) (.inl rfl) v1).trans (((Turns.setCell (p := ⟨B + 1, 0, none⟩) (.inr rfl) v2).wider fun k hk => .inl hk).trans (Turns.drew _ _))⟩
theorem x4 (A : Option Addr) (cap : Nat) (g : List Bl) (choices : ByteArray) (w : World) (hg : Gr w A g) (hn : g.length + aO g ≤ 1048576) (hc : choices.size ≤ 4611686018427387904) (hb : fl g choices = true) :
  Calls Tryz.prog 47 #[.slice A g.length cap, .string choices] w (oK g choices w) := by
 have H1 := GR (wK hb)
 have H2 := GR (wL hb)
 have H3 := GR hb
 have hv : aa g = true := by unfold fl at hb; exact (Bool.and_eq_true_iff.1 hb).1
 have hcb : bT choices = true := by unfold fl at hb; exact (Bool.and_eq_true_iff.1 hb).2
 have HC := GR (iV A cap g w hg hn hv)
 have HV := GR (fun w => ie choices w hc)
 rw [hcb] at HV
 have hpos := (aj.1 hv).1
 have HT := GR hv
 clear hb hv hcb
 refine (callsIn_wide (n := 4)).1 ?_
 refine callsIn_of_wp_marks Tryz.func47 rfl trivial ?_ rfl
 simp only [Tryz.ntmps47, List.size_toArray, List.length_cons, List.length_nil, Nat.reduceAdd, Nat.reduceSub, Array.replicate_succ, Array.replicate_zero, List.push_toArray, List.append_toArray, List.nil_append, List.cons_append]
 refine wpIn_mono (Q := rR _) ?_ lE
 gi_wp2_with fail
 refine ⟨trivial, (callsIn_wide.2 HC.out).mono ?_⟩
 rintro e w1 ⟨NB, hle, rfl, hN, b1⟩
 have HN := GR hN
 clear hN
 gi_wp2_with fail
 refine ⟨trivial, (callsIn_wide.2 (HV.out w1)).mono ?_⟩
 rintro e w2 ⟨rfl, b2⟩
 have HN2 := GR (HN.out.below b2)
 have HB2 := GR (af b1 b2)
 have x0 := HN2.out.ptr hpos
 have hNl := HN2.out.lt
 clear b1 b2
 gi_wp2_with fail
 refine ⟨trivial, (callsIn_wide.2 (xZ _ choices _)).mono ?_⟩
 rintro e w3 ⟨rfl, hw3⟩
 have hs3 : w3.heap.size = w2.heap.size + 4 := by rw [hw3]; simp
 have k1 : Boxed w3 w2.heap.size 9 (.string ⟨#[]⟩) := by rw [hw3]; exact (((Boxed.new w2 _ _).alloc _).alloc _).alloc _
 have k2 : Boxed w3 (w2.heap.size + 1) 3 (.int .i64 0) := by
  have := ((Boxed.new (w2.alloc (.cells #[.string ⟨#[]⟩] 9)) 3 (.int .i64 0)).alloc (.cells #[ag NB 0] 95)).alloc (.cells #[.string choices] 9)
  rw [hw3]; simpa using this
 have hb3 : Below w2.heap.size w2 w3 := by
  rw [hw3]; exact ((((Below.refl _ w2).alloc (Nat.le_refl _) _).alloc (by simp) _).alloc (by simp; omega) _).alloc (by simp; omega) _
 have kE : w3.cell? ⟨w2.heap.size + 1 + 1, 0, none⟩ = some (ag NB 0) := by
  have := Boxed.new ((w2.alloc (.cells #[.string ⟨#[]⟩] 9)).alloc (.cells #[.int .i64 0] 3)) 95 (ag NB 0)
  rw [World.size_alloc, World.size_alloc] at this
  have b : Boxed w3 (w2.heap.size + 1 + 1) 95 (ag NB 0) := by rw [hw3]; exact Boxed.alloc this _
  exact b.cell
 have kC : w3.cell? ⟨w2.heap.size + 1 + 1 + 1, 0, none⟩ = some (.string choices) := by
  have := Boxed.new (((w2.alloc (.cells #[.string ⟨#[]⟩] 9)).alloc (.cells #[.int .i64 0] 3)).alloc (.cells #[ag NB 0] 95)) 9 (.string choices)
  have b : Boxed w3 (w2.heap.size + 1 + 1 + 1) 9 (.string choices) := by rw [hw3]; simpa using this
  exact b.cell
 have HN3 := GR (NodesIn.of (HN2.out.below hb3))
 have HB3 := GR (af HB2.out hb3)
 have HNL := GR (fun i hi => (HN2.out.node i hi).lt)
 clear hw3
 gi_wp2_with fail
 refine fF rfl (by decide) (gf := 130) rfl trivial (enters_of Tryz.func130 (by kernel_rfl) rfl)
  (wJ 3 NB _ _ g choices (fun k => k < w2.heap.size) w3 (by decide) HT.out kC kE HN3.out (fun i hi => HNL.out i hi) (by omega) (by omega)) (Below.refl _ _) (fun _ => rfl) (fun k hk => by omega)
  (fun _ pre W => Boxed W w2.heap.size 9 (.string (ae g (pre.map (·.1)))) ∧ Boxed W (w2.heap.size + 1) 3 (.int .i64 (iM pre : Nat)) ∧ NodesIn W NB g ∧ Below w.heap.size w W ∧ pre.length < 60 ∧ ∀ x ∈ pre, x.1 < g.length)
  (fun c pre W => c = .exit 0 ∧ pre.length = 60 ∧ Boxed W w2.heap.size 9 (.string (ae g (pre.map (·.1)))) ∧ Boxed W (w2.heap.size + 1) 3 (.int .i64 (iM pre : Nat)) ∧ Below w.heap.size w W)
  ?hI ?hIx (fun _ _ _ h => h.2.2.2.2.1) ?h0
  (fun x => { tmps := #[.slice A g.length cap, .string choices, undef, undef, .string ⟨#[]⟩, .int .i64 0, .bool false, .slice (some ⟨NB, 0, none⟩) g.length g.length,
   .bool true, .pointer (some ⟨w2.heap.size, 0, none⟩), .pointer (some ⟨w2.heap.size + 1, 0, none⟩), ag NB x.1, .int .i64 x.2,
   .tuple #[.slice (some ⟨NB, 0, none⟩) g.length g.length, .bool true], .slice A g.length cap, .tuple #[.slice (some ⟨NB, 0, none⟩) g.length g.length, .bool true],
   .slice (some ⟨NB, 0, none⟩) g.length g.length, .bool true, .bool true, .bool false, .bool false, .string choices, .bool true, .bool false, .bool false,
   .slice (some ⟨NB, 0, none⟩) g.length g.length, .pointer (some ⟨NB, 0, none⟩), ag NB 0, .string choices,
   .func (.func 130) #[] #[.pointer (some ⟨w2.heap.size + 1 + 1 + 1, 0, none⟩), .pointer (some ⟨w2.heap.size + 1 + 1, 0, none⟩)],
   ag NB x.1, .int .i64 x.2, undef, undef, undef, undef, undef, undef, undef, undef, undef, undef, undef, undef], defers := [] }) ?assign ?body ?done ?stop
 case hI =>
  rintro O pre X Y hle hO ⟨h1, h2, h3, h4, h5, h6⟩ hT
  refine ⟨(hT.block _ h1.lt fun h => by have := hO _ h; omega).trans h1, (hT.block _ h2.lt fun h => by have := hO _ h; omega).trans h2,
   fun i hi => (hT.block _ (h3 i hi).lt fun h => by have := hO _ h; have := HNL.out i hi; omega).trans (h3 i hi), h4.trans (hT.below h4.size fun k h => by have := hO k h; have := HB3.out.size; omega), h5, h6⟩
 case hIx =>
  rintro c pre X Y hle ⟨rfl, h0, h1, h2, h4⟩ hT
  refine ⟨rfl, h0, (hT.block _ h1.lt (by omega)).trans h1, (hT.block _ h2.lt (by omega)).trans h2, h4.trans (hT.below h4.size fun k h => by have := HB3.out.size; omega)⟩
 case h0 => exact ⟨k1, k2, HN3.out, HB3.out, by simp, by simp⟩
 case assign =>
  intro l x W K hK
  gi_wp2
  exact hK
 case body =>
  rintro l O pre x W hle hO ⟨h1, h2, h3, h4, h5, h6⟩ hx
  obtain ⟨xi, xe⟩ := x
  have hv := HT.out
  have hxl : xi < g.length := sh hv 60 0 choices.data.toList (aj.1 hv).1 (xi, xe) (hx.subset (by simp))
  have c1 := h1.cell
  have f1 := h1.frozen
  have f2 := h2.frozen
  obtain ⟨u2, c2⟩ : ∃ u, W.cell? ⟨w2.heap.size + 1, 0, none⟩ = some u := ⟨_, h2.cell⟩
  have n1 : W.cell? ⟨nb NB xi, 1, none⟩ = some (.string g[xi].1) := by have := (h3 xi hxl).cell 1; simpa using this
  obtain ⟨t, ht⟩ : ∃ t, t = ae g (pre.map (·.1)) := ⟨_, rfl⟩
  rw [← al hxl] at n1
  obtain ⟨s, hs⟩ : ∃ s, s = ay g xi := ⟨_, rfl⟩
  have hts : t.size = pre.length := by rw [ht, ax hv _ (fun i hi => by obtain ⟨y, hy, rfl⟩ := List.mem_map.1 hi; exact h6 y hy), List.length_map]
  have hss : s.size = 1 := by obtain ⟨c, hc, _⟩ := a8 hv (List.getElem_mem hxl); rw [hs, al hxl, hc]; rfl
  have hsz : t.size + s.size ≤ 1048576 := by omega
  rw [← ht] at c1 h1
  rw [← hs] at n1
  have HTS := GR ht
  have HSS := GR hs
  have K1 := GR h1
  have K2 := GR h2
  have K3 := GR h3
  have K4 := GR h4
  have HXL := GR hxl
  have K6 := GR h6
  have HX := GR hx
  clear ht hs h1 h2 h3 h4 h6 hx hxl hv
  obtain ⟨ts, hTS⟩ : ∃ ts, ts = t ++ s := ⟨_, rfl⟩
  have htz : ts.size = pre.length + 1 := by rw [hTS, ByteArray.size_append]; omega
  have HNM := GR (show ae g ((pre ++ [((xi : Nat), (xe : Nat))]).map (·.1)) = t ++ s by rw [List.map_append, be, HTS.out, HSS.out]; congr 1; exact bp g xi)
  by_cases h60 : pre.length + 1 = 60
  ·have g0 : ((ts.size : Int) == 60) = true := by rw [htz, h60]; rfl
   rw [hTS] at g0
   clear hTS htz
   gi_wp2_with fail
   gi_region_with fail
   all_goals gi_wp2
   all_goals
    obtain ⟨z1, z2, z3⟩ := ru W w2.heap.size _ _ _ _ (.string (t ++ s)) (.int .i64 (xe : Nat)) K1.out K2.out
    refine ⟨z3.keeps fun k hk => ?_, rfl, by simpa using h60, by rw [HNM.out]; exact z1, by rw [n8]; exact z2, K4.out.trans (z3.below K4.out.size fun k hk => by have := HB3.out.size; omega)⟩
    rcases hk with hk | hk
    ·omega
    ·have := hO k hk; omega
  ·have g0 : ((ts.size : Int) == 60) = false := by rw [htz]; simp; omega
   rw [hTS] at g0
   clear hTS htz
   gi_wp2_with fail
   gi_region_with fail
   all_goals gi_wp2
   all_goals
    obtain ⟨z1, z2, z3⟩ := ru W w2.heap.size _ _ _ _ (.string (t ++ s)) (.int .i64 (xe : Nat)) K1.out K2.out
    have kk : Keeps (fun k => k < w2.heap.size ∨ O k) W ((W.setCell ⟨w2.heap.size, 0, none⟩ (.string (t ++ s))).setCell ⟨w2.heap.size + 1, 0, none⟩ (.int .i64 (xe : Nat))).drew := z3.keeps fun k hk => by
     rcases hk with hk | hk
     ·omega
     ·have := hO k hk; omega
    refine ⟨kk, by rw [HNM.out]; exact z1, by rw [n8]; exact z2, K3.out.kept kk fun i hi => .inl (HNL.out i hi), K4.out.trans (z3.below K4.out.size fun k hk => by have := HB3.out.size; omega), by simp; omega, fun y hy => ?_⟩
    rcases List.mem_append.1 hy with hy | hy
    ·exact K6.out y hy
    ·simp at hy; subst hy; exact HXL.out
 case done =>
  rintro D O xs W rfl hO rfl ⟨h1, h2, h3, h4, h5, h6⟩ hOD hK
  have c1 := h1.cell
  have c2 := h2.cell
  have K1 := GR h1
  have K2 := GR h2
  have K4 := GR h4
  have HK := GR (show W.drew.heap[w2.heap.size + 4]? = some (.deferred (some [])) by rw [← hs3]; exact hK)
  clear h1 h2 h3 h4 h6 hK
  gi_wp2_with fail
  gi_region_with fail
  all_goals gi_wp2
  all_goals
   refine ⟨by simp, .inl ⟨_, _, rfl, run_takeDeferred HK.out, ?_⟩⟩
   refine ⟨_, results_tmp3 rfl _ _ _, ?_, ?_⟩
   ·exact (oJ H1.out.symm H2.out.symm H3.out.symm : Ending.returned (.tuple #[.string (lN g choices), .int .i64 (ri g choices : Nat), .bool true]) = _)
   ·exact oi K4.out.drew (by have := HB3.out.size; omega) _
 case stop =>
  rintro D c pre W rfl hpre ⟨rfl, h60, h1, h2, h4⟩ hK
  have hall : pre = fj g choices := hpre.eq_of_length (by have := DP g choices; have := hpre.length_le; omega)
  subst hall
  have c1 := h1.cell
  have c2 := h2.cell
  have K1 := GR h1
  have K2 := GR h2
  have K4 := GR h4
  have HK := GR (show W.drew.heap[w2.heap.size + 4]? = some (.deferred (some [])) by rw [← hs3]; exact hK)
  clear h1 h2 h4 hK h60 hpre
  gi_wp2_with fail
  gi_region_with fail
  all_goals gi_wp2
  all_goals
   refine ⟨by simp, .inl ⟨_, _, rfl, run_takeDeferred HK.out, ?_⟩⟩
   refine ⟨_, results_tmp3 rfl _ _ _, ?_, ?_⟩
   ·exact (oJ H1.out.symm H2.out.symm H3.out.symm : Ending.returned (.tuple #[.string (lN g choices), .int .i64 (ri g choices : Nat), .bool true]) = _)
   ·exact oi K4.out.drew (by have := HB3.out.size; omega) _
structure Disp2 (NB : Nat) (g : List Bl) (i : Nat) (T : TypeId) (v : Value) (F : FuncId) : Prop where
 val : ends NB g i = .iface T v
 look : ∀ w, (method 441 T v "loop.example/structuredjumps/impl.targets").run Tryz.prog w = .ok (F, v) w
 enter : ∀ args w, (callFunc F args).run Tryz.prog w = .ok (.enter F args) w
 goes : ∀ w, Calls Tryz.prog F #[v] w fun e w' => ∃ A, e = .returned (.slice A (ai g i).length (ai g i).length) ∧ Below w.heap.size w w' ∧
  (0 < (ai g i).length → ∃ b, A = some ⟨b, 0, none⟩ ∧ w.heap.size ≤ b ∧ Blk w' b 95 ((ai g i).map (ag NB)).toArray)
theorem rv {NB : Nat} {g : List Bl} (hv : aa g = true) {i : Nat} (hi : i < g.length) : ∃ T v F, Disp2 NB g i T v F := by
 rcases sg (NB := NB) hi (goes hv hi) with ⟨hn, he⟩ | ⟨p, hp, hn, he⟩ | ⟨p, q, hp, hq, hn, he⟩
 ·refine ⟨_, _, _, he, fun w => tw w, enters_of Tryz.func295 (by kernel_rfl) rfl, fun w => ?_⟩
  refine (nW w).mono ?_
  rintro e w' ⟨rfl, hB⟩
  rw [hn]
  exact ⟨none, rfl, hB, fun h => absurd h (by simp)⟩
 ·refine ⟨_, _, _, he, fun w => tz _ w, enters_of Tryz.func290 (by kernel_rfl) rfl, fun w => ?_⟩
  refine (nX _ w).mono ?_
  rintro e w' ⟨rfl, hb, hB⟩
  rw [hn]
  exact ⟨_, rfl, hB, fun _ => ⟨_, rfl, by omega, hb⟩⟩
 ·refine ⟨_, _, _, he, fun w => pi _ _ w, enters_of Tryz.func291 (by kernel_rfl) rfl, fun w => ?_⟩
  refine (lL _ _ w).mono ?_
  rintro e w' ⟨rfl, hb, hB⟩
  rw [hn]
  exact ⟨_, rfl, hB, fun _ => ⟨_, rfl, by omega, hb⟩⟩
theorem iO {g : List Bl} (hv : aa g = true) {i : Nat} (hi : i < g.length) : (ai g i).length ≤ 2 := by
 rcases goes hv hi with ⟨h, _⟩ | ⟨p, hp, h, _⟩ | ⟨p, q, hp, hq, h, _⟩ <;> rw [h] <;> simp
end Go.Proofs.YtlkfakdghjaoaaaGreatDoor
namespace Go.Proofs.YtlkfakdghjaoaaaGreatDoor
open Go.RowKit Go.Sort
theorem x5 (A : Option Addr) (cap : Nat) (g : List Bl) (choices : ByteArray) (w : World) (hg : Gr w A g) (hn : g.length + aO g ≤ 1048576) (hc : choices.size ≤ 4611686018427387904) :
  Calls Tryz.prog 47 #[.slice A g.length cap, .string choices] w (oK g choices w) := by
 by_cases hb : fl g choices = true
 ·exact x4 A cap g choices w hg hn hc hb
 ·exact Al A cap g choices w hg hn hc (by simpa using hb)
end Go.Proofs.YtlkfakdghjaoaaaGreatDoor
