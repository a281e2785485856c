/-
  Contract of the program's Dominates.
-/
import Derived.Test.YtdolbmonmkjajaaGreatTreeOf
import Derived.Test.YtdolbmonmkjajaaGreatSpecDom
import Derived.Test.YtdolbmonmkjajaaGreatPrevOf
import Derived.Shelf.SlicesE.Reverse
namespace Go.Proofs.YtdolbmonmkjajaaGreat
open Go.RowKit Go.Sort

theorem treeDom_any (tb NB : Nat) (g : List Bl) (B off cap : Nat) (S : Nat → Nat) (a b : Nat) (w : World) (hv : validB g = true) (h : TreeAt w tb NB g B off cap S) (ha : a < g.length) (hb : Rch g [] b) :
    Calls Tryz.prog 78 #[.pointer (some ⟨tb, 0, none⟩), nptr NB a, nptr NB b] w fun e w' => e = .returned (.bool (dmB g a b)) ∧ ∃ m, w' = w.drewN m := by
  have := dominates_any tb NB _ S _ g a b w h.tree h.nodes (valid_iff.1 hv).2.1 ha (hb.lt hv) (h.small b)
  rwa [h.set hv hb] at this

set_option maxRecDepth 100000 in
set_option maxHeartbeats 1000000 in
theorem implDominates_any (A : Option Addr) (cap : Nat) (g : List Bl) (s t : ByteArray) (w : World) (hg : Gr w A g) (hn : g.length + tot g ≤ 1048576) :
    Calls Tryz.prog 39 #[.slice A g.length cap, .string s, .string t] w fun e w' => e = .returned (.bool (domB g s t)) ∧ Below w.heap.size w w' := by
  cases hv : validB g with
  | false =>
    have HC := Lib.hid (treeOf_no A cap g w hg hn hv)
    have H1 := Lib.hid (domB_none1 (t := t) (liveOf_no (s := s) hv))
    clear hv
    go_enter Tryz.func39, Tryz.ntmps39
    go_wp2_with fail
    refine HC.out.mono ?_
    rintro e w1 ⟨tb, rfl, hT, b1⟩
    have HT := Lib.hid hT
    clear hT
    go_wp2_with fail
    refine (treeNamed_no tb _ _ s w1 HT.out).mono ?_
    rintro e w2 ⟨rfl, rfl⟩
    go_wp2_with fail
    refine (treeNamed_no tb _ _ t w1 HT.out).mono ?_
    rintro e w2 ⟨rfl, rfl⟩
    go_wp2_with fail
    go_ret
    exact ⟨ret_bool H1.out.symm, b1⟩
  | true =>
    have HC := Lib.hid (treeOf_yes A cap g w hg hn hv)
    have HV := Lib.hid hv
    cases ha : liveOf g s with
    | none =>
      have H1 := Lib.hid (domB_none1 (t := t) ha)
      have HA := Lib.hid ha
      cases hb : liveOf g t with
      | none =>
        have HB := Lib.hid hb
        clear hv ha hb
        go_enter Tryz.func39, Tryz.ntmps39
        go_wp2_with fail
        refine HC.out.mono ?_
        rintro e w1 ⟨tb, NB, B, off, c1, S, _, rfl, hT, b1⟩
        have n1 := treeNamed_any tb NB g B off c1 S s w1 HV.out hT
        have n2 := treeNamed_any tb NB g B off c1 S t w1 HV.out hT
        rw [HA.out] at n1
        rw [HB.out] at n2
        have N1 : Hid (Calls Tryz.prog 64 #[.pointer (some ⟨tb, 0, none⟩), .string s] w1 fun e w' => e = .returned (.pointer none) ∧ w1 = w') := n1
        have N2 : Hid (Calls Tryz.prog 64 #[.pointer (some ⟨tb, 0, none⟩), .string t] w1 fun e w' => e = .returned (.pointer none) ∧ w1 = w') := n2
        clear n1 n2 hT
        go_wp2_with fail
        refine N1.out.mono ?_
        rintro e w2 ⟨rfl, rfl⟩
        go_wp2_with fail
        refine N2.out.mono ?_
        rintro e w2 ⟨rfl, rfl⟩
        go_wp2_with fail
        go_ret
        exact ⟨ret_bool H1.out.symm, b1⟩
      | some b =>
        have HB := Lib.hid hb
        clear hv ha hb
        go_enter Tryz.func39, Tryz.ntmps39
        go_wp2_with fail
        refine HC.out.mono ?_
        rintro e w1 ⟨tb, NB, B, off, c1, S, _, rfl, hT, b1⟩
        have n1 := treeNamed_any tb NB g B off c1 S s w1 HV.out hT
        have n2 := treeNamed_any tb NB g B off c1 S t w1 HV.out hT
        rw [HA.out] at n1
        rw [HB.out] at n2
        have N1 : Hid (Calls Tryz.prog 64 #[.pointer (some ⟨tb, 0, none⟩), .string s] w1 fun e w' => e = .returned (.pointer none) ∧ w1 = w') := n1
        have N2 : Hid (Calls Tryz.prog 64 #[.pointer (some ⟨tb, 0, none⟩), .string t] w1 fun e w' => e = .returned (nptr NB b) ∧ w1 = w') := n2
        clear n1 n2 hT
        go_wp2_with fail
        refine N1.out.mono ?_
        rintro e w2 ⟨rfl, rfl⟩
        go_wp2_with fail
        refine N2.out.mono ?_
        rintro e w2 ⟨rfl, rfl⟩
        go_wp2_with fail
        go_ret
        exact ⟨ret_bool H1.out.symm, b1⟩
    | some a =>
      have HA := Lib.hid ha
      cases hb : liveOf g t with
      | none =>
        have H1 := Lib.hid (domB_none2 (s := s) hb)
        have HB := Lib.hid hb
        clear hv ha hb
        go_enter Tryz.func39, Tryz.ntmps39
        go_wp2_with fail
        refine HC.out.mono ?_
        rintro e w1 ⟨tb, NB, B, off, c1, S, _, rfl, hT, b1⟩
        have n1 := treeNamed_any tb NB g B off c1 S s w1 HV.out hT
        have n2 := treeNamed_any tb NB g B off c1 S t w1 HV.out hT
        rw [HA.out] at n1
        rw [HB.out] at n2
        have N1 : Hid (Calls Tryz.prog 64 #[.pointer (some ⟨tb, 0, none⟩), .string s] w1 fun e w' => e = .returned (nptr NB a) ∧ w1 = w') := n1
        have N2 : Hid (Calls Tryz.prog 64 #[.pointer (some ⟨tb, 0, none⟩), .string t] w1 fun e w' => e = .returned (.pointer none) ∧ w1 = w') := n2
        clear n1 n2 hT
        go_wp2_with fail
        refine N1.out.mono ?_
        rintro e w2 ⟨rfl, rfl⟩
        go_wp2_with fail
        refine N2.out.mono ?_
        rintro e w2 ⟨rfl, rfl⟩
        go_wp2_with fail
        go_ret
        exact ⟨ret_bool H1.out.symm, b1⟩
      | some b =>
        have H1 := Lib.hid (domB_some ha hb)
        have HB := Lib.hid hb
        have hal := (live_name ha).2.1
        have HRB := Lib.hid (live_name hb).2.2.2
        clear hv ha hb
        go_enter Tryz.func39, Tryz.ntmps39
        go_wp2_with fail
        refine HC.out.mono ?_
        rintro e w1 ⟨tb, NB, B, off, c1, S, _, rfl, hT, b1⟩
        have n1 := treeNamed_any tb NB g B off c1 S s w1 HV.out hT
        have n2 := treeNamed_any tb NB g B off c1 S t w1 HV.out hT
        rw [HA.out] at n1
        rw [HB.out] at n2
        have N1 : Hid (Calls Tryz.prog 64 #[.pointer (some ⟨tb, 0, none⟩), .string s] w1 fun e w' => e = .returned (nptr NB a) ∧ w1 = w') := n1
        have N2 : Hid (Calls Tryz.prog 64 #[.pointer (some ⟨tb, 0, none⟩), .string t] w1 fun e w' => e = .returned (nptr NB b) ∧ w1 = w') := n2
        have nd := treeDom_any tb NB g B off c1 S a b w1 HV.out hT hal HRB.out
        obtain ⟨d, hd⟩ : ∃ d, d = dmB g a b := ⟨_, rfl⟩
        rw [← hd] at nd
        have ND := Lib.hid nd
        have H2 : Hid (d = domB g s t) := hd.trans H1.out.symm
        clear n1 n2 nd hd hT
        go_wp2_with fail
        refine N1.out.mono ?_
        rintro e w2 ⟨rfl, rfl⟩
        go_wp2_with fail
        refine N2.out.mono ?_
        rintro e w2 ⟨rfl, rfl⟩
        go_wp2_with fail
        refine ND.out.mono ?_
        rintro e w2 ⟨rfl, m, rfl⟩
        go_wp2_with fail
        go_ret
        exact ⟨ret_bool H2.out, below_trans_self b1 (below_drewN _ m)⟩
end Go.Proofs.YtdolbmonmkjajaaGreat

/-
  What is found in the tree for a block: the blocks that dominate it, its children.
-/
namespace Go.Proofs.YtdolbmonmkjajaaGreat
open Go.RowKit Go.Sort Go.Shelf

theorem own_idx {w : World} {base NB : Nat} {v : Value} {P : List Nat} (h : w.ownsRow base 61 1 v P.length (P.map (nptr NB))) :
    ∃ A cap, v = .slice A P.length cap ∧ PtsI w A NB P ∧ (0 < P.length → ∃ B, A = some ⟨B, 0, none⟩ ∧ base ≤ B ∧ B < w.heap.size ∧ ∀ k, w.frozen? ⟨B, k, none⟩ = false) := by
  rcases h.2 with ⟨rfl, hn⟩ | ⟨gb, cap, cur, hv, hb, hg, _⟩
  · exact ⟨none, 0, by rw [hn], fun hpos => absurd hpos (by omega), fun hpos => absurd hpos (by omega)⟩
  · subst hv
    have hlt : gb < w.heap.size := by
      rcases Nat.lt_or_ge gb w.heap.size with h' | h'
      · exact h'
      · rw [Array.getElem?_eq_none h'] at hg; cases hg
    refine ⟨_, _, rfl, fun _ => ⟨gb, 0, rfl, hlt, fun j hj => ?_⟩, fun _ => ⟨gb, rfl, hb, hlt, fun k => by simp [World.frozen?, hg]⟩⟩
    have hc := h.cellAt j (by omega)
    rw [List.getElem?_map, List.getElem?_eq_getElem hj] at hc
    rw [Nat.zero_add]; exact hc

theorem pts_of_idx {w : World} {A : Option Addr} {NB : Nat} {g : List Bl} {L : List Nat} (h : PtsI w A NB L) (hN : NodesIn w NB g) (hL : ∀ x ∈ L, x < g.length) : Pts w A (nodesAt NB g L) := by
  intro hl
  rw [nodesAt_length] at hl
  obtain ⟨b, off, rfl, hb, hc⟩ := h hl
  refine ⟨b, off, rfl, hb, fun k hk => ?_⟩
  rw [nodesAt_length] at hk
  have hi := hL _ (List.getElem_mem hk)
  have hget : (nodesAt NB g L)[k]'(by rw [nodesAt_length]; exact hk) = (nb NB L[k], nthName g L[k]) := by simp [nodesAt]
  rw [hget]
  have hn1 := hN _ hi
  exact ⟨hc k hk, hn1.lt, by rw [hn1.cell 1, nthName_at hi]; rfl⟩

/-- Blocks are found. -/
def FoundPost (w : World) (NB : Nat) (L : List Nat) (e : Ending) (w' : World) : Prop :=
  ∃ A cap, e = .returned (.slice A L.length cap) ∧ PtsI w' A NB L ∧ Below w.heap.size w w'

theorem ret_sl {A : Option Addr} {n n' c : Nat} (h : n = n') : Ending.returned (.slice A n c) = .returned (.slice A n' c) := by rw [h]

/-- One more behind a row of the call's own. -/
theorem grown_row {a' : World} {base NB x : Nat} {v' : Value} {P : List Nat} (h : a'.ownsRow base 61 1 v' (P.length + 1) (P.map (nptr NB) ++ [nptr NB x])) : a'.ownsRow base 61 1 v' (P ++ [x]).length ((P ++ [x]).map (nptr NB)) := by
  rw [List.length_append, List.map_append]; exact h

/-- The line of what comes next, if there is something. -/
def lineO (g : List Bl) : Option Nat → List Nat
  | some a => domL g a
  | none => []

end Go.Proofs.YtdolbmonmkjajaaGreat

/-
  What is found in the tree for a block: its children; the names of what is found.
-/
namespace Go.Proofs.YtdolbmonmkjajaaGreat
open Go.RowKit Go.Sort Go.Shelf

theorem reachS_small {g : List Bl} (hv : validB g = true) : (reachS g).length ≤ 26 := by
  have h1 := srt_len g (reach g) g.length
  rw [← reachS_srt] at h1
  have := (valid_iff.1 hv).2.1
  omega

theorem domL_lt2 {g : List Bl} (hv : validB g = true) {n : Nat} (hr : Rch g [] n) : ∀ x ∈ domL g n, x < g.length := fun _ hx => (((mem_domL hv hr).1 hx).live hr).lt hv

theorem run_eql_nil_ptr {P : Program} (w : World) {tp te : TypeId} {b : Addr} (hp : P.underlying tp = some (.pointer te)) :
    (binOp .eql tp (.pointer none) (.pointer (some b))).run P w = .ok (.bool false) w := by
  have h : ∀ d : Nat, (Op.equalIn (d + 1) tp (.pointer none) (.pointer (some b))).run P w = .ok false w := fun d => by
    simp [Op.equalIn, run_underlying hp]
  simp only [binOp]
  simp [Op.equal, Op.maxDepth, h 9999]

theorem nptr_ne {NB x y : Nat} (h : x ≠ y) : (⟨nb NB x, 0, none⟩ : Addr) ≠ ⟨nb NB y, 0, none⟩ := fun e => h (by have h7 := (Addr.mk.inj e).1; simp only [nb] at h7; omega)


/-- The names of what is found in the tree. -/
def FindsAt (F : FuncId) (L : List Bl → Nat → List Nat) : Prop := ∀ (tb NB : Nat) (g : List Bl) (B off cap : Nat) (S : Nat → Nat) (n : Nat) (w : World), validB g = true → TreeAt w tb NB g B off cap S → Rch g [] n →
  Calls Tryz.prog F #[.pointer (some ⟨tb, 0, none⟩), nptr NB n] w (FoundPost w NB (L g n))

def foundV (L : List Bl → Nat → List Nat) (g : List Bl) (s : ByteArray) : ByteArray := match liveOf g s with | some n => namesAt g (L g n) | none => ⟨#[]⟩

end Go.Proofs.YtdolbmonmkjajaaGreat
