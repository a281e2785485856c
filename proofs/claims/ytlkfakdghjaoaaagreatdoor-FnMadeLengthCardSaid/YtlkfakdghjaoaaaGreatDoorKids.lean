import Derived.Test.YtlkfakdghjaoaaaGreatDoorJ10
import Derived.Test.YtlkfakdghjaoaaaGreatDoorJ9
import Derived.Test.YtlkfakdghjaoaaaGreatDoorJ4
import Derived.Shelf.SlicesE.Reverse
namespace Go.Proofs.YtlkfakdghjaoaaaGreatDoor
open Go.RowKit Go.Sort
theorem treeDom_any (tb NB : Nat) (g : List Bl) (B off cap : Nat) (S : Nat → Nat) (a b : Nat) (w : World) (hv : validB g = true) (h : TreeAt w tb NB g B off cap S) (ha : a < g.length) (hb : Rch g [] b) :
  Calls Tryz.prog 82 #[.pointer (some ⟨tb, 0, none⟩), nptr NB a, nptr NB b] w fun e w' => e = .returned (.bool (dmB g a b)) ∧ ∃ m, w' = w.drewN m := by
 have := dominates_any tb NB _ S _ g a b w h.tree h.nodes (valid_iff.1 hv).2.1 ha (hb.lt hv) (h.small b)
 rwa [h.set hv hb] at this
set_option maxRecDepth 100000 in
set_option maxHeartbeats 1000000 in
theorem implDominates_any (A : Option Addr) (cap : Nat) (g : List Bl) (s t : ByteArray) (w : World) (hg : Gr w A g) (hn : g.length + tot g ≤ 1048576) :
  Calls Tryz.prog 42 #[.slice A g.length cap, .string s, .string t] w fun e w' => e = .returned (.bool (domB g s t)) ∧ Below w.heap.size w w' := by
 cases hv : validB g with
 | false =>
  have HC := Lib.hid (treeOf_no A cap g w hg hn hv)
  have H1 := Lib.hid (domB_none1 (t := t) (liveOf_no (s := s) hv))
  clear hv
  go_enter Tryz.func42, Tryz.ntmps42
  go_wp2_with fail
  refine HC.out.mono ?_
  rintro e w1 ⟨tb, rfl, hT, b1⟩
  have HT := Lib.hid hT
  clear hT
  go_wp2_with fail
  refine (treeNamed_no tb _ _ s w1 HT.out).mono ?_
  rintro e w2 ⟨rfl, rfl⟩
  go_wp2_with fail
  refine (treeNamed_no tb _ _ t w1 HT.out).mono ?_
  rintro e w2 ⟨rfl, rfl⟩
  go_wp2_with fail
  go_ret
  exact ⟨ret_bool H1.out.symm, b1⟩
 | true =>
  have HC := Lib.hid (treeOf_yes A cap g w hg hn hv)
  have HV := Lib.hid hv
  cases ha : liveOf g s with
  | none =>
   have H1 := Lib.hid (domB_none1 (t := t) ha)
   have HA := Lib.hid ha
   cases hb : liveOf g t with
   | none =>
    have HB := Lib.hid hb
    clear hv ha hb
    go_enter Tryz.func42, Tryz.ntmps42
    go_wp2_with fail
    refine HC.out.mono ?_
    rintro e w1 ⟨tb, NB, B, off, c1, S, _, rfl, hT, b1⟩
    have n1 := treeNamed_any tb NB g B off c1 S s w1 HV.out hT
    have n2 := treeNamed_any tb NB g B off c1 S t w1 HV.out hT
    rw [HA.out] at n1
    rw [HB.out] at n2
    have N1 : Hid (Calls Tryz.prog 81 #[.pointer (some ⟨tb, 0, none⟩), .string s] w1 fun e w' => e = .returned (.pointer none) ∧ w1 = w') := n1
    have N2 : Hid (Calls Tryz.prog 81 #[.pointer (some ⟨tb, 0, none⟩), .string t] w1 fun e w' => e = .returned (.pointer none) ∧ w1 = w') := n2
    clear n1 n2 hT
    go_wp2_with fail
    refine N1.out.mono ?_
    rintro e w2 ⟨rfl, rfl⟩
    go_wp2_with fail
    refine N2.out.mono ?_
    rintro e w2 ⟨rfl, rfl⟩
    go_wp2_with fail
    go_ret
    exact ⟨ret_bool H1.out.symm, b1⟩
   | some b =>
    have HB := Lib.hid hb
    clear hv ha hb
    go_enter Tryz.func42, Tryz.ntmps42
    go_wp2_with fail
    refine HC.out.mono ?_
    rintro e w1 ⟨tb, NB, B, off, c1, S, _, rfl, hT, b1⟩
    have n1 := treeNamed_any tb NB g B off c1 S s w1 HV.out hT
    have n2 := treeNamed_any tb NB g B off c1 S t w1 HV.out hT
    rw [HA.out] at n1
    rw [HB.out] at n2
    have N1 : Hid (Calls Tryz.prog 81 #[.pointer (some ⟨tb, 0, none⟩), .string s] w1 fun e w' => e = .returned (.pointer none) ∧ w1 = w') := n1
    have N2 : Hid (Calls Tryz.prog 81 #[.pointer (some ⟨tb, 0, none⟩), .string t] w1 fun e w' => e = .returned (nptr NB b) ∧ w1 = w') := n2
    clear n1 n2 hT
    go_wp2_with fail
    refine N1.out.mono ?_
    rintro e w2 ⟨rfl, rfl⟩
    go_wp2_with fail
    refine N2.out.mono ?_
    rintro e w2 ⟨rfl, rfl⟩
    go_wp2_with fail
    go_ret
    exact ⟨ret_bool H1.out.symm, b1⟩
  | some a =>
   have HA := Lib.hid ha
   cases hb : liveOf g t with
   | none =>
    have H1 := Lib.hid (domB_none2 (s := s) hb)
    have HB := Lib.hid hb
    clear hv ha hb
    go_enter Tryz.func42, Tryz.ntmps42
    go_wp2_with fail
    refine HC.out.mono ?_
    rintro e w1 ⟨tb, NB, B, off, c1, S, _, rfl, hT, b1⟩
    have n1 := treeNamed_any tb NB g B off c1 S s w1 HV.out hT
    have n2 := treeNamed_any tb NB g B off c1 S t w1 HV.out hT
    rw [HA.out] at n1
    rw [HB.out] at n2
    have N1 : Hid (Calls Tryz.prog 81 #[.pointer (some ⟨tb, 0, none⟩), .string s] w1 fun e w' => e = .returned (nptr NB a) ∧ w1 = w') := n1
    have N2 : Hid (Calls Tryz.prog 81 #[.pointer (some ⟨tb, 0, none⟩), .string t] w1 fun e w' => e = .returned (.pointer none) ∧ w1 = w') := n2
    clear n1 n2 hT
    go_wp2_with fail
    refine N1.out.mono ?_
    rintro e w2 ⟨rfl, rfl⟩
    go_wp2_with fail
    refine N2.out.mono ?_
    rintro e w2 ⟨rfl, rfl⟩
    go_wp2_with fail
    go_ret
    exact ⟨ret_bool H1.out.symm, b1⟩
   | some b =>
    have H1 := Lib.hid (domB_some ha hb)
    have HB := Lib.hid hb
    have hal := (live_name ha).2.1
    have HRB := Lib.hid (live_name hb).2.2.2
    clear hv ha hb
    go_enter Tryz.func42, Tryz.ntmps42
    go_wp2_with fail
    refine HC.out.mono ?_
    rintro e w1 ⟨tb, NB, B, off, c1, S, _, rfl, hT, b1⟩
    have n1 := treeNamed_any tb NB g B off c1 S s w1 HV.out hT
    have n2 := treeNamed_any tb NB g B off c1 S t w1 HV.out hT
    rw [HA.out] at n1
    rw [HB.out] at n2
    have N1 : Hid (Calls Tryz.prog 81 #[.pointer (some ⟨tb, 0, none⟩), .string s] w1 fun e w' => e = .returned (nptr NB a) ∧ w1 = w') := n1
    have N2 : Hid (Calls Tryz.prog 81 #[.pointer (some ⟨tb, 0, none⟩), .string t] w1 fun e w' => e = .returned (nptr NB b) ∧ w1 = w') := n2
    have nd := treeDom_any tb NB g B off c1 S a b w1 HV.out hT hal HRB.out
    obtain ⟨d, hd⟩ : ∃ d, d = dmB g a b := ⟨_, rfl⟩
    rw [← hd] at nd
    have ND := Lib.hid nd
    have H2 : Hid (d = domB g s t) := hd.trans H1.out.symm
    clear n1 n2 nd hd hT
    go_wp2_with fail
    refine N1.out.mono ?_
    rintro e w2 ⟨rfl, rfl⟩
    go_wp2_with fail
    refine N2.out.mono ?_
    rintro e w2 ⟨rfl, rfl⟩
    go_wp2_with fail
    refine ND.out.mono ?_
    rintro e w2 ⟨rfl, m, rfl⟩
    go_wp2_with fail
    go_ret
    exact ⟨ret_bool H2.out, below_trans_self b1 (below_drewN _ m)⟩
end Go.Proofs.YtlkfakdghjaoaaaGreatDoor
namespace Go.Proofs.YtlkfakdghjaoaaaGreatDoor
open Go.RowKit Go.Sort Go.Shelf
theorem own_idx {w : World} {base NB : Nat} {v : Value} {P : List Nat} (h : w.ownsRow base 95 1 v P.length (P.map (nptr NB))) :
  ∃ A cap, v = .slice A P.length cap ∧ PtsI w A NB P ∧ (0 < P.length → ∃ B, A = some ⟨B, 0, none⟩ ∧ base ≤ B ∧ B < w.heap.size ∧ ∀ k, w.frozen? ⟨B, k, none⟩ = false) := by
 rcases h.2 with ⟨rfl, hn⟩ | ⟨gb, cap, cur, hv, hb, hg, _⟩
 ·exact ⟨none, 0, by rw [hn], fun hpos => absurd hpos (by omega), fun hpos => absurd hpos (by omega)⟩
 ·subst hv
  have hlt : gb < w.heap.size := by
   rcases Nat.lt_or_ge gb w.heap.size with h' | h'
   ·exact h'
   ·rw [Array.getElem?_eq_none h'] at hg; cases hg
  refine ⟨_, _, rfl, fun _ => ⟨gb, 0, rfl, hlt, fun j hj => ?_⟩, fun _ => ⟨gb, rfl, hb, hlt, fun k => by simp [World.frozen?, hg]⟩⟩
  have hc := h.cellAt j (by omega)
  rw [List.getElem?_map, List.getElem?_eq_getElem hj] at hc
  rw [Nat.zero_add]; exact hc
theorem pts_of_idx {w : World} {A : Option Addr} {NB : Nat} {g : List Bl} {L : List Nat} (h : PtsI w A NB L) (hN : NodesIn w NB g) (hL : ∀ x ∈ L, x < g.length) : Pts w A (nodesAt NB g L) := by
 intro hl
 rw [nodesAt_length] at hl
 obtain ⟨b, off, rfl, hb, hc⟩ := h hl
 refine ⟨b, off, rfl, hb, fun k hk => ?_⟩
 rw [nodesAt_length] at hk
 have hi := hL _ (List.getElem_mem hk)
 have hget : (nodesAt NB g L)[k]'(by rw [nodesAt_length]; exact hk) = (nb NB L[k], nthName g L[k]) := by simp [nodesAt]
 rw [hget]
 have hn1 := hN _ hi
 exact ⟨hc k hk, hn1.lt, by rw [hn1.cell 1, nthName_at hi]; rfl⟩
def FoundPost (w : World) (NB : Nat) (L : List Nat) (e : Ending) (w' : World) : Prop :=
 ∃ A cap, e = .returned (.slice A L.length cap) ∧ PtsI w' A NB L ∧ Below w.heap.size w w'
theorem ret_sl {A : Option Addr} {n n' c : Nat} (h : n = n') : Ending.returned (.slice A n c) = .returned (.slice A n' c) := by rw [h]
theorem grown_row {a' : World} {base NB x : Nat} {v' : Value} {P : List Nat} (h : a'.ownsRow base 95 1 v' (P.length + 1) (P.map (nptr NB) ++ [nptr NB x])) : a'.ownsRow base 95 1 v' (P ++ [x]).length ((P ++ [x]).map (nptr NB)) := by
 rw [List.length_append, List.map_append]; exact h
def lineO (g : List Bl) : Option Nat → List Nat
 | some a => domL g a
 | none => []
set_option maxRecDepth 100000 in
set_option maxHeartbeats 2000000 in
theorem pathTo_any (tb NB : Nat) (g : List Bl) (B off cap : Nat) (S : Nat → Nat) (n : Nat) (w : World) (hv : validB g = true) (h : TreeAt w tb NB g B off cap S) (hr : Rch g [] n) :
  Calls Tryz.prog 79 #[.pointer (some ⟨tb, 0, none⟩), nptr NB n] w (FoundPost w NB (domL g n)) := by
 have h26 := (valid_iff.1 hv).2.1
 have hll := domL_len hv n
 obtain ⟨ip, hip, hz0, hz1, hz2⟩ := info_parts info_ptr
 have HT := Lib.hid h
 have HV := Lib.hid hv
 have HR := Lib.hid hr
 clear h hv hr
 go_enter Tryz.func79, Tryz.ntmps79
 go_wp2_with fail
 go_loopg [5, 6] (domL g n).length (fun gk pv av wr => ∃ (o : Option Nat) (P : List Nat), gk = (lineO g o).length ∧ av = ptrAt NB o ∧ Hid (domL g n = lineO g o ++ P.reverse) ∧ Hid (∀ a, o = some a → Rch g [] a) ∧ wr.ownsRow w.heap.size 95 1 pv P.length (P.map (nptr NB)) ∧ Below w.heap.size w wr)
 case atStart => exact ⟨some n, [], rfl, rfl, (show domL g n = domL g n ++ [].reverse by simp), fun a e => by cases e; exact HR.out, World.ownsRow_nil _ _ _ _, Below.refl _ _⟩
 case round =>
  obtain ⟨o, P, rfl, rfl, HL, HRO, hown, hB⟩ := hrel
  have hPl : P.length ≤ 26 := by have := congrArg List.length HL.out; rw [List.length_append, List.length_reverse] at this; omega
  have HTB := Lib.hid (HT.out.below hB)
  have HB := Lib.hid hB
  cases o with
  | none =>
   rw [show ptrAt NB none = .pointer none from rfl]
   obtain ⟨A5, cap5, rfl, hp5, hf5⟩ := own_idx hown
   have hdl : domL g n = P.reverse := HL.out
   have hpos : 0 < P.length := by
    obtain ⟨l, e⟩ := domL_pos HV.out HR.out
    have := congrArg List.length (hdl.symm.trans e)
    simp at this; omega
   obtain ⟨B5, rfl, hB5, hB5l, hfz⟩ := hf5 hpos
   have hcells : ∀ k (hk : k < P.length), wr.cell? ⟨B5, 0 + k, none⟩ = some (nptr NB P[k]) := by
    obtain ⟨b, off5, e, _, hc⟩ := hp5 hpos
    cases e; exact hc
   have hH : Holds (nptr NB) wr B5 0 P.toArray := by
    intro j hj
    have hj' : j < P.length := by simpa using hj
    refine ⟨?_, hfz _⟩
    rw [hcells j hj']
    congr 2
    rw [getElem!_pos P.toArray j hj]; simp
   have HH := Lib.hid hH
   have hrev := AnyE.slices_Reverse Tryz.revNodes (nptr NB) (fun _ => rfl) B5 0 cap5 P wr hH (by omega)
   change Calls Tryz.prog 110 _ _ _ at hrev
   have HREV := Lib.hid hrev
   have HDL := Lib.hid hdl
   clear hown hB hp5 hf5 hcells hH hrev hdl
   go_wp2_with fail
   refine HREV.out.mono ?_
   rintro e w2 ⟨rfl, m, hw2⟩
   have HW2 := Lib.hid hw2
   clear hw2
   go_wp2_with fail
   go_ret
   have hlen : P.length = (domL g n).length := by rw [HDL.out, List.length_reverse]
   have hh := holds_putRow (nptr NB) (Go.Sort.ahead wr m) B5 0 P.toArray P.reverse.toArray (fun j hj => HH.out j hj) (by simp)
   refine ⟨_, _, ret_sl hlen, fun _ => ⟨B5, 0, rfl, ?_, fun k hk => ?_⟩, ?_⟩
   ·rw [HW2.out]
    show B5 < ((Go.Sort.ahead wr m).heap.modify B5 _).size
    rw [Array.size_modify]; exact hB5l
   ·rw [HW2.out]
    have hk2 : k < P.reverse.toArray.size := by rw [HDL.out] at hk; simpa using hk
    have := (hh k hk2).1
    rw [getElem!_pos P.reverse.toArray k hk2] at this
    rw [this]
    congr 2
    have : (domL g n)[k]? = P.reverse[k]? := by rw [HDL.out]
    rw [List.getElem?_eq_getElem hk, List.getElem?_eq_getElem (by simpa using hk2)] at this
    rw [Option.some.inj this]; simp
   ·have hb1 : Below w.heap.size wr w2 := by
     rw [HW2.out]
     refine ⟨rfl, rfl, rfl, ?_, fun k hk => ?_⟩
     ·show wr.heap.size ≤ ((Go.Sort.ahead wr m).heap.modify B5 _).size
      rw [Array.size_modify]; exact Nat.le_refl _
     ·show ((Go.Sort.ahead wr m).heap.modify B5 _)[k]? = wr.heap[k]?
      rw [Array.getElem?_modify, if_neg (by omega)]; rfl
    exact HB.out.trans hb1
  | some a =>
   rw [show ptrAt NB (some a) = nptr NB a from rfl]
   have hra := HRO.out a rfl
   have hal := hra.lt HV.out
   have hstep := domL_step HV.out hra
   have cp := HTB.out.parent HV.out hra
   have x0 : wr.cell? ⟨nb NB a, 0, none⟩ = some (.int .i64 a) := by have := (HTB.out.nodes a hal).cell 0; simpa using this
   obtain ⟨u, hu⟩ := ptrAt_pointer NB (parL g a)
   rw [hu] at cp
   have HU := Lib.hid hu
   have HLN := Lib.hid (show domL g n = lineO g (parL g a) ++ (P ++ [a]).reverse by
    rw [HL.out, List.reverse_append, ← List.append_assoc]
    congr 1)
   have HMS := Lib.hid (show (lineO g (parL g a)).length < (lineO g (some a)).length by
    show _ < (domL g a).length
    rw [hstep, List.length_append]
    cases parL g a <;> simp [lineO])
   have HRN := Lib.hid (show ∀ b, parL g a = some b → Rch g [] b from fun b e => ((parL_iff HV.out hra).1 e).2.1)
   have HOWN := Lib.hid hown
   have a0 : (0 : Int) ≤ (a : Int) := by omega
   have a1 : (a : Int) < 26 := by omega
   have a2 : a < 26 := by omega
   have hsz0 := hB.size
   clear hown hstep hu
   go_wp2_with (at_builtin; refine wpList_append_own _ rfl _ _ 58 rfl w.heap.size 95 ip (.pointer none) 1 8 Tryz.underlying58 hip hz0 hz1 hz2 rfl (by decide) _ _ _ rfl (HOWN.out.alloc _) ⟨wr.heap.size, 0, none⟩ 1 1 [nptr NB a] rfl rfl ?c1 ?c2 ?c3 ?c4 ?c5 ?_)
   case c1 =>
    intro j u hj
    match j, hj with
    | 0, hj =>
     have hu : nptr NB a = u := by simpa using hj
     rw [← hu]
     simp [Addr.add]
   case c2 => intro u hu; have hu' : u = nptr NB a := by simpa using hu
              subst hu'; rfl
   case c3 => unfold maxLen; omega
   case c4 => omega
   case c5 => simp; omega
   intro v' w5 hown' hgrow _
   have hsz := (HOWN.out.alloc (.cells #[nptr NB a] 95)).lt
   have hB5 := (hB.alloc hB.size (.cells #[nptr NB a] 95)).grown hgrow (by simp; have := hB.size; omega) (fun j hj => (hsz j hj).1)
   have HO5 := Lib.hid (grown_row hown')
   have HT5 := Lib.hid (HT.out.below hB5)
   have cp5 := HT5.out.parent HV.out hra
   rw [HU.out] at cp5
   have x05 : w5.cell? ⟨nb NB a, 0, none⟩ = some (.int .i64 a) := by have := (HT5.out.nodes a hal).cell 0; simpa using this
   have HB5 := Lib.hid hB5
   clear hown' hsz hgrow hB5 hB cp x0
   go_wp2_with fail
   go_quiet (fail)
   have HO6 := Lib.hid (own_below HO5.out (below_drewN w5 nq))
   have HB6 := Lib.hid (HB5.out.trans ((below_drewN w5 nq).mono HB5.out.size))
   go_wp2_with fail
   gi_roundg ((lineO g (parL g a)).length)
   case measure => exact HMS.out
   case rel => exact ⟨parL g a, P ++ [a], rfl, HU.out.symm, HLN.out, HRN.out, HO6.out, HB6.out⟩
end Go.Proofs.YtlkfakdghjaoaaaGreatDoor
namespace Go.Proofs.YtlkfakdghjaoaaaGreatDoor
open Go.RowKit Go.Sort Go.Shelf
theorem reachS_small {g : List Bl} (hv : validB g = true) : (reachS g).length ≤ 26 := by
 have h1 := srt_len g (reach g) g.length
 rw [← reachS_srt] at h1
 have := (valid_iff.1 hv).2.1
 omega
theorem domL_lt2 {g : List Bl} (hv : validB g = true) {n : Nat} (hr : Rch g [] n) : ∀ x ∈ domL g n, x < g.length := fun _ hx => (((mem_domL hv hr).1 hx).live hr).lt hv
theorem run_eql_nil_ptr {P : Program} (w : World) {tp te : TypeId} {b : Addr} (hp : P.underlying tp = some (.pointer te)) :
  (binOp .eql tp (.pointer none) (.pointer (some b))).run P w = .ok (.bool false) w := by
 have h : ∀ d : Nat, (Op.equalIn (d + 1) tp (.pointer none) (.pointer (some b))).run P w = .ok false w := fun d => by
  simp [Op.equalIn, run_underlying hp]
 simp only [binOp]
 simp [Op.equal, Op.maxDepth, h 9999]
theorem nptr_ne {NB x y : Nat} (h : x ≠ y) : (⟨nb NB x, 0, none⟩ : Addr) ≠ ⟨nb NB y, 0, none⟩ := fun e => h (by have h7 := (Addr.mk.inj e).1; simp only [nb] at h7; omega)
def FindsAt (F : FuncId) (L : List Bl → Nat → List Nat) : Prop := ∀ (tb NB : Nat) (g : List Bl) (B off cap : Nat) (S : Nat → Nat) (n : Nat) (w : World), validB g = true → TreeAt w tb NB g B off cap S → Rch g [] n →
 Calls Tryz.prog F #[.pointer (some ⟨tb, 0, none⟩), nptr NB n] w (FoundPost w NB (L g n))
def foundV (L : List Bl → Nat → List Nat) (g : List Bl) (s : ByteArray) : ByteArray := match liveOf g s with | some n => namesAt g (L g n) | none => ⟨#[]⟩
set_option maxRecDepth 100000 in
set_option maxHeartbeats 1000000 in
theorem namesFound_any (F : FuncId) (L : List Bl → Nat → List Nat) (hF : FindsAt F L) (hL : ∀ g n, validB g = true → Rch g [] n → (∀ x ∈ L g n, x < g.length) ∧ (L g n).length ≤ 26) (hent : ∀ args w, (callFunc F args).run Tryz.prog w = .ok (.enter F args) w)
  (A : Option Addr) (cap : Nat) (g : List Bl) (s : ByteArray) (w : World) (hg : Gr w A g) (hn : g.length + tot g ≤ 1048576) :
  Calls Tryz.prog 78 #[.slice A g.length cap, .string s, .func (.func F) #[] #[]] w fun e w' => e = .returned (.tuple #[.string (foundV L g s), .bool (liveB g s)]) ∧ Below w.heap.size w w' := by
 cases hv : validB g with
 | false =>
  have HC := Lib.hid (treeOf_no A cap g w hg hn hv)
  have H1 := Lib.hid (show (⟨#[]⟩ : ByteArray) = foundV L g s by unfold foundV; rw [liveOf_no hv])
  have H2 := Lib.hid (liveB_none (liveOf_no (s := s) hv))
  clear hv hF hL
  go_enter Tryz.func78, Tryz.ntmps78
  go_wp2_with fail
  refine HC.out.mono ?_
  rintro e w1 ⟨tb, rfl, hT, b1⟩
  have HT := Lib.hid hT
  clear hT
  go_wp2_with fail
  refine (treeNamed_no tb _ _ s w1 HT.out).mono ?_
  rintro e w2 ⟨rfl, rfl⟩
  go_wp2_with fail
  go_ret2
  exact ⟨ret_sb H1.out H2.out.symm, b1⟩
 | true =>
  have HC := Lib.hid (treeOf_yes A cap g w hg hn hv)
  have HV := Lib.hid hv
  have HNA := Lib.hid (fun tb NB B off c1 S s w1 => treeNamed_any tb NB g B off c1 S s w1 hv)
  have HFF := Lib.hid hF
  have HLL := Lib.hid hL
  cases ha : liveOf g s with
  | none =>
   have H1 := Lib.hid (show (⟨#[]⟩ : ByteArray) = foundV L g s by unfold foundV; rw [ha])
   have H2 := Lib.hid (liveB_none ha)
   have HA := Lib.hid ha
   clear hv ha hF hL
   go_enter Tryz.func78, Tryz.ntmps78
   go_wp2_with fail
   refine HC.out.mono ?_
   rintro e w1 ⟨tb, NB, B, off, c1, S, _, rfl, hT, b1⟩
   have n1 := HNA.out tb NB B off c1 S s w1 hT
   rw [HA.out] at n1
   have N1 : Hid (Calls Tryz.prog 81 #[.pointer (some ⟨tb, 0, none⟩), .string s] w1 fun e w' => e = .returned (.pointer none) ∧ w1 = w') := n1
   clear n1 hT
   go_wp2_with fail
   refine N1.out.mono ?_
   rintro e w2 ⟨rfl, rfl⟩
   go_wp2_with fail
   go_ret2
   exact ⟨ret_sb H1.out H2.out.symm, b1⟩
  | some n =>
   have HA := Lib.hid ha
   have HR := Lib.hid (live_name ha).2.2.2
   have H1 := Lib.hid (show namesAt g (L g n) = foundV L g s by unfold foundV; rw [ha])
   have H2 := Lib.hid (liveB_some ha)
   clear hv ha hF hL
   go_enter Tryz.func78, Tryz.ntmps78
   go_wp2_with fail
   refine HC.out.mono ?_
   rintro e w1 ⟨tb, NB, B, off, c1, S, _, rfl, hT, b1⟩
   have n1 := HNA.out tb NB B off c1 S s w1 hT
   rw [HA.out] at n1
   have N1 : Hid (Calls Tryz.prog 81 #[.pointer (some ⟨tb, 0, none⟩), .string s] w1 fun e w' => e = .returned (nptr NB n) ∧ w1 = w') := n1
   have HFN := Lib.hid (HFF.out tb NB g B off c1 S n w1 HV.out hT HR.out)
   have HN1 := Lib.hid hT.nodes
   clear n1 hT
   go_wp2_with fail
   refine N1.out.mono ?_
   rintro e w2 ⟨rfl, rfl⟩
   go_wp2_with fail
   refine HFN.out.mono ?_
   rintro e w3 ⟨A3, c3, rfl, hp3, b3⟩
   obtain ⟨hl1, hl2⟩ := HLL.out g n HV.out HR.out
   have hj := join_any A3 c3 (nodesAt NB g (L g n)) w3 (pts_of_idx hp3 (HN1.out.below b3) hl1) (by rw [nodesAt_length]; omega) (by rw [joined_nodesAt, namesAt_size HV.out _ hl1]; omega)
   rw [nodesAt_length, joined_nodesAt] at hj
   have HJ := Lib.hid hj
   clear hp3 hl1 hj
   go_wp2_with fail
   refine HJ.out.mono ?_
   rintro e w4 ⟨rfl, b4⟩
   go_wp2_with fail
   go_ret2
   exact ⟨ret_sb H1.out H2.out.symm, below_trans_self (below_trans_self b1 b3) b4⟩
end Go.Proofs.YtlkfakdghjaoaaaGreatDoor
