import Derived.Test.YtlkfakdghjaoaaaGreatDoorNodes
import Derived.Deep.RegionHeld3
import Derived.Lib.Join
import Derived.OwnWalk
import Derived.LaidEqlPtr
import Derived.Test.YtlkfakdghjaoaaaGreatDoorJ3
import Derived.Test.YtlkfakdghjaoaaaGreatDoorItemsOf
namespace Go.Proofs.YtlkfakdghjaoaaaGreatDoor
open Go.RowKit Go.Sort
def mark (next : ByteArray) : ByteArray := if next.size = 1 then ⟨#[62]⟩ else if next.size = 2 then ⟨#[63]⟩ else ⟨#[46]⟩
def part (b : Bl) : ByteArray := b.1 ++ mark b.2 ++ b.2
theorem mark_size (next : ByteArray) : (mark next).size = 1 := by
 unfold mark; split
 ·rfl
 ·split <;> rfl
theorem part_size (b : Bl) : (part b).size = b.1.size + 1 + b.2.size := by
 unfold part; rw [ByteArray.size_append, ByteArray.size_append, mark_size]
def fmtG (g : List Bl) : ByteArray := ⟨(Lib.join (g.map fun b => (part b).data.toList) [44]).toArray⟩
structure Parts (w : World) (PB : Nat) (g : List Bl) (k : Nat) : Prop where
 row : ∃ cs, Blk w PB 9 cs ∧ cs.size = g.length ∧ ∀ i (h : i < g.length), i < k → cs[i]? = some (.string (part g[i]))
theorem Parts.below {w w' : World} {PB : Nat} {g : List Bl} {k : Nat} (h : Parts w PB g k) (hb : Below w.heap.size w w') : Parts w' PB g k := by
 obtain ⟨cs, hbk, hr⟩ := h.row
 exact ⟨cs, hbk.below hb hbk.lt, hr⟩
theorem Parts.step {w : World} {PB : Nat} {g : List Bl} {k : Nat} {s : ByteArray} (h : Parts w PB g k) (hk : k < g.length) (hs : part g[k] = s) : Parts (w.setCell ⟨PB, k, none⟩ (.string s)) PB g (k + 1) := by
 obtain ⟨cs, hbk, hsz, hr⟩ := h.row
 refine ⟨_, hbk.set_ k _, by simpa using hsz, fun i hi hik => ?_⟩
 rw [Array.getElem?_setIfInBounds]
 by_cases e : k = i
 ·subst e; rw [if_pos rfl, if_pos (by omega), hs]
 ·rw [if_neg e]; exact hr i hi (by omega)
def fmtVal (g : List Bl) : ByteArray := if validB g then fmtG g else ⟨#[]⟩
theorem fmtVal_yes {g : List Bl} (h : validB g = true) : fmtVal g = fmtG g := by unfold fmtVal; rw [if_pos h]
theorem fmtVal_no {g : List Bl} (h : validB g = false) : fmtVal g = ⟨#[]⟩ := by unfold fmtVal; rw [h]; rfl
theorem lens_parts (g : List Bl) : Lib.lens (g.map fun b => (part b).data.toList) = tot g + g.length := by
 induction g with
 | nil => rfl
 | cons b g ih =>
  have e : Lib.lens ((b :: g).map fun b => (part b).data.toList) = (part b).data.toList.length + Lib.lens (g.map fun b => (part b).data.toList) := by simp [Lib.lens]
  have e2 : (part b).data.toList.length = (part b).size := by rw [Array.length_toList]; rfl
  rw [e, ih, e2, part_size]; simp [tot]; omega
theorem join_le (l : List (List UInt8)) : (Lib.join l [44]).length ≤ Lib.lens l + l.length := by
 cases l with
 | nil => exact Nat.zero_le _
 | cons x r => rw [Lib.join_length]; simp; omega
theorem fmtG_toList (g : List Bl) : (fmtG g).data.toList = Lib.join (g.map fun b => (part b).data.toList) [44] := by simp [fmtG]
theorem fmtG_one (b : Bl) : fmtG [b] = part b := by
 apply ba_ext; rw [fmtG_toList]; exact Lib.join_one _ _
theorem fmtG_snoc {g : List Bl} (h : 0 < g.length) (b : Bl) : fmtG (g ++ [b]) = fmtG g ++ ⟨#[44]⟩ ++ part b := by
 apply ba_ext
 rw [ba_append_toList, ba_append_toList, fmtG_toList, fmtG_toList]
 cases g with
 | nil => simp at h
 | cons x r =>
  simp only [List.cons_append, List.map_cons, List.map_append, List.map_nil, Lib.join_cons]
  unfold Lib.joinTail
  simp
theorem fmtG_nil : fmtG [] = ⟨#[]⟩ := rfl
theorem fmtG_size_le (g : List Bl) : (fmtG g).size ≤ tot g + 2 * g.length := by
 have h := join_le (g.map fun b => (part b).data.toList)
 rw [lens_parts, List.length_map] at h
 have h2 : (fmtG g).size = (Lib.join (g.map fun b => (part b).data.toList) [44]).length := by rw [← fmtG_toList, Array.length_toList]; rfl
 omega
theorem mark_slice (t : ByteArray) (h : t.size ≤ 2) : (⟨#[46, 62, 63]⟩ : ByteArray).extract t.size (t.size + 1) = mark t := by
 have : t.size = 0 ∨ t.size = 1 ∨ t.size = 2 := by omega
 unfold mark
 rcases this with h | h | h <;> rw [h] <;> rfl
set_option maxHeartbeats 800000 in
theorem specFormat_any (A : Option Addr) (cap : Nat) (g : List Bl) (w : World) (hg : Gr w A g) (hn : g.length + tot g ≤ 1048576) (hcap : g.length ≤ cap) :
  Calls Tryz.prog 172 #[.slice A g.length cap] w fun e w' => e = .returned (.string (fmtVal g)) ∧ Below w.heap.size w w' := by
 have hc := specValid_any A cap g w hg hn hcap
 by_cases hv : validB g = true
 ·have HV := Lib.hid (fmtVal_yes hv)
  rw [hv] at hc
  have HC := Lib.hid hc
  have HT := Lib.hid hv
  clear hv hc
  go_enter Tryz.func172, Tryz.ntmps172
  go_wp2_with fail
  refine HC.out.mono ?_
  rintro e w1 ⟨rfl, b1⟩
  go_wp2_with fail
  go_loopw [3, 11] (fun s i wr => ∃ k : Nat, k ≤ g.length ∧ i = .int .i64 k ∧ s = .string (fmtG (g.take k)) ∧ Below w.heap.size w wr) (fun _ i _ => g.length - (intOf i).toNat)
  case atStart => exact ⟨0, Nat.zero_le _, rfl, rfl, b1⟩
  case round =>
   obtain ⟨k, hk, rfl, rfl, hB⟩ := hrel
   have hm1 := fmtG_size_le (g.take k)
   have hm2 := tot_take_le g k
   have hm3 : (g.take k).length ≤ g.length := by simp; omega
   obtain ⟨m, hm⟩ : ∃ m, m = fmtG (g.take k) := ⟨_, rfl⟩
   have HM := Lib.hid hm
   rw [← hm] at hm1 ⊢
   have hms : m.size ≤ 3145728 := by omega
   clear hm hm1 hm2 hm3
   by_cases hlt : k < g.length
   ·obtain ⟨b, off, s, t, rfl, hb, hc0, hc1, he, he2⟩ := gr_at (hg.below hB) hlt
    have hs3 := tot_get g k hlt
    rw [he, he2] at hs3
    have hs2 := (nextB_iff.1 (nextsB_iff.1 (valid_iff.1 HT.out).2.2.2 k hlt)).1
    rw [he2] at hs2
    have hss : s.size ≤ 1048576 := by omega
    have HP := Lib.hid (show part g[k] = s ++ mark t ++ t by unfold part; rw [he, he2])
    have HMS := Lib.hid (mark_slice t hs2)
    have hm1 := mark_size t
    have hsl : ∀ w, (Instr.slice 9 (.string ⟨#[46, 62, 63]⟩) (some (.int .i64 t.size)) (some (.int .i64 (t.size + 1))) none).run Tryz.prog w = .ok (.string (mark t)) w := fun w => by
     have h3 : (⟨#[46, 62, 63]⟩ : ByteArray).size = 3 := rfl
     have := run_slice_string (P := Tryz.prog) w 9 ⟨#[46, 62, 63]⟩ .i64 .i64 (t.size : Int) (t.size + 1 : Int) Tryz.underlying9 (by omega) (by omega) (by rw [h3]; omega)
     rw [this]
     have e1 : ((t.size : Int)).toNat = t.size := by omega
     have e2 : ((t.size : Int) + 1).toNat = t.size + 1 := by omega
     rw [e1, e2, mark_slice t hs2]
    have HTK := Lib.hid (take_snoc' g k hlt)
    clear he he2 hs3
    by_cases h0 : 0 < k
    ·have HF : Hid (fmtG (g.take (k + 1)) = m ++ ⟨#[44]⟩ ++ (s ++ mark t ++ t)) := by
      show fmtG (g.take (k + 1)) = m ++ ⟨#[44]⟩ ++ (s ++ mark t ++ t)
      rw [HTK.out, fmtG_snoc (by simp; omega), HP.out, HM.out]
     go_wp2_with fail
     go_quiet (fail)
     go_wp2_with fail
     go_roundw
     case rel => exact ⟨k + 1, by omega, by go_num, by rw [HF.out, ← ba_append_assoc, ← ba_append_assoc], below_trans_self (hB.alloc hB.size _) (below_drewN _ nq)⟩
     case measure => simp [intOf]; omega
    ·have HF : Hid (fmtG (g.take (k + 1)) = m ++ (s ++ mark t ++ t)) := by
      show fmtG (g.take (k + 1)) = m ++ (s ++ mark t ++ t)
      have hk0 : k = 0 := by omega
      rw [HTK.out, HM.out]
      subst hk0
      rw [List.take_zero, List.nil_append, fmtG_one, HP.out, fmtG_nil, ba_empty_append]
     go_wp2_with fail
     go_quiet (fail)
     go_wp2_with fail
     go_roundw
     case rel => exact ⟨k + 1, by omega, by go_num, by rw [HF.out, ← ba_append_assoc, ← ba_append_assoc], below_trans_self (hB.alloc hB.size _) (below_drewN _ nq)⟩
     case measure => simp [intOf]; omega
   ·have HE := Lib.hid (show m = fmtVal g by rw [HV.out, HM.out, List.take_of_length_le (by omega)])
    go_wp2_with fail
    go_ret
    exact ⟨ret_string HE.out, hB⟩
 ·have hv' : validB g = false := by simpa using hv
  have HV := Lib.hid (fmtVal_no hv')
  rw [hv'] at hc
  have HC := Lib.hid hc
  clear hv hv' hc
  go_enter Tryz.func172, Tryz.ntmps172
  go_wp2_with fail
  refine HC.out.mono ?_
  rintro e w1 ⟨rfl, b1⟩
  go_wp2_with fail
  go_ret
  exact ⟨ret_string HV.out.symm, b1⟩
end Go.Proofs.YtlkfakdghjaoaaaGreatDoor
namespace Go.Proofs.YtlkfakdghjaoaaaGreatDoor
open Go.RowKit Go.Sort
set_option maxRecDepth 100000 in
theorem implNext_any (A : Option Addr) (cap : Nat) (g : List Bl) (s : ByteArray) (w : World) (hg : Gr w A g) (hn : g.length + tot g ≤ 1048576) :
  Calls Tryz.prog 39 #[.slice A g.length cap, .string s] w fun e w' => e = .returned (.tuple #[.string (nextVal g s), .bool (nextHas g s)]) ∧ Below w.heap.size w w' := by
 by_cases hv : validB g = true
 ·have HC := Lib.hid (nodesOf_yes A cap g w hg hn hv)
  have h26 := (valid_iff.1 hv).2.1
  cases hp : posOf g s with
  | none =>
   have H1 := Lib.hid (nextVal_none (g := g) hp)
   have H2 := Lib.hid (nextHas_none (g := g) hp)
   have HP := Lib.hid hp
   clear hp hv
   go_enter Tryz.func39, Tryz.ntmps39
   go_wp2_with fail
   refine HC.out.mono ?_
   rintro e w1 ⟨NB, hle, rfl, hN, b1⟩
   have hx := named_any NB g _ g.length s w1 hN h26
   rw [HP.out] at hx
   have HX : Hid (Calls Tryz.prog 72 #[.slice (some ⟨NB, 0, none⟩) g.length g.length, .string s] w1 fun e w' => e = .returned (.pointer none) ∧ w1 = w') := hx
   clear hx hN
   go_wp2_with fail
   refine HX.out.mono ?_
   rintro e w2 ⟨rfl, rfl⟩
   go_wp2_with fail
   go_ret2
   exact ⟨ret_sb H1.out.symm H2.out.symm, b1⟩
  | some i =>
   obtain ⟨hi, _⟩ := posOf_is hp
   have H1 := Lib.hid (nextVal_some hv hp hi)
   have H2 := Lib.hid (nextHas_some hv hp)
   have HP := Lib.hid hp
   have HT := Lib.hid hv
   clear hp hv
   go_enter Tryz.func39, Tryz.ntmps39
   go_wp2_with fail
   refine HC.out.mono ?_
   rintro e w1 ⟨NB, hle, rfl, hN, b1⟩
   have hx := named_any NB g _ g.length s w1 hN h26
   rw [HP.out] at hx
   have HX : Hid (Calls Tryz.prog 72 #[.slice (some ⟨NB, 0, none⟩) g.length g.length, .string s] w1 fun e w' => e = .returned (.pointer (some ⟨nb NB i, 0, none⟩)) ∧ w1 = w') := hx
   have x2 := (hN.node i hi).cell 2
   obtain ⟨T, v, F, hd⟩ := disp (NB := NB) HT.out hi
   have hE : ends NB g i = .iface T v := by unfold ends; rw [nthNext_at hi]; exact hd.val
   rw [hE] at x2
   have hlook := hd.look
   have hent := hd.enter
   have HD := Lib.hid hd.goes
   have hs2 := (nextB_iff.1 (nextsB_iff.1 (valid_iff.1 HT.out).2.2.2 i hi)).1
   have HS2 := Lib.hid hs2
   have HNN := Lib.hid hN
   clear hE hd hN hs2 hx
   go_wp2_with fail
   refine HX.out.mono ?_
   rintro e w2 ⟨rfl, rfl⟩
   go_wp2_with fail
   refine (HD.out _ _ HNN.out).mono ?_
   rintro e w3 ⟨A3, rfl, hp3, b3⟩
   have hj := join_any A3 g[i].2.size (goList NB g g[i].2) w3 hp3 (by rw [goList_length NB g HS2.out]; have := HS2.out; omega) (by rw [joined_goes NB g HS2.out]; have := HS2.out; omega)
   rw [joined_goes NB g HS2.out, goList_length NB g HS2.out] at hj
   have HJ := Lib.hid hj
   clear hlook hent hj hp3
   go_wp2_with fail
   refine HJ.out.mono ?_
   rintro e w4 ⟨rfl, b4⟩
   go_wp2_with fail
   go_ret2
   exact ⟨ret_sb H1.out.symm H2.out.symm, below_trans_self (below_trans_self b1 b3) b4⟩
 ·have hv' : validB g = false := by simpa using hv
  have HC := Lib.hid (nodesOf_no A cap g w hg hn hv')
  have H1 := Lib.hid (nextVal_no (s := s) hv')
  have H2 := Lib.hid (nextHas_no (s := s) hv')
  clear hv hv'
  go_enter Tryz.func39, Tryz.ntmps39
  go_wp2_with fail
  refine HC.out.mono ?_
  rintro e w1 ⟨rfl, b1⟩
  go_wp2_with fail
  refine (named_nil s w1 none 0).mono ?_
  rintro e w2 ⟨rfl, rfl⟩
  go_wp2_with fail
  go_ret2
  exact ⟨ret_sb H1.out.symm H2.out.symm, b1⟩
end Go.Proofs.YtlkfakdghjaoaaaGreatDoor

namespace Go.Proofs.YtlkfakdghjaoaaaGreatDoor
open Go.RowKit Go.Sort
theorem info_node : (Tryz.prog.info? 101).map (·.size) = some 3 := by kernel_rfl
theorem own_below {w w' : World} {base : Nat} {e : TypeId} {v : Value} {n : Nat} {xs : List Value} (h : w.ownsRow base e 1 v n xs) (hb : Below w.heap.size w w') : w'.ownsRow base e 1 v n xs := by
 refine ⟨h.1, ?_⟩
 rcases h.2 with hn | ⟨g, cap, cur, hv, hb2, hg, rest⟩
 ·exact .inl hn
 ·refine .inr ⟨g, cap, cur, hv, hb2, ?_, rest⟩
  have hlt : g < w.heap.size := by
   rcases Nat.lt_or_ge g w.heap.size with h' | h'
   ·exact h'
   ·rw [Array.getElem?_eq_none h'] at hg; cases hg
  exact (hb.block g hlt).trans hg
end Go.Proofs.YtlkfakdghjaoaaaGreatDoor

namespace Go.Proofs.YtlkfakdghjaoaaaGreatDoor
open Go.RowKit Go.Sort
def nxt (g : List Bl) (i : Nat) : List Nat := (nthNext g i).data.toList.map fun c => (posOf g ⟨#[c]⟩).getD 0
inductive Goes (g : List Bl) (i : Nat) (s : ByteArray) : Prop where
 | stop (h : nxt g i = []) (hs : s.size = 0) : Goes g i s
 | jump (p : Nat) (hp : p < g.length) (h : nxt g i = [p]) (hs : s.size = 1) (ho : posOf g s = some p) (hn : g[p].1 = s) : Goes g i s
 | branch (p q : Nat) (hp : p < g.length) (hq : q < g.length) (h : nxt g i = [p, q]) (hs : s.size = 2)
   (ho : posOf g (s.extract 0 1) = some p) (hn : g[p].1 = s.extract 0 1) (ho' : posOf g (s.extract 1 s.size) = some q) (hn' : g[q].1 = s.extract 1 s.size) (hne : p ≠ q) : Goes g i s
theorem list_of_size {s : ByteArray} : s.data.toList.length = s.size := by rw [Array.length_toList]; rfl
theorem goes {g : List Bl} (hv : validB g = true) {i : Nat} (hi : i < g.length) : Goes g i g[i].2 := by
 have h2 := nextB_iff.1 (nextsB_iff.1 (valid_iff.1 hv).2.2.2 i hi)
 have hl := list_of_size (s := g[i].2)
 have en : nxt g i = g[i].2.data.toList.map fun c => (posOf g ⟨#[c]⟩).getD 0 := by unfold nxt; rw [nthNext_at hi]
 by_cases e1 : g[i].2.size = 1
 ·obtain ⟨p, hp, hpos, hs⟩ := posOf_valid hv hi (j := 0) (by omega)
  have hb := one_byte e1
  refine .jump p hp ?_ e1 (by rw [hb]; exact hpos) (by rw [hb]; exact hs)
  rw [en]
  obtain ⟨c, hc⟩ := List.length_eq_one_iff.1 (hl.trans e1)
  have h0 := byte_at g[i].2 0 (by omega)
  rw [hc] at h0 ⊢
  have h0' : c = g[i].2[0]'(by omega) := by simpa using h0
  simp only [List.map_cons, List.map_nil]
  rw [h0', hpos]; rfl
 ·by_cases e2 : g[i].2.size = 2
  ·obtain ⟨p, hp, hpos, hs⟩ := posOf_valid hv hi (j := 0) (by omega)
   obtain ⟨q, hq, hpos', hs'⟩ := posOf_valid hv hi (j := 1) (by omega)
   have x0 := ex_byte g[i].2 (a := 0) (b := 1) (by omega) (by omega) rfl
   have x1 := ex_byte g[i].2 (a := 1) (b := g[i].2.size) (by omega) (by omega) (by omega)
   refine .branch p q hp hq ?_ e2 (by rw [x0]; exact hpos) (by rw [x0]; exact hs) (by rw [x1]; exact hpos') (by rw [x1]; exact hs') ?_
   ·rw [en]
    have hl2 := hl.trans e2
    have h0 := byte_at g[i].2 0 (by omega)
    have h1 := byte_at g[i].2 1 (by omega)
    match hm : g[i].2.data.toList, hl2 with
    | [a, b], _ =>
     rw [hm] at h0 h1
     have h0' : a = g[i].2[0]'(by omega) := by simpa using h0
     have h1' : b = g[i].2[1]'(by omega) := by simpa using h1
     simp only [List.map_cons, List.map_nil]
     rw [h0', hpos, h1', hpos']; rfl
   ·intro e
    subst e
    rw [hs] at hs'
    exact h2.2.2 e2 (by simpa using hs')
  ·have e0 : g[i].2.size = 0 := by have := h2.1; omega
   refine .stop ?_ e0
   rw [en, List.eq_nil_of_length_eq_zero (hl.trans e0)]; rfl
theorem nxt_lt {g : List Bl} (hv : validB g = true) {i : Nat} (hi : i < g.length) {t : Nat} (ht : t ∈ nxt g i) : t < g.length := by
 rcases goes hv hi with ⟨h, _⟩ | ⟨p, hp, h, _⟩ | ⟨p, q, hp, hq, h, _⟩
 ·rw [h] at ht; simp at ht
 ·rw [h] at ht; simp at ht; omega
 ·rw [h] at ht; simp at ht; omega
theorem ends_of {NB : Nat} {g : List Bl} {i : Nat} (hi : i < g.length) (h : Goes g i g[i].2) :
  (nxt g i = [] ∧ ends NB g i = .iface 230 (.agg #[])) ∨
  (∃ p, p < g.length ∧ nxt g i = [p] ∧ ends NB g i = .iface 191 (.agg #[nptr NB p])) ∨
  (∃ p q, p < g.length ∧ q < g.length ∧ nxt g i = [p, q] ∧ ends NB g i = .iface 193 (.agg #[nptr NB p, nptr NB q])) := by
 unfold ends endV
 rw [nthNext_at hi]
 rcases h with ⟨h, hs⟩ | ⟨p, hp, h, hs, ho, _⟩ | ⟨p, q, hp, hq, h, hs, ho, _, ho', _, _⟩
 ·refine .inl ⟨h, ?_⟩
  rw [if_neg (by omega), if_neg (by omega)]
 ·refine .inr (.inl ⟨p, hp, h, ?_⟩)
  rw [if_pos hs, ho]; rfl
 ·refine .inr (.inr ⟨p, q, hp, hq, h, ?_⟩)
  rw [if_neg (by omega), if_pos hs, ho, ho']; rfl
def runL (g : List Bl) : Nat → Nat → List UInt8 → List (Nat × Nat)
 | 0, _, _ => []
 | m + 1, i, left =>
  match nxt g i with
  | [] => [(i, 0)]
  | [j] => (i, 2) :: runL g m j left
  | j :: k :: _ =>
   match left with
   | [] => [(i, 1)]
   | c :: l => (i, 2) :: runL g m (if c = 108 then j else k) l
theorem runL_stop {g : List Bl} {m i : Nat} {left : List UInt8} (h : nxt g i = []) : runL g (m + 1) i left = [(i, 0)] := by simp only [runL, h]
theorem runL_jump {g : List Bl} {m i j : Nat} {left : List UInt8} (h : nxt g i = [j]) : runL g (m + 1) i left = (i, 2) :: runL g m j left := by simp only [runL, h]
theorem runL_ask {g : List Bl} {m i j k : Nat} (h : nxt g i = [j, k]) : runL g (m + 1) i [] = [(i, 1)] := by simp only [runL, h]
theorem runL_go {g : List Bl} {m i j k : Nat} {c : UInt8} {l : List UInt8} (h : nxt g i = [j, k]) : runL g (m + 1) i (c :: l) = (i, 2) :: runL g m (if c = 108 then j else k) l := by simp only [runL, h]
def runOf (g : List Bl) (choices : ByteArray) : List (Nat × Nat) := runL g 60 0 choices.data.toList
def namesAt (g : List Bl) : List Nat → ByteArray
 | [] => ⟨#[]⟩
 | i :: l => nthName g i ++ namesAt g l
theorem namesAt_append (g : List Bl) (a b : List Nat) : namesAt g (a ++ b) = namesAt g a ++ namesAt g b := by
 induction a with
 | nil => exact (ba_empty_append _).symm
 | cons n a ih => simp only [List.cons_append, namesAt, ih, ba_append_assoc]
theorem namesAt_one (g : List Bl) (i : Nat) : namesAt g [i] = nthName g i := ba_append_empty _
theorem namesAt_size {g : List Bl} (hv : validB g = true) : ∀ (l : List Nat), (∀ i ∈ l, i < g.length) → (namesAt g l).size = l.length
 | [], _ => rfl
 | i :: l, h => by
  have hi := h i (by simp)
  obtain ⟨c, hc, _⟩ := valid_one hv (List.getElem_mem hi)
  have ih := namesAt_size hv l (fun j hj => h j (by simp [hj]))
  rw [namesAt, ByteArray.size_append, ih, nthName_at hi, hc]
  show 1 + l.length = l.length + 1
  omega
structure Going (g : List Bl) (choices : ByteArray) (pre : List (Nat × Nat)) (i : Nat) (left : List UInt8) : Prop where
 all : runOf g choices = pre ++ runL g (60 - pre.length) i left
 two : ∀ x ∈ pre, x.2 = 2
 lt : i < g.length
 rest : left <:+ choices.data.toList
theorem Going.start {g : List Bl} (hv : validB g = true) (choices : ByteArray) : Going g choices [] 0 choices.data.toList :=
 ⟨rfl, by simp, (valid_iff.1 hv).1, List.suffix_refl _⟩
theorem Going.stop {g : List Bl} {choices : ByteArray} {pre : List (Nat × Nat)} {i : Nat} {left : List UInt8} (h : Going g choices pre i left) (hl : pre.length < 60) (hn : nxt g i = []) :
  runOf g choices = pre ++ [(i, 0)] := by
 obtain ⟨m, hm⟩ : ∃ m, 60 - pre.length = m + 1 := ⟨59 - pre.length, by omega⟩
 rw [h.all, hm, runL_stop hn]
theorem Going.ask {g : List Bl} {choices : ByteArray} {pre : List (Nat × Nat)} {i j k : Nat} (h : Going g choices pre i []) (hl : pre.length < 60) (hn : nxt g i = [j, k]) :
  runOf g choices = pre ++ [(i, 1)] := by
 obtain ⟨m, hm⟩ : ∃ m, 60 - pre.length = m + 1 := ⟨59 - pre.length, by omega⟩
 rw [h.all, hm, runL_ask hn]
theorem Going.jump {g : List Bl} (hv : validB g = true) {choices : ByteArray} {pre : List (Nat × Nat)} {i j : Nat} {left : List UInt8} (h : Going g choices pre i left) (hl : pre.length < 60) (hn : nxt g i = [j]) :
  Going g choices (pre ++ [(i, 2)]) j left := by
 obtain ⟨m, hm⟩ : ∃ m, 60 - pre.length = m + 1 := ⟨59 - pre.length, by omega⟩
 refine ⟨?_, fun x hx => ?_, nxt_lt hv h.lt (by rw [hn]; simp), h.rest⟩
 ·rw [h.all, hm, runL_jump hn, show 60 - (pre ++ [((i : Nat), (2 : Nat))]).length = m by simp only [List.length_append, List.length_cons, List.length_nil]; omega]; simp
 ·rcases List.mem_append.1 hx with hx | hx
  ·exact h.two x hx
  ·simp at hx; subst hx; rfl
theorem Going.go {g : List Bl} (hv : validB g = true) {choices : ByteArray} {pre : List (Nat × Nat)} {i j k : Nat} {c : UInt8} {left : List UInt8} (h : Going g choices pre i (c :: left)) (hl : pre.length < 60) (hn : nxt g i = [j, k]) :
  Going g choices (pre ++ [(i, 2)]) (if c = 108 then j else k) left := by
 obtain ⟨m, hm⟩ : ∃ m, 60 - pre.length = m + 1 := ⟨59 - pre.length, by omega⟩
 refine ⟨?_, fun x hx => ?_, ?_, (List.suffix_cons c left).trans h.rest⟩
 ·rw [h.all, hm, runL_go hn, show 60 - (pre ++ [((i : Nat), (2 : Nat))]).length = m by simp only [List.length_append, List.length_cons, List.length_nil]; omega]; simp
 ·rcases List.mem_append.1 hx with hx | hx
  ·exact h.two x hx
  ·simp at hx; subst hx; rfl
 ·split
  ·exact nxt_lt hv h.lt (by rw [hn]; simp)
  ·exact nxt_lt hv h.lt (by rw [hn]; simp)
def stepL (o ts : List Nat) : List Nat := ts.foldl (fun o t => if t ∈ o then o else o ++ [t]) o
theorem stepL_nil (o : List Nat) : stepL o [] = o := rfl
theorem stepL_cons (o : List Nat) (t : Nat) (ts : List Nat) : stepL o (t :: ts) = stepL (if t ∈ o then o else o ++ [t]) ts := rfl
theorem stepL_snoc (o : List Nat) (t : Nat) (ts : List Nat) : stepL o (ts ++ [t]) = if t ∈ stepL o ts then stepL o ts else stepL o ts ++ [t] := by
 unfold stepL; rw [List.foldl_append]; rfl
theorem stepL_prefix (ts : List Nat) : ∀ o, o <+: stepL o ts := by
 induction ts with
 | nil => intro o; exact List.prefix_refl _
 | cons t ts ih =>
  intro o
  rw [stepL_cons]
  split
  ·exact ih o
  ·exact (List.prefix_append o [t]).trans (ih _)
theorem stepL_mem (ts : List Nat) : ∀ o x, x ∈ stepL o ts ↔ x ∈ o ∨ x ∈ ts := by
 induction ts with
 | nil => intro o x; simp [stepL_nil]
 | cons t ts ih =>
  intro o x
  rw [stepL_cons, ih]
  split
  ·rename_i h
   constructor
   ·rintro (h1 | h1)
    ·exact .inl h1
    ·exact .inr (by simp [h1])
   ·rintro (h1 | h1)
    ·exact .inl h1
    ·rcases List.mem_cons.1 h1 with rfl | h1
     ·exact .inl h
     ·exact .inr h1
  ·rw [List.mem_append, List.mem_singleton, List.mem_cons, or_assoc]
theorem stepL_nodup (ts : List Nat) : ∀ o, o.Nodup → (stepL o ts).Nodup := by
 induction ts with
 | nil => intro o h; exact h
 | cons t ts ih =>
  intro o h
  rw [stepL_cons]
  split
  ·exact ih o h
  ·rename_i hn
   refine ih _ (List.nodup_append.2 ⟨h, by simp, fun a ha b hb => ?_⟩)
   simp at hb; subst hb
   intro e; subst e; exact hn ha
def bfs (g : List Bl) : Nat → List Nat
 | 0 => [0]
 | k + 1 => match (bfs g k)[k]? with
  | none => bfs g k
  | some n => stepL (bfs g k) (nxt g n)
theorem bfs_step {g : List Bl} {k : Nat} (h : k < (bfs g k).length) : bfs g (k + 1) = stepL (bfs g k) (nxt g (bfs g k)[k]) := by
 simp only [bfs, List.getElem?_eq_getElem h]
theorem bfs_stay {g : List Bl} {k : Nat} (h : (bfs g k).length ≤ k) : bfs g (k + 1) = bfs g k := by
 simp only [bfs, List.getElem?_eq_none h]
theorem bfs_nodup (g : List Bl) : ∀ k, (bfs g k).Nodup
 | 0 => by simp [bfs]
 | k + 1 => by
  by_cases h : k < (bfs g k).length
  ·rw [bfs_step h]; exact stepL_nodup _ _ (bfs_nodup g k)
  ·rw [bfs_stay (by omega)]; exact bfs_nodup g k
theorem bfs_lt {g : List Bl} (hv : validB g = true) : ∀ k, ∀ x ∈ bfs g k, x < g.length
 | 0, x, hx => by simp [bfs] at hx; subst hx; exact (valid_iff.1 hv).1
 | k + 1, x, hx => by
  have ih := bfs_lt hv k
  by_cases h : k < (bfs g k).length
  ·rw [bfs_step h, stepL_mem] at hx
   rcases hx with hx | hx
   ·exact ih x hx
   ·exact nxt_lt hv (ih _ (List.getElem_mem h)) hx
  ·rw [bfs_stay (by omega)] at hx; exact ih x hx
theorem nodup_lt_len : ∀ (n : Nat) (l : List Nat), l.Nodup → (∀ x ∈ l, x < n) → l.length ≤ n := by
 intro n l hn hl
 have := List.Nodup.length_le_of_subset (l₁ := l) (l₂ := List.range n) hn (fun x hx => List.mem_range.2 (hl x hx))
 simpa using this
theorem bfs_len {g : List Bl} (hv : validB g = true) (k : Nat) : (bfs g k).length ≤ g.length := nodup_lt_len _ _ (bfs_nodup g k) (bfs_lt hv k)
theorem bfs_prefix (g : List Bl) (k : Nat) : bfs g k <+: bfs g (k + 1) := by
 by_cases h : k < (bfs g k).length
 ·rw [bfs_step h]; exact stepL_prefix _ _
 ·rw [bfs_stay (by omega)]; exact List.prefix_refl _
theorem bfs_more {g : List Bl} {k : Nat} (h : (bfs g k).length ≤ k) : ∀ m, bfs g (k + m) = bfs g k
 | 0 => rfl
 | m + 1 => by
  have ih := bfs_more h m
  rw [← Nat.add_assoc, bfs_stay (by rw [ih]; omega), ih]
theorem bfs_prefixes (g : List Bl) (k : Nat) : ∀ m, bfs g k <+: bfs g (k + m)
 | 0 => List.prefix_refl _
 | m + 1 => (bfs_prefixes g k m).trans (bfs_prefix g (k + m))
def reach (g : List Bl) : List Nat := bfs g g.length
theorem reach_done {g : List Bl} {k : Nat} (hk : k ≤ g.length) (h : (bfs g k).length ≤ k) : bfs g k = reach g := by
 have := bfs_more h (g.length - k)
 unfold reach
 rw [← this]; congr 1; omega
theorem bfs_reach {g : List Bl} {k : Nat} (hk : k ≤ g.length) : bfs g k <+: reach g := by
 have := bfs_prefixes g k (g.length - k)
 unfold reach
 rwa [show k + (g.length - k) = g.length by omega] at this
theorem reach_lt {g : List Bl} (hv : validB g = true) {x : Nat} (hx : x ∈ reach g) : x < g.length := bfs_lt hv _ x hx
theorem reach_nodup (g : List Bl) : (reach g).Nodup := bfs_nodup g _
theorem reach_len {g : List Bl} (hv : validB g = true) : (reach g).length ≤ g.length := bfs_len hv _
def reachS (g : List Bl) : List Nat := (List.range g.length).filter fun i => decide (i ∈ reach g)
end Go.Proofs.YtlkfakdghjaoaaaGreatDoor
namespace Go.Proofs.YtlkfakdghjaoaaaGreatDoor
open Go.RowKit Go.Sort
theorem name_inj {g : List Bl} (hv : validB g = true) {i j : Nat} (hi : i < g.length) (hj : j < g.length) (h : g[i].1 = g[j].1) : i = j := by
 have key : ∀ i j (hi : i < g.length) (hj : j < g.length), i < j → g[i].1 ≠ g[j].1 := by
  intro i j hi hj hlt e
  obtain ⟨c, hc, hl⟩ := valid_one hv (List.getElem_mem hj)
  have hn := newsB_iff.1 (valid_iff.1 hv).2.2.1 j hj
  rw [hc, newB_one hl] at hn
  have hm : c ∈ (names (g.take j)).data.toList := mem_names.2 ⟨g[i], by
   rw [List.mem_take_iff_getElem]; exact ⟨i, by omega, rfl⟩, by rw [e, hc]; simp⟩
  rw [List.contains_iff_mem.2 hm] at hn
  cases hn
 rcases Nat.lt_trichotomy i j with hlt | e | hlt
 ·exact absurd h (key i j hi hj hlt)
 ·exact e
 ·exact absurd h.symm (key j i hj hi hlt)
theorem posOf_name {g : List Bl} (hv : validB g = true) {i : Nat} (hi : i < g.length) : posOf g g[i].1 = some i :=
 posOf_some hi rfl fun j hj hlt e => by have := name_inj hv hj hi e; omega
theorem nxt_length {g : List Bl} {i : Nat} (hi : i < g.length) : (nxt g i).length = g[i].2.size := by
 unfold nxt; rw [List.length_map, nthNext_at hi, size_of_list]
where
 size_of_list {s : ByteArray} : s.data.toList.length = s.size := by rw [Array.length_toList]; rfl
theorem nxt_get {g : List Bl} (hv : validB g = true) {i : Nat} (hi : i < g.length) {k : Nat} (hk : k < g[i].2.size) :
  ∃ t, ∃ ht : t < g.length, (nxt g i)[k]? = some t ∧ posOf g ⟨#[g[i].2[k]'hk]⟩ = some t ∧ g[t].1 = ⟨#[g[i].2[k]'hk]⟩ := by
 obtain ⟨t, ht, hpos, hn⟩ := posOf_valid hv hi hk
 refine ⟨t, ht, ?_, hpos, hn⟩
 unfold nxt
 rw [List.getElem?_map, nthNext_at hi, byte_at _ k hk]
 simp only [Option.map_some, hpos, Option.getD_some]
theorem nxt_mem {g : List Bl} (hv : validB g = true) {i t : Nat} (hi : i < g.length) (ht : t < g.length) {c : UInt8} (hc : g[t].1 = ⟨#[c]⟩) : t ∈ nxt g i ↔ c ∈ g[i].2.data.toList := by
 constructor
 ·intro h
  obtain ⟨k, hk, e⟩ := List.getElem_of_mem h
  rw [nxt_length hi] at hk
  obtain ⟨t', ht', hg', _, hn'⟩ := nxt_get hv hi hk
  rw [List.getElem?_eq_getElem (by rw [nxt_length hi]; exact hk), e] at hg'
  obtain rfl := Option.some.inj hg'
  rw [hc] at hn'
  have : c = g[i].2[k]'hk := by injection hn' with h; simpa using h
  rw [this]; exact List.mem_of_getElem? (byte_at _ k hk)
 ·intro h
  obtain ⟨k, hk, e⟩ := List.getElem_of_mem h
  have hk' : k < g[i].2.size := by simpa using hk
  obtain ⟨t', ht', hg', _, hn'⟩ := nxt_get hv hi hk'
  have hb : g[i].2[k]'hk' = c := by
   have h1 := byte_at g[i].2 k hk'
   rw [List.getElem?_eq_getElem hk, e] at h1
   exact (Option.some.inj h1).symm
  rw [hb, ← hc] at hn'
  obtain rfl := name_inj hv ht' ht hn'
  exact List.mem_of_getElem? hg'
theorem mem_namesAt {g : List Bl} {c : UInt8} : ∀ {l : List Nat}, c ∈ (namesAt g l).data.toList ↔ ∃ i ∈ l, c ∈ (nthName g i).data.toList
 | [] => by simp [namesAt]
 | i :: l => by rw [namesAt, ba_append_toList, List.mem_append, mem_namesAt]; simp
theorem idx_namesAt {g : List Bl} (hv : validB g = true) {l : List Nat} (hl : ∀ i ∈ l, i < g.length) {t : Nat} (ht : t < g.length) {c : UInt8} (hc : g[t].1 = ⟨#[c]⟩) :
  0 ≤ Lib.indexByte (namesAt g l).data.toList c ↔ t ∈ l := by
 rw [idx_mem, mem_namesAt]
 constructor
 ·rintro ⟨i, hi, hm⟩
  have hi' := hl i hi
  obtain ⟨d, hd, _⟩ := valid_one hv (List.getElem_mem hi')
  rw [nthName_at hi', hd] at hm
  have hcd : c = d := by simpa using hm
  subst hcd
  rw [← hc] at hd
  rw [← name_inj hv hi' ht hd]; exact hi
 ·intro h
  exact ⟨t, h, by rw [nthName_at ht, hc]; simp⟩
theorem namesAt_get {g : List Bl} (hv : validB g = true) : ∀ {l : List Nat}, (∀ i ∈ l, i < g.length) → ∀ {k : Nat} (hk : k < l.length), ∃ h : l[k] < g.length, (namesAt g l).data.toList[k]? = g[l[k]].1.data.toList[0]?
 | [], _, k, hk => by simp at hk
 | i :: l, hl, k, hk => by
  have hi := hl i (by simp)
  obtain ⟨c, hc, _⟩ := valid_one hv (List.getElem_mem hi)
  cases k with
  | zero =>
   refine ⟨hi, ?_⟩
   rw [namesAt, ba_append_toList, nthName_at hi]
   simp [hc]
  | succ k =>
   obtain ⟨h, e⟩ := namesAt_get hv (l := l) (fun j hj => hl j (by simp [hj])) (k := k) (by simpa using hk)
   refine ⟨h, ?_⟩
   rw [namesAt, ba_append_toList, nthName_at hi, hc]
   simpa using e
theorem namesAt_byte {g : List Bl} (hv : validB g = true) {l : List Nat} (hl : ∀ i ∈ l, i < g.length) {k : Nat} (hk : k < l.length) :
  ∃ h : l[k] < g.length, ∃ hk' : k < (namesAt g l).size, g[l[k]].1 = ⟨#[(namesAt g l)[k]'hk']⟩ := by
 obtain ⟨h, e⟩ := namesAt_get hv hl hk
 have hk' : k < (namesAt g l).size := by rw [namesAt_size hv l hl]; exact hk
 refine ⟨h, hk', ?_⟩
 obtain ⟨c, hc, _⟩ := valid_one hv (List.getElem_mem h)
 rw [byte_at _ k hk', hc] at e
 have : (namesAt g l)[k]'hk' = c := by simpa using e
 rw [this, hc]
theorem namesAt_cut {g : List Bl} (hv : validB g = true) {l : List Nat} (hl : ∀ i ∈ l, i < g.length) {k : Nat} (hk : k < l.length) :
  ∃ h : l[k] < g.length, (namesAt g l).extract k (k + 1) = g[l[k]].1 := by
 obtain ⟨h, hk', e⟩ := namesAt_byte hv hl hk
 exact ⟨h, by rw [ex_byte _ (a := k) (b := k + 1) (by omega) (by omega) (by omega), e]⟩
end Go.Proofs.YtlkfakdghjaoaaaGreatDoor

namespace Go.Proofs.YtlkfakdghjaoaaaGreatDoor
open Go.RowKit Go.Sort
theorem evB_one (l : List It) (k : Nat) : evB [l] k = evL l k := by rw [evB, evB, List.append_nil]
theorem evI_bod (i : It) (k : Nat) : evI i k = (k, i) :: evB (bodI i) (if frI i then k + 1 else k) := by
 cases i with
 | ask c l r => rw [evI]; show _ = _ :: evB [l, r] k; rw [evB, evB, evB, List.append_nil]
 | frame b l => rw [evI]; show _ = _ :: evB [l] (k + 1); rw [evB_one]
 | pick bs => rw [evI]; rfl
 | _ => rw [evI]; show _ = _ :: evB [] k; rw [evB]
theorem evL_append : ∀ (a b : List It) (k : Nat), evL (a ++ b) k = evL a k ++ evL b k
 | [], b, k => by rw [evL]; rfl
 | i :: a, b, k => by rw [List.cons_append, evL, evL, evL_append a b k, List.append_assoc]
theorem evB_append : ∀ (a b : List (List It)) (k : Nat), evB (a ++ b) k = evB a k ++ evB b k
 | [], b, k => by rw [evB]; rfl
 | i :: a, b, k => by rw [List.cons_append, evB, evB, evB_append a b k, List.append_assoc]
theorem okI_bod {i : It} {k : Nat} (h : OkI i k) : ∀ b ∈ bodI i, OkL b (if frI i then k + 1 else k) := by
 cases i with
 | ask c l r =>
  rw [OkI] at h
  intro b hb
  show OkL b k
  simp [bodI] at hb
  rcases hb with rfl | rfl
  ·exact h.2.1
  ·exact h.2.2
 | frame g l =>
  rw [OkI] at h
  intro b hb
  show OkL b (k + 1)
  simp [bodI] at hb
  rw [hb]; exact h.2
 | pick bs =>
  rw [OkI] at h
  have : ∀ (bs : List (List It)), OkB bs k → ∀ b ∈ bs, OkL b k := by
   intro bs
   induction bs with
   | nil => intro _ b hb; cases hb
   | cons a bs ih =>
    intro ho b hb
    rw [OkB] at ho
    rcases List.mem_cons.1 hb with rfl | hb
    ·exact ho.1
    ·exact ih ho.2 b hb
  exact this bs h.2.2
 | _ => intro b hb; cases hb
theorem okL_get {l : List It} {k : Nat} (h : OkL l k) : ∀ i ∈ l, OkI i k := by
 induction l with
 | nil => intro i hi; cases hi
 | cons a l ih =>
  intro i hi
  rw [OkL] at h
  rcases List.mem_cons.1 hi with rfl | hi
  ·exact h.1
  ·exact ih h.2 i hi
theorem okI_frame {i : It} {k : Nat} (h : OkI i k) (hf : frI i = true) : k < 9 := by
 cases i with
 | frame b l => rw [OkI] at h; exact h.1
 | _ => cases hf
theorem txI_pos (i : It) : 0 < (txI i).length := by obtain ⟨t, e⟩ := txI_hd i; rw [e]; simp
theorem txL_length : ∀ (l : List It), l.length ≤ (txL l).length
 | [] => by simp
 | i :: l => by rw [txL, List.length_append, List.length_cons]; have := txL_length l; have := txI_pos i; omega
theorem txL_mem : ∀ {l : List It} {i : It}, i ∈ l → (txI i).length ≤ (txL l).length
 | a :: l, i, h => by
  rw [txL, List.length_append]
  rcases List.mem_cons.1 h with rfl | h
  ·omega
  ·have := txL_mem h; omega
theorem txB_mem : ∀ {bs : List (List It)} {b : List It}, b ∈ bs → (txL b).length < (txB bs).length
 | a :: bs, b, h => by
  rw [txB]
  simp only [List.length_cons, List.length_append]
  rcases List.mem_cons.1 h with rfl | h
  ·omega
  ·have := txB_mem h; omega
theorem txB_length : ∀ (bs : List (List It)), bs.length ≤ (txB bs).length
 | [] => by simp
 | b :: bs => by rw [txB]; simp only [List.length_cons, List.length_append]; have := txB_length bs; omega
theorem bod_shorter {i : It} {b : List It} (h : b ∈ bodI i) : (txL b).length < (txI i).length := by
 cases i with
 | ask c l r =>
  rw [txI]
  simp [bodI] at h
  simp only [List.length_cons, List.length_append]
  rcases h with rfl | rfl <;> omega
 | frame g l => rw [txI]; simp [bodI] at h; subst h; simp; omega
 | pick bs => rw [txI]; have := txB_mem (show b ∈ bs from h); simp only [List.length_cons]; omega
 | _ => cases h
theorem bod_length (i : It) : (bodI i).length ≤ (txI i).length := by
 cases i with
 | ask c l r => rw [txI]; simp [bodI]
 | frame g l => rw [txI]; simp [bodI]
 | pick bs => rw [txI]; have := txB_length bs; show bs.length ≤ _; simp only [List.length_cons]; omega
 | _ => simp [bodI]
theorem AllAt.at_ {w : World} {P : Nat → Prop} : ∀ {l : List It} {vs : List Value} (_ : AllAt w P l vs) (k : Nat) (hk : k < l.length), ∃ v, vs[k]? = some v ∧ ItemAt w P l[k] v
 | i :: l, vs, h, 0, _ => by
  rw [AllAt] at h
  obtain ⟨v, t, rfl, h1, _⟩ := h
  exact ⟨v, rfl, h1⟩
 | i :: l, vs, h, k + 1, hk => by
  rw [AllAt] at h
  obtain ⟨v, t, rfl, _, h2⟩ := h
  obtain ⟨u, h3, h4⟩ := AllAt.at_ h2 k (by simpa using hk)
  exact ⟨u, by simpa using h3, h4⟩
theorem AllRows.at_ {w : World} {P : Nat → Prop} : ∀ {l : List (List It)} {vs : List Value} (_ : AllRows w P l vs) (k : Nat) (hk : k < l.length), ∃ v, vs[k]? = some v ∧ RowAt w P l[k] v
 | b :: l, vs, h, 0, _ => by
  rw [AllRows] at h
  obtain ⟨v, t, xs, rfl, h1, h2, _⟩ := h
  exact ⟨v, rfl, xs, h1, h2⟩
 | b :: l, vs, h, k + 1, hk => by
  rw [AllRows] at h
  obtain ⟨v, t, xs, rfl, _, _, h3⟩ := h
  obtain ⟨u, h4, h5⟩ := AllRows.at_ h3 k (by simpa using hk)
  exact ⟨u, by simpa using h4, h5⟩
def Same (P : Nat → Prop) (w W : World) : Prop := w.heap.size ≤ W.heap.size ∧ ∀ b, b < w.heap.size → P b → W.heap[b]? = w.heap[b]?
def WithinPost (w : World) (P : Nat → Prop) (i : It) (W : World) (e : Ending) (w' : World) : Prop :=
 ∃ A k vs, e = .returned (.slice A vs.length k) ∧ Reads w' (fun b => P b ∨ W.heap.size ≤ b) (.slice A vs.length k) vs ∧ AllRows w P (bodI i) vs ∧ Below W.heap.size W w'
structure ItDisp (T : TypeId) (x : Value) (F : FuncId) (b0 : Bool) (bA : Option Addr) (bn bk : Nat) (i : It) (v : Value) : Prop where
 val : v = .iface T x
 look : ∀ w, (method 441 T x "loop.example/structuredjumps/impl.within").run Tryz.prog w = .ok (F, x) w
 enter : ∀ args w, (callFunc F args).run Tryz.prog w = .ok (.enter F args) w
 asrt : ∀ w, (Instr.typeAssert (.iface T x) 76 147 true).run Tryz.prog w = .ok (.tuple #[.agg #[.bool b0, .slice bA bn bk], .bool (frI i)]) w
 goes : ∀ w P W, ItemAt w P i v → Same P w W → Calls Tryz.prog F #[x] W (WithinPost w P i W)
theorem nil_within (w : World) (Q : Nat → Prop) : Reads w Q (.slice none ([] : List Value).length 0) [] := ⟨none, 0, rfl, fun h => absurd h (by simp)⟩
theorem same_stay {w W w' : World} {P : Nat → Prop} (h : Same P w W) (hb : Below W.heap.size W w') : Stay w P w' (fun b => P b ∨ W.heap.size ≤ b) :=
 ⟨Nat.le_trans h.1 hb.size, fun b hl hp => ⟨.inl hp, (hb.block b (by have := h.1; omega)).trans (h.2 b hl hp)⟩⟩
set_option maxRecDepth 100000 in
theorem disp_blk (c : UInt8) : ItDisp 152 (.agg #[.string (tb [c])]) 288 false none 0 0 (.blk c) (.iface 152 (.agg #[.string (tb [c])])) where
 val := rfl
 look := fun w => by kernel_rfl
 enter := enters_of Tryz.func288 (by kernel_rfl) rfl
 asrt := fun w => by kernel_rfl
 goes := fun w P W h hP => by
  go_enter Tryz.func288, Tryz.ntmps288
  go_wp2_with fail
  go_ret
  exact ⟨none, 0, [], rfl, nil_within _ _, AllRows.nil _ _, (Below.refl _ W).alloc (Nat.le_refl _) _⟩
set_option maxRecDepth 100000 in
theorem disp_stop : ItDisp 248 (.agg #[]) 296 false none 0 0 .stop (.iface 248 (.agg #[])) where
 val := rfl
 look := fun w => by kernel_rfl
 enter := enters_of Tryz.func296 (by kernel_rfl) rfl
 asrt := fun w => by kernel_rfl
 goes := fun w P W h hP => by
  go_enter Tryz.func296, Tryz.ntmps296
  go_wp2_with fail
  go_ret
  exact ⟨none, 0, [], rfl, nil_within _ _, AllRows.nil _ _, (Below.refl _ W).alloc (Nat.le_refl _) _⟩
set_option maxRecDepth 100000 in
theorem disp_leave (n : Nat) : ItDisp 218 (.agg #[.int .i64 n]) 292 false none 0 0 (.leave n) (.iface 218 (.agg #[.int .i64 n])) where
 val := rfl
 look := fun w => by kernel_rfl
 enter := enters_of Tryz.func292 (by kernel_rfl) rfl
 asrt := fun w => by kernel_rfl
 goes := fun w P W h hP => by
  go_enter Tryz.func292, Tryz.ntmps292
  go_wp2_with fail
  go_ret
  exact ⟨none, 0, [], rfl, nil_within _ _, AllRows.nil _ _, (Below.refl _ W).alloc (Nat.le_refl _) _⟩
set_option maxRecDepth 100000 in
theorem disp_set (n : Nat) : ItDisp 220 (.agg #[.int .i64 n]) 293 false none 0 0 (.set n) (.iface 220 (.agg #[.int .i64 n])) where
 val := rfl
 look := fun w => by kernel_rfl
 enter := enters_of Tryz.func293 (by kernel_rfl) rfl
 asrt := fun w => by kernel_rfl
 goes := fun w P W h hP => by
  go_enter Tryz.func293, Tryz.ntmps293
  go_wp2_with fail
  go_ret
  exact ⟨none, 0, [], rfl, nil_within _ _, AllRows.nil _ _, (Below.refl _ W).alloc (Nat.le_refl _) _⟩
set_option maxRecDepth 100000 in
theorem disp_pick (bs : List (List It)) (A : Option Addr) (n k : Nat) : ItDisp 222 (.agg #[.slice A n k]) 294 false none 0 0 (.pick bs) (.iface 222 (.agg #[.slice A n k])) where
 val := rfl
 look := fun w => by kernel_rfl
 enter := enters_of Tryz.func294 (by kernel_rfl) rfl
 asrt := fun w => by kernel_rfl
 goes := fun w P W h hP => by
  rw [ItemAt] at h
  obtain ⟨vb, xs, e, h1, h2⟩ := h
  have e2 : vb = .slice A n k := by
   injection e with _ e; injection e with e; injection e with e; injection e with e _; exact e.symm
  subst e2
  obtain ⟨A5, k5, e5, h5⟩ := id h1
  injection e5 with e5 e6 e7
  subst e6
  have HR := Lib.hid h1
  have HR2 : Hid (AllRows w P bs xs) := h2
  clear h1 h2 e e5 e7 h5
  go_enter Tryz.func294, Tryz.ntmps294
  go_wp2_with fail
  go_ret
  have hb := (Below.refl W.heap.size W).alloc (Nat.le_refl _) (.cells #[.slice A xs.length k] 222)
  exact ⟨_, _, xs, rfl, HR.out.stay (same_stay hP hb), HR2.out, hb⟩
set_option maxRecDepth 100000 in
theorem disp_frame (b : Bool) (l : List It) (A : Option Addr) (n k : Nat) : ItDisp 147 (.agg #[.bool b, .slice A n k]) 287 b A n k (.frame b l) (.iface 147 (.agg #[.bool b, .slice A n k])) where
 val := rfl
 look := fun w => by kernel_rfl
 enter := enters_of Tryz.func287 (by kernel_rfl) rfl
 asrt := fun w => by kernel_rfl
 goes := fun w P W h hP => by
  rw [ItemAt] at h
  obtain ⟨vl, xs, e, h1, h2⟩ := h
  have e2 : vl = .slice A n k := by
   injection e with _ e; injection e with e; injection e with e; injection e with _ e; injection e with e _; exact e.symm
  subst e2
  have HR : Hid (RowAt w P l (.slice A n k)) := ⟨xs, h1, h2⟩
  clear h1 h2 e
  go_enter Tryz.func287, Tryz.ntmps287
  go_wp2_with fail
  go_ret
  have hb := ((Below.refl W.heap.size W).alloc (Nat.le_refl _) (.cells #[.bool b, .slice A n k] 147)).alloc (by simp) (.cells #[.slice A n k] 69)
  refine ⟨_, _, [.slice A n k], rfl, ⟨_, _, rfl, fun _ => ⟨W.heap.size + 1, 0, rfl, by simp, .inr (by omega), fun j hj => ?_⟩⟩, AllRows.snoc (l := []) (vs := []) HR.out (AllRows.nil _ _), hb⟩
  have hj0 : j = 0 := by simpa using hj
  subst hj0
  have h9 := Blk.new (W.alloc (.cells #[.bool b, .slice A n k] 147)) 69 #[.slice A n k]
  rw [World.size_alloc] at h9
  exact h9.cell 0
set_option maxRecDepth 100000 in
theorem disp_ask (c : UInt8) (l r : List It) (A A' : Option Addr) (n k n' k' : Nat) : ItDisp 154 (.agg #[.string (tb [c]), .slice A n k, .slice A' n' k']) 289 false none 0 0 (.ask c l r) (.iface 154 (.agg #[.string (tb [c]), .slice A n k, .slice A' n' k'])) where
 val := rfl
 look := fun w => by kernel_rfl
 enter := enters_of Tryz.func289 (by kernel_rfl) rfl
 asrt := fun w => by kernel_rfl
 goes := fun w P W h hP => by
  rw [ItemAt] at h
  obtain ⟨vl, vr, xs, ys, e, h1, h2, h3, h4⟩ := h
  have e2 : vl = .slice A n k ∧ vr = .slice A' n' k' := by
   injection e with _ e; injection e with e; injection e with e; injection e with _ e; injection e with e1 e; injection e with e3 _; exact ⟨e1.symm, e3.symm⟩
  obtain ⟨rfl, rfl⟩ := e2
  have HR : Hid (RowAt w P l (.slice A n k)) := ⟨xs, h1, h2⟩
  have HR2 : Hid (RowAt w P r (.slice A' n' k')) := ⟨ys, h3, h4⟩
  clear h1 h2 h3 h4 e
  go_enter Tryz.func289, Tryz.ntmps289
  go_wp2_with fail
  go_ret
  have hb := ((Below.refl W.heap.size W).alloc (Nat.le_refl _) (.cells #[.string (tb [c]), .slice A n k, .slice A' n' k'] 154)).alloc (by simp) (.cells #[.slice A n k, .slice A' n' k'] 69)
  refine ⟨_, _, [.slice A n k, .slice A' n' k'], rfl, ⟨_, _, rfl, fun _ => ⟨W.heap.size + 1, 0, rfl, by simp, .inr (by omega), fun j hj => ?_⟩⟩, AllRows.snoc (l := [l]) (vs := [.slice A n k]) HR2.out (AllRows.snoc (l := []) (vs := []) HR.out (AllRows.nil _ _)), hb⟩
  have h9 := Blk.new (W.alloc (.cells #[.string (tb [c]), .slice A n k, .slice A' n' k'] 154)) 69 #[.slice A n k, .slice A' n' k']
  rw [World.size_alloc] at h9
  have hj0 : j = 0 ∨ j = 1 := by have : j < 2 := hj; omega
  rcases hj0 with rfl | rfl
  ·exact h9.cell 0
  ·exact h9.cell 1
theorem item_disp {w : World} {P : Nat → Prop} {i : It} {v : Value} (h : ItemAt w P i v) : ∃ T x F b0 bA bn bk, ItDisp T x F b0 bA bn bk i v := by
 cases i with
 | blk c => rw [ItemAt] at h; subst h; exact ⟨_, _, _, _, _, _, _, disp_blk c⟩
 | stop => rw [ItemAt] at h; subst h; exact ⟨_, _, _, _, _, _, _, disp_stop⟩
 | leave n => rw [ItemAt] at h; subst h; exact ⟨_, _, _, _, _, _, _, disp_leave n⟩
 | set n => rw [ItemAt] at h; subst h; exact ⟨_, _, _, _, _, _, _, disp_set n⟩
 | pick bs => rw [ItemAt] at h; obtain ⟨vb, xs, rfl, ⟨A, k, rfl, _⟩, _⟩ := h; exact ⟨_, _, _, _, _, _, _, disp_pick bs _ _ _⟩
 | frame b l => rw [ItemAt] at h; obtain ⟨vb, xs, rfl, ⟨A, k, rfl, _⟩, _⟩ := h; exact ⟨_, _, _, _, _, _, _, disp_frame b l _ _ _⟩
 | ask c l r => rw [ItemAt] at h; obtain ⟨vl, vr, xs, ys, rfl, ⟨A, k, rfl, _⟩, _, ⟨A', k', rfl, _⟩, _⟩ := h; exact ⟨_, _, _, _, _, _, _, disp_ask c l r _ _ _ _ _ _⟩
end Go.Proofs.YtlkfakdghjaoaaaGreatDoor
