import Derived.Test.YtlkfakdghjaoaaaGreatDoorJ3
import Derived.Deep.RegionHeld3
import Derived.Lib.Join
import Derived.OwnWalk
import Derived.LaidEqlPtr
import Derived.Test.YtlkfakdghjaoaaaGreatDoorJ2
import Derived.Deep.AppendLies
import Derived.Deep.RegionLaw
import Derived.IntWalk
import Derived.WalkKit
set_option maxHeartbeats 800000
namespace Go.Proofs.YtlkfakdghjaoaaaGreatDoor
open Go.RowKit Go.Sort
def mark (next : ByteArray) : ByteArray := if next.size = 1 then ⟨#[62]⟩ else if next.size = 2 then ⟨#[63]⟩ else ⟨#[46]⟩
theorem DQ (u : Value) (w : World) : (Instr.typeAssert (.iface 191 (.agg #[u])) 99 191 true).run Tryz.prog w = .ok (.tuple #[.agg #[u], .bool true]) w := by kernel_rfl
theorem rq (u v : Value) (w : World) : (Instr.typeAssert (.iface 193 (.agg #[u, v])) 99 191 true).run Tryz.prog w = .ok (.tuple #[.agg #[.pointer none], .bool false]) w := by kernel_rfl
theorem Ax (u v : Value) (w : World) : (Instr.typeAssert (.iface 193 (.agg #[u, v])) 99 193 true).run Tryz.prog w = .ok (.tuple #[.agg #[u, v], .bool true]) w := by kernel_rfl
theorem uJ (w : World) : (Instr.typeAssert (.iface 230 (.agg #[])) 99 191 true).run Tryz.prog w = .ok (.tuple #[.agg #[.pointer none], .bool false]) w := by kernel_rfl
theorem rr (w : World) : (Instr.typeAssert (.iface 230 (.agg #[])) 99 193 true).run Tryz.prog w = .ok (.tuple #[.agg #[.pointer none, .pointer none], .bool false]) w := by kernel_rfl
def fj (b : Bl) : ByteArray := b.1 ++ mark b.2 ++ b.2
theorem sr (next : ByteArray) : (mark next).size = 1 := by
 unfold mark; split
 ·rfl
 ·split <;> rfl
theorem Ay (b : Bl) : (fj b).size = b.1.size + 1 + b.2.size := by
 unfold fj; rw [ByteArray.size_append, ByteArray.size_append, sr]
def fT (g : List Bl) : ByteArray := ⟨(Lib.join (g.map fun b => (fj b).data.toList) [44]).toArray⟩
structure Parts (w : World) (PB : Nat) (g : List Bl) (k : Nat) : Prop where
 row : ∃ cs, Blk w PB 9 cs ∧ cs.size = g.length ∧ ∀ i (h : i < g.length), i < k → cs[i]? = some (.string (fj g[i]))
theorem Parts.below {w w' : World} {PB : Nat} {g : List Bl} {k : Nat} (h : Parts w PB g k) (hb : Below w.heap.size w w') : Parts w' PB g k := by
 obtain ⟨cs, hbk, hr⟩ := h.row
 exact ⟨cs, hbk.below hb hbk.lt, hr⟩
theorem Parts.step {w : World} {PB : Nat} {g : List Bl} {k : Nat} {s : ByteArray} (h : Parts w PB g k) (hk : k < g.length) (hs : fj g[k] = s) : Parts (w.setCell ⟨PB, k, none⟩ (.string s)) PB g (k + 1) := by
 obtain ⟨cs, hbk, hsz, hr⟩ := h.row
 refine ⟨_, hbk.set_ k _, by simpa using hsz, fun i hi hik => ?_⟩
 rw [Array.getElem?_setIfInBounds]
 by_cases e : k = i
 ·subst e; rw [if_pos rfl, if_pos (by omega), hs]
 ·rw [if_neg e]; exact hr i hi (by omega)
def fV (g : List Bl) : ByteArray := if aa g then fT g else ⟨#[]⟩
theorem yP {g : List Bl} (h : aa g = true) : fV g = fT g := by unfold fV; rw [if_pos h]
theorem Az {g : List Bl} (h : aa g = false) : fV g = ⟨#[]⟩ := by unfold fV; rw [h]; rfl
theorem yQ (g : List Bl) : Lib.lens (g.map fun b => (fj b).data.toList) = aM g + g.length := by
 induction g with
 | nil => rfl
 | cons b g ih =>
  have e : Lib.lens ((b :: g).map fun b => (fj b).data.toList) = (fj b).data.toList.length + Lib.lens (g.map fun b => (fj b).data.toList) := by simp [Lib.lens]
  have e2 : (fj b).data.toList.length = (fj b).size := by rw [Array.length_toList]; rfl
  rw [e, ih, e2, Ay]; simp [aM]; omega
theorem DR (l : List (List UInt8)) : (Lib.join l [44]).length ≤ Lib.lens l + l.length := by
 cases l with
 | nil => exact Nat.zero_le _
 | cons x r => rw [Lib.join_length]; simp; omega
theorem il (g : List Bl) : (fT g).data.toList = Lib.join (g.map fun b => (fj b).data.toList) [44] := by simp [fT]
theorem Cu (b : Bl) : fT [b] = fj b := by
 apply aV; rw [il]; exact Lib.join_one _ _
theorem AA {g : List Bl} (h : 0 < g.length) (b : Bl) : fT (g ++ [b]) = fT g ++ ⟨#[44]⟩ ++ fj b := by
 apply aV
 rw [dl, dl, il, il]
 cases g with
 | nil => simp at h
 | cons x r =>
  simp only [List.cons_append, List.map_cons, List.map_append, List.map_nil, Lib.join_cons]
  unfold Lib.joinTail
  simp
theorem Cv : fT [] = ⟨#[]⟩ := rfl
theorem uK (g : List Bl) : (fT g).size ≤ aM g + 2 * g.length := by
 have h := DR (g.map fun b => (fj b).data.toList)
 rw [yQ, List.length_map] at h
 have h2 : (fT g).size = (Lib.join (g.map fun b => (fj b).data.toList) [44]).length := by rw [← il, Array.length_toList]; rfl
 omega
theorem qp (t : ByteArray) (h : t.size ≤ 2) : (⟨#[46, 62, 63]⟩ : ByteArray).extract t.size (t.size + 1) = mark t := by
 have : t.size = 0 ∨ t.size = 1 ∨ t.size = 2 := by omega
 unfold mark
 rcases this with h | h | h <;> rw [h] <;> rfl
theorem rt (A : Option Addr) (cap : Nat) (g : List Bl) (w : World) (hg : Gr w A g) (hn : g.length + aM g ≤ 1048576) (hcap : g.length ≤ cap) :
  Calls Tryz.prog 172 #[.slice A g.length cap] w fun e w' => e = .returned (.string (fV g)) ∧ Below w.heap.size w w' := by
 have hc := iV A cap g w hg hn hcap
 by_cases hv : aa g = true
 ·have HV := F7 (yP hv)
  rw [hv] at hc
  have HC := F7 hc
  have HT := F7 hv
  clear hv hc
  go_enter Tryz.func172, Tryz.ntmps172
  go_wp2_with fail
  refine HC.out.mono ?_
  rintro e w1 ⟨rfl, b1⟩
  go_wp2_with fail
  go_loopw [3, 11] (fun s i wr => ∃ k : Nat, k ≤ g.length ∧ i = .int .i64 k ∧ s = .string (fT (g.take k)) ∧ Below w.heap.size w wr) (fun _ i _ => g.length - (intOf i).toNat)
  case atStart => exact ⟨0, Nat.zero_le _, rfl, rfl, b1⟩
  case round =>
   obtain ⟨k, hk, rfl, rfl, hB⟩ := hrel
   have hm1 := uK (g.take k)
   have hm2 := eX g k
   have hm3 : (g.take k).length ≤ g.length := by simp; omega
   obtain ⟨m, hm⟩ : ∃ m, m = fT (g.take k) := ⟨_, rfl⟩
   have HM := F7 hm
   rw [← hm] at hm1 ⊢
   have hms : m.size ≤ 3145728 := by omega
   clear hm hm1 hm2 hm3
   by_cases hlt : k < g.length
   ·obtain ⟨b, off, s, t, rfl, hb, hc0, hc1, he, he2⟩ := fF (hg.below hB) hlt
    have hs3 := jh g k hlt
    rw [he, he2] at hs3
    have hs2 := (dc.1 (eO.1 (ak.1 HT.out).2.2.2 k hlt)).1
    rw [he2] at hs2
    have hss : s.size ≤ 1048576 := by omega
    have HP := F7 (show fj g[k] = s ++ mark t ++ t by unfold fj; rw [he, he2])
    have HMS := F7 (qp t hs2)
    have hm1 := sr t
    have hsl : ∀ w, (Instr.slice 9 (.string ⟨#[46, 62, 63]⟩) (some (.int .i64 t.size)) (some (.int .i64 (t.size + 1))) none).run Tryz.prog w = .ok (.string (mark t)) w := fun w => by
     have h3 : (⟨#[46, 62, 63]⟩ : ByteArray).size = 3 := rfl
     have := run_slice_string (P := Tryz.prog) w 9 ⟨#[46, 62, 63]⟩ .i64 .i64 (t.size : Int) (t.size + 1 : Int) Tryz.underlying9 (by omega) (by omega) (by rw [h3]; omega)
     rw [this]
     have e1 : ((t.size : Int)).toNat = t.size := by omega
     have e2 : ((t.size : Int) + 1).toNat = t.size + 1 := by omega
     rw [e1, e2, qp t hs2]
    have HTK := F7 (ly g k hlt)
    clear he he2 hs3
    by_cases h0 : 0 < k
    ·have HF : Hid (fT (g.take (k + 1)) = m ++ ⟨#[44]⟩ ++ (s ++ mark t ++ t)) := by
      show fT (g.take (k + 1)) = m ++ ⟨#[44]⟩ ++ (s ++ mark t ++ t)
      rw [HTK.out, AA (by simp; omega), HP.out, HM.out]
     go_wp2_with fail
     go_quiet (fail)
     go_wp2_with fail
     go_roundw
     case rel => exact ⟨k + 1, by omega, by go_num, by rw [HF.out, ← cM, ← cM], ac (hB.alloc hB.size _) (ab _ nq)⟩
     case measure => simp [intOf]; omega
    ·have HF : Hid (fT (g.take (k + 1)) = m ++ (s ++ mark t ++ t)) := by
      show fT (g.take (k + 1)) = m ++ (s ++ mark t ++ t)
      have hk0 : k = 0 := by omega
      rw [HTK.out, HM.out]
      subst hk0
      rw [List.take_zero, List.nil_append, Cu, HP.out, Cv, fl]
     go_wp2_with fail
     go_quiet (fail)
     go_wp2_with fail
     go_roundw
     case rel => exact ⟨k + 1, by omega, by go_num, by rw [HF.out, ← cM, ← cM], ac (hB.alloc hB.size _) (ab _ nq)⟩
     case measure => simp [intOf]; omega
   ·have HE := F7 (show m = fV g by rw [HV.out, HM.out, List.take_of_length_le (by omega)])
    go_wp2_with fail
    go_ret
    exact ⟨cu HE.out, hB⟩
 ·have hv' : aa g = false := by simpa using hv
  have HV := F7 (Az hv')
  rw [hv'] at hc
  have HC := F7 hc
  clear hv hv' hc
  go_enter Tryz.func172, Tryz.ntmps172
  go_wp2_with fail
  refine HC.out.mono ?_
  rintro e w1 ⟨rfl, b1⟩
  go_wp2_with fail
  go_ret
  exact ⟨cu HV.out.symm, b1⟩
end Go.Proofs.YtlkfakdghjaoaaaGreatDoor
namespace Go.Proofs.YtlkfakdghjaoaaaGreatDoor
open Go.RowKit Go.Sort
end Go.Proofs.YtlkfakdghjaoaaaGreatDoor

namespace Go.Proofs.YtlkfakdghjaoaaaGreatDoor
open Go.RowKit Go.Sort
theorem sz : (Tryz.prog.info? 101).map (·.size) = some 3 := by kernel_rfl
theorem aR {w w' : World} {base : Nat} {e : TypeId} {v : Value} {n : Nat} {xs : List Value} (h : w.ownsRow base e 1 v n xs) (hb : Below w.heap.size w w') : w'.ownsRow base e 1 v n xs := by
 refine ⟨h.1, ?_⟩
 rcases h.2 with hn | ⟨g, cap, cur, hv, hb2, hg, rest⟩
 ·exact .inl hn
 ·refine .inr ⟨g, cap, cur, hv, hb2, ?_, rest⟩
  have hlt : g < w.heap.size := by
   rcases Nat.lt_or_ge g w.heap.size with h' | h'
   ·exact h'
   ·rw [Array.getElem?_eq_none h'] at hg; cases hg
  exact (hb.block g hlt).trans hg
end Go.Proofs.YtlkfakdghjaoaaaGreatDoor

namespace Go.Proofs.YtlkfakdghjaoaaaGreatDoor
open Go.RowKit Go.Sort
def ai (g : List Bl) (i : Nat) : List Nat := (k7 g i).data.toList.map fun c => (aY g ⟨#[c]⟩).getD 0
inductive Goes (g : List Bl) (i : Nat) (s : ByteArray) : Prop where
 | stop (h : ai g i = []) (hs : s.size = 0) : Goes g i s
 | jump (p : Nat) (hp : p < g.length) (h : ai g i = [p]) (hs : s.size = 1) (ho : aY g s = some p) (hn : g[p].1 = s) : Goes g i s
 | branch (p q : Nat) (hp : p < g.length) (hq : q < g.length) (h : ai g i = [p, q]) (hs : s.size = 2)
   (ho : aY g (s.extract 0 1) = some p) (hn : g[p].1 = s.extract 0 1) (ho' : aY g (s.extract 1 s.size) = some q) (hn' : g[q].1 = s.extract 1 s.size) (hne : p ≠ q) : Goes g i s
theorem dX {s : ByteArray} : s.data.toList.length = s.size := by rw [Array.length_toList]; rfl
theorem goes {g : List Bl} (hv : aa g = true) {i : Nat} (hi : i < g.length) : Goes g i g[i].2 := by
 have h2 := dc.1 (eO.1 (ak.1 hv).2.2.2 i hi)
 have hl := dX (s := g[i].2)
 have en : ai g i = g[i].2.data.toList.map fun c => (aY g ⟨#[c]⟩).getD 0 := by unfold ai; rw [gJ hi]
 by_cases e1 : g[i].2.size = 1
 ·obtain ⟨p, hp, hpos, hs⟩ := im hv hi (j := 0) (by omega)
  have hb := uP e1
  refine .jump p hp ?_ e1 (by rw [hb]; exact hpos) (by rw [hb]; exact hs)
  rw [en]
  obtain ⟨c, hc⟩ := List.length_eq_one_iff.1 (hl.trans e1)
  have h0 := aG g[i].2 0 (by omega)
  rw [hc] at h0 ⊢
  have h0' : c = g[i].2[0]'(by omega) := by simpa using h0
  simp only [List.map_cons, List.map_nil]
  rw [h0', hpos]; rfl
 ·by_cases e2 : g[i].2.size = 2
  ·obtain ⟨p, hp, hpos, hs⟩ := im hv hi (j := 0) (by omega)
   obtain ⟨q, hq, hpos', hs'⟩ := im hv hi (j := 1) (by omega)
   have x0 := fJ g[i].2 (a := 0) (b := 1) (by omega) (by omega) rfl
   have x1 := fJ g[i].2 (a := 1) (b := g[i].2.size) (by omega) (by omega) (by omega)
   refine .branch p q hp hq ?_ e2 (by rw [x0]; exact hpos) (by rw [x0]; exact hs) (by rw [x1]; exact hpos') (by rw [x1]; exact hs') ?_
   ·rw [en]
    have hl2 := hl.trans e2
    have h0 := aG g[i].2 0 (by omega)
    have h1 := aG g[i].2 1 (by omega)
    match hm : g[i].2.data.toList, hl2 with
    | [a, b], _ =>
     rw [hm] at h0 h1
     have h0' : a = g[i].2[0]'(by omega) := by simpa using h0
     have h1' : b = g[i].2[1]'(by omega) := by simpa using h1
     simp only [List.map_cons, List.map_nil]
     rw [h0', hpos, h1', hpos']; rfl
   ·intro e
    subst e
    rw [hs] at hs'
    exact h2.2.2 e2 (by simpa using hs')
  ·have e0 : g[i].2.size = 0 := by have := h2.1; omega
   refine .stop ?_ e0
   rw [en, List.eq_nil_of_length_eq_zero (hl.trans e0)]; rfl
theorem bH {g : List Bl} (hv : aa g = true) {i : Nat} (hi : i < g.length) {t : Nat} (ht : t ∈ ai g i) : t < g.length := by
 rcases goes hv hi with ⟨h, _⟩ | ⟨p, hp, h, _⟩ | ⟨p, q, hp, hq, h, _⟩
 ·rw [h] at ht; simp at ht
 ·rw [h] at ht; simp at ht; omega
 ·rw [h] at ht; simp at ht; omega
theorem rC {NB : Nat} {g : List Bl} {i : Nat} (hi : i < g.length) (h : Goes g i g[i].2) :
  (ai g i = [] ∧ ends NB g i = .iface 230 (.agg #[])) ∨
  (∃ p, p < g.length ∧ ai g i = [p] ∧ ends NB g i = .iface 191 (.agg #[ag NB p])) ∨
  (∃ p q, p < g.length ∧ q < g.length ∧ ai g i = [p, q] ∧ ends NB g i = .iface 193 (.agg #[ag NB p, ag NB q])) := by
 unfold ends gI
 rw [gJ hi]
 rcases h with ⟨h, hs⟩ | ⟨p, hp, h, hs, ho, _⟩ | ⟨p, q, hp, hq, h, hs, ho, _, ho', _, _⟩
 ·refine .inl ⟨h, ?_⟩
  rw [if_neg (by omega), if_neg (by omega)]
 ·refine .inr (.inl ⟨p, hp, h, ?_⟩)
  rw [if_pos hs, ho]; rfl
 ·refine .inr (.inr ⟨p, q, hp, hq, h, ?_⟩)
  rw [if_neg (by omega), if_pos hs, ho, ho']; rfl
def bI (g : List Bl) : Nat → Nat → List UInt8 → List (Nat × Nat)
 | 0, _, _ => []
 | m + 1, i, left =>
  match ai g i with
  | [] => [(i, 0)]
  | [j] => (i, 2) :: bI g m j left
  | j :: k :: _ =>
   match left with
   | [] => [(i, 1)]
   | c :: l => (i, 2) :: bI g m (if c = 108 then j else k) l
theorem j6 {g : List Bl} {m i : Nat} {left : List UInt8} (h : ai g i = []) : bI g (m + 1) i left = [(i, 0)] := by simp only [bI, h]
theorem iE {g : List Bl} {m i j : Nat} {left : List UInt8} (h : ai g i = [j]) : bI g (m + 1) i left = (i, 2) :: bI g m j left := by simp only [bI, h]
theorem CL {g : List Bl} {m i j k : Nat} (h : ai g i = [j, k]) : bI g (m + 1) i [] = [(i, 1)] := by simp only [bI, h]
theorem D8 {g : List Bl} {m i j k : Nat} {c : UInt8} {l : List UInt8} (h : ai g i = [j, k]) : bI g (m + 1) i (c :: l) = (i, 2) :: bI g m (if c = 108 then j else k) l := by simp only [bI, h]
theorem xF (g : List Bl) : ∀ (m i : Nat) (left : List UInt8), (bI g m i left).length ≤ m
 | 0, _, _ => Nat.le_refl 0
 | m + 1, i, left => by
  have ih := xF g m
  unfold bI
  split
  ·simp
  ·simp [ih]
  ·split
   ·simp
   ·simp [ih]
theorem rD {g : List Bl} (hv : aa g = true) : ∀ (m i : Nat) (left : List UInt8), i < g.length → ∀ x ∈ bI g m i left, x.1 < g.length
 | 0, _, _, _, x, hx => by simp [bI] at hx
 | m + 1, i, left, hi, x, hx => by
  have ih := rD hv m
  unfold bI at hx
  split at hx
  ·simp at hx; subst hx; exact hi
  ·rename_i j hj
   rcases List.mem_cons.1 hx with rfl | hx
   ·exact hi
   ·exact ih _ _ (bH hv hi (by rw [hj]; simp)) x hx
  ·rename_i j k r hj
   split at hx
   ·simp at hx; subst hx; exact hi
   ·rcases List.mem_cons.1 hx with rfl | hx
    ·exact hi
    ·refine ih _ _ ?_ x hx
     split
     ·exact bH hv hi (by rw [hj]; simp)
     ·exact bH hv hi (by rw [hj]; simp)
def eS (g : List Bl) (choices : ByteArray) : List (Nat × Nat) := bI g 60 0 choices.data.toList
def ae (g : List Bl) : List Nat → ByteArray
 | [] => ⟨#[]⟩
 | i :: l => aC g i ++ ae g l
theorem a8 (g : List Bl) (a b : List Nat) : ae g (a ++ b) = ae g a ++ ae g b := by
 induction a with
 | nil => exact (fl _).symm
 | cons n a ih => simp only [List.cons_append, ae, ih, cM]
theorem bw (g : List Bl) (i : Nat) : ae g [i] = aC g i := ee _
theorem ax {g : List Bl} (hv : aa g = true) : ∀ (l : List Nat), (∀ i ∈ l, i < g.length) → (ae g l).size = l.length
 | [], _ => rfl
 | i :: l, h => by
  have hi := h i (by simp)
  obtain ⟨c, hc, _⟩ := bi hv (List.getElem_mem hi)
  have ih := ax hv l (fun j hj => h j (by simp [hj]))
  rw [ae, ByteArray.size_append, ih, am hi, hc]
  show 1 + l.length = l.length + 1
  omega
def lc (g : List Bl) (choices : ByteArray) : ByteArray := ae g ((eS g choices).map (·.1))
def g8 (xs : List (Nat × Nat)) : Nat := (xs.getLast?.map (·.2)).getD 0
def qA (g : List Bl) (choices : ByteArray) : Nat := g8 (eS g choices)
theorem nE (xs : List (Nat × Nat)) (x : Nat × Nat) : g8 (xs ++ [x]) = x.2 := by simp [g8]
structure Going (g : List Bl) (choices : ByteArray) (pre : List (Nat × Nat)) (i : Nat) (left : List UInt8) : Prop where
 all : eS g choices = pre ++ bI g (60 - pre.length) i left
 two : ∀ x ∈ pre, x.2 = 2
 lt : i < g.length
 rest : left <:+ choices.data.toList
theorem Going.start {g : List Bl} (hv : aa g = true) (choices : ByteArray) : Going g choices [] 0 choices.data.toList :=
 ⟨rfl, by simp, (ak.1 hv).1, List.suffix_refl _⟩
theorem Going.stop {g : List Bl} {choices : ByteArray} {pre : List (Nat × Nat)} {i : Nat} {left : List UInt8} (h : Going g choices pre i left) (hl : pre.length < 60) (hn : ai g i = []) :
  eS g choices = pre ++ [(i, 0)] := by
 obtain ⟨m, hm⟩ : ∃ m, 60 - pre.length = m + 1 := ⟨59 - pre.length, by omega⟩
 rw [h.all, hm, j6 hn]
theorem Going.ask {g : List Bl} {choices : ByteArray} {pre : List (Nat × Nat)} {i j k : Nat} (h : Going g choices pre i []) (hl : pre.length < 60) (hn : ai g i = [j, k]) :
  eS g choices = pre ++ [(i, 1)] := by
 obtain ⟨m, hm⟩ : ∃ m, 60 - pre.length = m + 1 := ⟨59 - pre.length, by omega⟩
 rw [h.all, hm, CL hn]
theorem Going.jump {g : List Bl} (hv : aa g = true) {choices : ByteArray} {pre : List (Nat × Nat)} {i j : Nat} {left : List UInt8} (h : Going g choices pre i left) (hl : pre.length < 60) (hn : ai g i = [j]) :
  Going g choices (pre ++ [(i, 2)]) j left := by
 obtain ⟨m, hm⟩ : ∃ m, 60 - pre.length = m + 1 := ⟨59 - pre.length, by omega⟩
 refine ⟨?_, fun x hx => ?_, bH hv h.lt (by rw [hn]; simp), h.rest⟩
 ·rw [h.all, hm, iE hn, show 60 - (pre ++ [((i : Nat), (2 : Nat))]).length = m by simp only [List.length_append, List.length_cons, List.length_nil]; omega]; simp
 ·rcases List.mem_append.1 hx with hx | hx
  ·exact h.two x hx
  ·simp at hx; subst hx; rfl
theorem Going.go {g : List Bl} (hv : aa g = true) {choices : ByteArray} {pre : List (Nat × Nat)} {i j k : Nat} {c : UInt8} {left : List UInt8} (h : Going g choices pre i (c :: left)) (hl : pre.length < 60) (hn : ai g i = [j, k]) :
  Going g choices (pre ++ [(i, 2)]) (if c = 108 then j else k) left := by
 obtain ⟨m, hm⟩ : ∃ m, 60 - pre.length = m + 1 := ⟨59 - pre.length, by omega⟩
 refine ⟨?_, fun x hx => ?_, ?_, (List.suffix_cons c left).trans h.rest⟩
 ·rw [h.all, hm, D8 hn, show 60 - (pre ++ [((i : Nat), (2 : Nat))]).length = m by simp only [List.length_append, List.length_cons, List.length_nil]; omega]; simp
 ·rcases List.mem_append.1 hx with hx | hx
  ·exact h.two x hx
  ·simp at hx; subst hx; rfl
 ·split
  ·exact bH hv h.lt (by rw [hn]; simp)
  ·exact bH hv h.lt (by rw [hn]; simp)
theorem CM (g : List Bl) (choices : ByteArray) : (eS g choices).length ≤ 60 := xF g 60 0 _
def cc (o ts : List Nat) : List Nat := ts.foldl (fun o t => if t ∈ o then o else o ++ [t]) o
theorem AS (o : List Nat) : cc o [] = o := rfl
theorem l6 (o : List Nat) (t : Nat) (ts : List Nat) : cc o (t :: ts) = cc (if t ∈ o then o else o ++ [t]) ts := rfl
theorem qB (o : List Nat) (t : Nat) (ts : List Nat) : cc o (ts ++ [t]) = if t ∈ cc o ts then cc o ts else cc o ts ++ [t] := by
 unfold cc; rw [List.foldl_append]; rfl
theorem gK (ts : List Nat) : ∀ o, o <+: cc o ts := by
 induction ts with
 | nil => intro o; exact List.prefix_refl _
 | cons t ts ih =>
  intro o
  rw [l6]
  split
  ·exact ih o
  ·exact (List.prefix_append o [t]).trans (ih _)
theorem iF (ts : List Nat) : ∀ o x, x ∈ cc o ts ↔ x ∈ o ∨ x ∈ ts := by
 induction ts with
 | nil => intro o x; simp [AS]
 | cons t ts ih =>
  intro o x
  rw [l6, ih]
  split
  ·rename_i h
   constructor
   ·rintro (h1 | h1)
    ·exact .inl h1
    ·exact .inr (by simp [h1])
   ·rintro (h1 | h1)
    ·exact .inl h1
    ·rcases List.mem_cons.1 h1 with rfl | h1
     ·exact .inl h
     ·exact .inr h1
  ·rw [List.mem_append, List.mem_singleton, List.mem_cons, or_assoc]
theorem fW (ts : List Nat) : ∀ o, o.Nodup → (cc o ts).Nodup := by
 induction ts with
 | nil => intro o h; exact h
 | cons t ts ih =>
  intro o h
  rw [l6]
  split
  ·exact ih o h
  ·rename_i hn
   refine ih _ (List.nodup_append.2 ⟨h, by simp, fun a ha b hb => ?_⟩)
   simp at hb; subst hb
   intro e; subst e; exact hn ha
def bJ (g : List Bl) : Nat → List Nat
 | 0 => [0]
 | k + 1 => match (bJ g k)[k]? with
  | none => bJ g k
  | some n => cc (bJ g k) (ai g n)
theorem jI {g : List Bl} {k : Nat} (h : k < (bJ g k).length) : bJ g (k + 1) = cc (bJ g k) (ai g (bJ g k)[k]) := by
 simp only [bJ, List.getElem?_eq_getElem h]
theorem jJ {g : List Bl} {k : Nat} (h : (bJ g k).length ≤ k) : bJ g (k + 1) = bJ g k := by
 simp only [bJ, List.getElem?_eq_none h]
theorem iG (g : List Bl) : ∀ k, (bJ g k).Nodup
 | 0 => by simp [bJ]
 | k + 1 => by
  by_cases h : k < (bJ g k).length
  ·rw [jI h]; exact fW _ _ (iG g k)
  ·rw [jJ (by omega)]; exact iG g k
theorem jK {g : List Bl} (hv : aa g = true) : ∀ k, ∀ x ∈ bJ g k, x < g.length
 | 0, x, hx => by simp [bJ] at hx; subst hx; exact (ak.1 hv).1
 | k + 1, x, hx => by
  have ih := jK hv k
  by_cases h : k < (bJ g k).length
  ·rw [jI h, iF] at hx
   rcases hx with hx | hx
   ·exact ih x hx
   ·exact bH hv (ih _ (List.getElem_mem h)) hx
  ·rw [jJ (by omega)] at hx; exact ih x hx
theorem bK : ∀ (n : Nat) (l : List Nat), l.Nodup → (∀ x ∈ l, x < n) → l.length ≤ n := by
 intro n l hn hl
 have := List.Nodup.length_le_of_subset (l₁ := l) (l₂ := List.range n) hn (fun x hx => List.mem_range.2 (hl x hx))
 simpa using this
theorem xG {g : List Bl} (hv : aa g = true) (k : Nat) : (bJ g k).length ≤ g.length := bK _ _ (iG g k) (jK hv k)
theorem yY (g : List Bl) (k : Nat) : bJ g k <+: bJ g (k + 1) := by
 by_cases h : k < (bJ g k).length
 ·rw [jI h]; exact gK _ _
 ·rw [jJ (by omega)]; exact List.prefix_refl _
theorem u3 {g : List Bl} {k : Nat} (h : (bJ g k).length ≤ k) : ∀ m, bJ g (k + m) = bJ g k
 | 0 => rfl
 | m + 1 => by
  have ih := u3 h m
  rw [← Nat.add_assoc, jJ (by rw [ih]; omega), ih]
theorem nF (g : List Bl) (k : Nat) : ∀ m, bJ g k <+: bJ g (k + m)
 | 0 => List.prefix_refl _
 | m + 1 => (nF g k m).trans (yY g (k + m))
def bM (g : List Bl) : List Nat := bJ g g.length
theorem yZ {g : List Bl} {k : Nat} (hk : k ≤ g.length) (h : (bJ g k).length ≤ k) : bJ g k = bM g := by
 have := u3 h (g.length - k)
 unfold bM
 rw [← this]; congr 1; omega
theorem AT {g : List Bl} {k : Nat} (hk : k ≤ g.length) : bJ g k <+: bM g := by
 have := nF g k (g.length - k)
 unfold bM
 rwa [show k + (g.length - k) = g.length by omega] at this
theorem l7 {g : List Bl} (hv : aa g = true) {x : Nat} (hx : x ∈ bM g) : x < g.length := jK hv _ x hx
theorem oM (g : List Bl) : (bM g).Nodup := iG g _
theorem AU {g : List Bl} (hv : aa g = true) : (bM g).length ≤ g.length := xG hv _
def aj (g : List Bl) : List Nat := (List.range g.length).filter fun i => decide (i ∈ bM g)
end Go.Proofs.YtlkfakdghjaoaaaGreatDoor
namespace Go.Proofs.YtlkfakdghjaoaaaGreatDoor
open Go.RowKit Go.Sort
theorem gn {g : List Bl} (hv : aa g = true) {i j : Nat} (hi : i < g.length) (hj : j < g.length) (h : g[i].1 = g[j].1) : i = j := by
 have key : ∀ i j (hi : i < g.length) (hj : j < g.length), i < j → g[i].1 ≠ g[j].1 := by
  intro i j hi hj hlt e
  obtain ⟨c, hc, hl⟩ := bi hv (List.getElem_mem hj)
  have hn := iy.1 (ak.1 hv).2.2.1 j hj
  rw [hc, lB hl] at hn
  have hm : c ∈ (names (g.take j)).data.toList := su.2 ⟨g[i], by
   rw [List.mem_take_iff_getElem]; exact ⟨i, by omega, rfl⟩, by rw [e, hc]; simp⟩
  rw [List.contains_iff_mem.2 hm] at hn
  cases hn
 rcases Nat.lt_trichotomy i j with hlt | e | hlt
 ·exact absurd h (key i j hi hj hlt)
 ·exact e
 ·exact absurd h.symm (key j i hj hi hlt)
theorem fL {g : List Bl} (hv : aa g = true) {i : Nat} (hi : i < g.length) : aY g g[i].1 = some i :=
 lZ hi rfl fun j hj hlt e => by have := gn hv hj hi e; omega
theorem dO {g : List Bl} {i : Nat} (hi : i < g.length) : (ai g i).length = g[i].2.size := by
 unfold ai; rw [List.length_map, gJ hi, size_of_list]
where
 size_of_list {s : ByteArray} : s.data.toList.length = s.size := by rw [Array.length_toList]; rfl
theorem jj {g : List Bl} (hv : aa g = true) {i : Nat} (hi : i < g.length) {k : Nat} (hk : k < g[i].2.size) :
  ∃ t, ∃ ht : t < g.length, (ai g i)[k]? = some t ∧ aY g ⟨#[g[i].2[k]'hk]⟩ = some t ∧ g[t].1 = ⟨#[g[i].2[k]'hk]⟩ := by
 obtain ⟨t, ht, hpos, hn⟩ := im hv hi hk
 refine ⟨t, ht, ?_, hpos, hn⟩
 unfold ai
 rw [List.getElem?_map, gJ hi, aG _ k hk]
 simp only [Option.map_some, hpos, Option.getD_some]
theorem D9 {g : List Bl} (hv : aa g = true) {i t : Nat} (hi : i < g.length) (ht : t < g.length) {c : UInt8} (hc : g[t].1 = ⟨#[c]⟩) : t ∈ ai g i ↔ c ∈ g[i].2.data.toList := by
 constructor
 ·intro h
  obtain ⟨k, hk, e⟩ := List.getElem_of_mem h
  rw [dO hi] at hk
  obtain ⟨t', ht', hg', _, hn'⟩ := jj hv hi hk
  rw [List.getElem?_eq_getElem (by rw [dO hi]; exact hk), e] at hg'
  obtain rfl := Option.some.inj hg'
  rw [hc] at hn'
  have : c = g[i].2[k]'hk := by injection hn' with h; simpa using h
  rw [this]; exact List.mem_of_getElem? (aG _ k hk)
 ·intro h
  obtain ⟨k, hk, e⟩ := List.getElem_of_mem h
  have hk' : k < g[i].2.size := by simpa using hk
  obtain ⟨t', ht', hg', _, hn'⟩ := jj hv hi hk'
  have hb : g[i].2[k]'hk' = c := by
   have h1 := aG g[i].2 k hk'
   rw [List.getElem?_eq_getElem hk, e] at h1
   exact (Option.some.inj h1).symm
  rw [hb, ← hc] at hn'
  obtain rfl := gn hv ht' ht hn'
  exact List.mem_of_getElem? hg'
theorem oN {g : List Bl} {c : UInt8} : ∀ {l : List Nat}, c ∈ (ae g l).data.toList ↔ ∃ i ∈ l, c ∈ (aC g i).data.toList
 | [] => by simp [ae]
 | i :: l => by rw [ae, dl, List.mem_append, oN]; simp
theorem bU {g : List Bl} (hv : aa g = true) {l : List Nat} (hl : ∀ i ∈ l, i < g.length) {t : Nat} (ht : t < g.length) {c : UInt8} (hc : g[t].1 = ⟨#[c]⟩) :
  0 ≤ Lib.indexByte (ae g l).data.toList c ↔ t ∈ l := by
 rw [eF, oN]
 constructor
 ·rintro ⟨i, hi, hm⟩
  have hi' := hl i hi
  obtain ⟨d, hd, _⟩ := bi hv (List.getElem_mem hi')
  rw [am hi', hd] at hm
  have hcd : c = d := by simpa using hm
  subst hcd
  rw [← hc] at hd
  rw [← gn hv hi' ht hd]; exact hi
 ·intro h
  exact ⟨t, h, by rw [am ht, hc]; simp⟩
theorem io {g : List Bl} (hv : aa g = true) : ∀ {l : List Nat}, (∀ i ∈ l, i < g.length) → ∀ {k : Nat} (hk : k < l.length), ∃ h : l[k] < g.length, (ae g l).data.toList[k]? = g[l[k]].1.data.toList[0]?
 | [], _, k, hk => by simp at hk
 | i :: l, hl, k, hk => by
  have hi := hl i (by simp)
  obtain ⟨c, hc, _⟩ := bi hv (List.getElem_mem hi)
  cases k with
  | zero =>
   refine ⟨hi, ?_⟩
   rw [ae, dl, am hi]
   simp [hc]
  | succ k =>
   obtain ⟨h, e⟩ := io hv (l := l) (fun j hj => hl j (by simp [hj])) (k := k) (by simpa using hk)
   refine ⟨h, ?_⟩
   rw [ae, dl, am hi, hc]
   simpa using e
theorem va {g : List Bl} (hv : aa g = true) {l : List Nat} (hl : ∀ i ∈ l, i < g.length) {k : Nat} (hk : k < l.length) :
  ∃ h : l[k] < g.length, ∃ hk' : k < (ae g l).size, g[l[k]].1 = ⟨#[(ae g l)[k]'hk']⟩ := by
 obtain ⟨h, e⟩ := io hv hl hk
 have hk' : k < (ae g l).size := by rw [ax hv l hl]; exact hk
 refine ⟨h, hk', ?_⟩
 obtain ⟨c, hc, _⟩ := bi hv (List.getElem_mem h)
 rw [aG _ k hk', hc] at e
 have : (ae g l)[k]'hk' = c := by simpa using e
 rw [this, hc]
theorem du {g : List Bl} (hv : aa g = true) {l : List Nat} (hl : ∀ i ∈ l, i < g.length) {k : Nat} (hk : k < l.length) :
  ∃ h : l[k] < g.length, (ae g l).extract k (k + 1) = g[l[k]].1 := by
 obtain ⟨h, hk', e⟩ := va hv hl hk
 exact ⟨h, by rw [fJ _ (a := k) (b := k + 1) (by omega) (by omega) (by omega), e]⟩
end Go.Proofs.YtlkfakdghjaoaaaGreatDoor

namespace Go.Proofs.YtlkfakdghjaoaaaGreatDoor
def bq (n : Nat) : Nat → List (List UInt8)
 | 0 => [[]]
 | k + 1 => match (bq n k)[k]? with
  | some x => if x.length < n then bq n k ++ [x ++ [108], x ++ [114]] else bq n k
  | none => bq n k
def dH (n : Nat) : List (List UInt8) := bq n 127
theorem rE {n k : Nat} (h : k < (bq n k).length) (hs : (bq n k)[k].length < n) : bq n (k + 1) = bq n k ++ [(bq n k)[k] ++ [108], (bq n k)[k] ++ [114]] := by
 rw [bq, List.getElem?_eq_getElem h]
 simp only
 rw [if_pos hs]
theorem rF {n k : Nat} (h : k < (bq n k).length) (hs : ¬ (bq n k)[k].length < n) : bq n (k + 1) = bq n k := by
 rw [bq, List.getElem?_eq_getElem h]
 simp only
 rw [if_neg hs]
theorem rG {n k : Nat} (h : ¬ k < (bq n k).length) : bq n (k + 1) = bq n k := by
 rw [bq, List.getElem?_eq_none (by omega)]
theorem vc (n k : Nat) : bq n k <+: bq n (k + 1) := by
 by_cases h : k < (bq n k).length
 ·by_cases hs : (bq n k)[k].length < n
  ·rw [rE h hs]; exact List.prefix_append _ _
  ·rw [rF h hs]; exact List.prefix_refl _
 ·rw [rG h]; exact List.prefix_refl _
theorem qC (n k : Nat) : ∀ m, bq n k <+: bq n (k + m)
 | 0 => List.prefix_refl _
 | m + 1 => (qC n k m).trans (vc n (k + m))
theorem sE {n j k : Nat} (h : j ≤ k) : bq n j <+: bq n k := by
 obtain ⟨m, rfl⟩ := Nat.le.dest h
 exact qC n j m
theorem xH {n k : Nat} (h : ¬ k < (bq n k).length) : ∀ m, bq n (k + m) = bq n k
 | 0 => rfl
 | m + 1 => by
  have ih := xH h m
  rw [← Nat.add_assoc, rG (by rw [ih]; omega), ih]
theorem y5 {n : Nat} (hn : n ≤ 6) : (dH n).length ≤ 127 := by
 have : n = 0 ∨ n = 1 ∨ n = 2 ∨ n = 3 ∨ n = 4 ∨ n = 5 ∨ n = 6 := by omega
 rcases this with rfl | rfl | rfl | rfl | rfl | rfl | rfl <;> decide +kernel
theorem E5 {n k : Nat} (hn : n ≤ 6) (hk : k ≤ 127) : (bq n k).length ≤ 127 := Nat.le_trans (sE hk).length_le (y5 hn)
theorem E6 {n k : Nat} (hk : k ≤ 127) (h : ¬ k < (bq n k).length) : bq n k = dH n := by
 obtain ⟨m, hm⟩ := Nat.le.dest hk
 unfold dH
 rw [← hm, xH h m]
theorem oc (n : Nat) : ∀ k, ∀ x ∈ bq n k, x.length ≤ n
 | 0, x, hx => by
  rw [bq, List.mem_singleton] at hx
  rw [hx]; exact Nat.zero_le _
 | k + 1, x, hx => by
  by_cases h : k < (bq n k).length
  ·by_cases hs : (bq n k)[k].length < n
   ·rw [rE h hs, List.mem_append] at hx
    rcases hx with hx | hx
    ·exact oc n k x hx
    ·simp only [List.mem_cons, List.not_mem_nil, or_false] at hx
     rcases hx with rfl | rfl <;> simp <;> omega
   ·rw [rF h hs] at hx; exact oc n k x hx
  ·rw [rG h] at hx; exact oc n k x hx
theorem Ea {n k : Nat} (hk : k < 127) (h : k < (bq n k).length) : (bq n k).take k ++ [(bq n k)[k]] <+: dH n := by
 have : (bq n k).take k ++ [(bq n k)[k]] = (bq n k).take (k + 1) := by rw [List.take_succ_eq_append_getElem h]
 rw [this]
 exact (List.take_prefix _ _).trans (sE (by omega))
theorem CN {n k : Nat} (h : k < (bq n k).length) : (bq n (k + 1)).take (k + 1) = (bq n k).take k ++ [(bq n k)[k]] := by
 have h1 := (List.prefix_iff_eq_take.1 (vc n k))
 have : (bq n k).take k ++ [(bq n k)[k]] = (bq n k).take (k + 1) := by rw [List.take_succ_eq_append_getElem h]
 rw [this]
 rw [h1, List.take_take]
 congr 1
 have h2 : (bq n k).length = min (bq n k).length (bq n (k+1)).length := by have := (vc n k).length_le; omega
 omega
end Go.Proofs.YtlkfakdghjaoaaaGreatDoor
namespace Go.Proofs.YtlkfakdghjaoaaaGreatDoor
open Go.RowKit Go.Sort
theorem F0 (x : List UInt8) : tb x ++ ⟨#[108]⟩ = tb (x ++ [108]) := by apply aV; rw [ByteArray.data_append, Array.toList_append, aA, aA]
theorem F1 (x : List UInt8) : tb x ++ ⟨#[114]⟩ = tb (x ++ [114]) := by apply aV; rw [ByteArray.data_append, Array.toList_append, aA, aA]
end Go.Proofs.YtlkfakdghjaoaaaGreatDoor
