import Derived.Test.YtlkfakdghjaoaaaGreatDoorNodes
import Derived.Deep.RegionHeld3
import Derived.Lib.Join
import Derived.OwnWalk
import Derived.LaidEqlPtr
import Derived.Test.YtlkfakdghjaoaaaGreatDoorJ3
import Derived.Test.YtlkfakdghjaoaaaGreatDoorJ2
import Derived.Deep.AppendLies
import Derived.Deep.RegionLaw
import Derived.IntWalk
import Derived.WalkKit
set_option maxHeartbeats 800000
namespace Go.Proofs.YtlkfakdghjaoaaaGreatDoor
open Go.RowKit Go.Sort
def mark (next : ByteArray) : ByteArray := if next.size = 1 then ⟨#[62]⟩ else if next.size = 2 then ⟨#[63]⟩ else ⟨#[46]⟩
theorem EN (u : Value) (w : World) : (Instr.typeAssert (.iface 191 (.agg #[u])) 99 191 true).run Tryz.prog w = .ok (.tuple #[.agg #[u], .bool true]) w := by kernel_rfl
theorem rZ (u v : Value) (w : World) : (Instr.typeAssert (.iface 193 (.agg #[u, v])) 99 191 true).run Tryz.prog w = .ok (.tuple #[.agg #[.pointer none], .bool false]) w := by kernel_rfl
theorem BG (u v : Value) (w : World) : (Instr.typeAssert (.iface 193 (.agg #[u, v])) 99 193 true).run Tryz.prog w = .ok (.tuple #[.agg #[u, v], .bool true]) w := by kernel_rfl
theorem vI (w : World) : (Instr.typeAssert (.iface 230 (.agg #[])) 99 191 true).run Tryz.prog w = .ok (.tuple #[.agg #[.pointer none], .bool false]) w := by kernel_rfl
theorem r7 (w : World) : (Instr.typeAssert (.iface 230 (.agg #[])) 99 193 true).run Tryz.prog w = .ok (.tuple #[.agg #[.pointer none, .pointer none], .bool false]) w := by kernel_rfl
def fG (b : Bl) : ByteArray := b.1 ++ mark b.2 ++ b.2
theorem tq (next : ByteArray) : (mark next).size = 1 := by
 unfold mark; split
 ·rfl
 ·split <;> rfl
theorem BI (b : Bl) : (fG b).size = b.1.size + 1 + b.2.size := by
 unfold fG; rw [ByteArray.size_append, ByteArray.size_append, tq]
def gz (g : List Bl) : ByteArray := ⟨(Lib.join (g.map fun b => (fG b).data.toList) [44]).toArray⟩
structure Parts (w : World) (PB : Nat) (g : List Bl) (k : Nat) : Prop where
 row : ∃ cs, Blk w PB 9 cs ∧ cs.size = g.length ∧ ∀ i (h : i < g.length), i < k → cs[i]? = some (.string (fG g[i]))
theorem Parts.below {w w' : World} {PB : Nat} {g : List Bl} {k : Nat} (h : Parts w PB g k) (hb : Below w.heap.size w w') : Parts w' PB g k := by
 obtain ⟨cs, hbk, hr⟩ := h.row
 exact ⟨cs, hbk.below hb hbk.lt, hr⟩
theorem Parts.step {w : World} {PB : Nat} {g : List Bl} {k : Nat} {s : ByteArray} (h : Parts w PB g k) (hk : k < g.length) (hs : fG g[k] = s) : Parts (w.setCell ⟨PB, k, none⟩ (.string s)) PB g (k + 1) := by
 obtain ⟨cs, hbk, hsz, hr⟩ := h.row
 refine ⟨_, hbk.set_ k _, by simpa using hsz, fun i hi hik => ?_⟩
 rw [Array.getElem?_setIfInBounds]
 by_cases e : k = i
 ·subst e; rw [if_pos rfl, if_pos (by omega), hs]
 ·rw [if_neg e]; exact hr i hi (by omega)
def gC (g : List Bl) : ByteArray := if aa g then gz g else ⟨#[]⟩
theorem zO {g : List Bl} (h : aa g = true) : gC g = gz g := by unfold gC; rw [if_pos h]
theorem BJ {g : List Bl} (h : aa g = false) : gC g = ⟨#[]⟩ := by unfold gC; rw [h]; rfl
theorem zP (g : List Bl) : Lib.lens (g.map fun b => (fG b).data.toList) = aO g + g.length := by
 induction g with
 | nil => rfl
 | cons b g ih =>
  have e : Lib.lens ((b :: g).map fun b => (fG b).data.toList) = (fG b).data.toList.length + Lib.lens (g.map fun b => (fG b).data.toList) := by simp [Lib.lens]
  have e2 : (fG b).data.toList.length = (fG b).size := by rw [Array.length_toList]; rfl
  rw [e, ih, e2, BI]; simp [aO]; omega
theorem EO (l : List (List UInt8)) : (Lib.join l [44]).length ≤ Lib.lens l + l.length := by
 cases l with
 | nil => exact Nat.zero_le _
 | cons x r => rw [Lib.join_length]; simp; omega
theorem iU (g : List Bl) : (gz g).data.toList = Lib.join (g.map fun b => (fG b).data.toList) [44] := by simp [gz]
theorem Dx (b : Bl) : gz [b] = fG b := by
 apply bg; rw [iU]; exact Lib.join_one _ _
theorem BK {g : List Bl} (h : 0 < g.length) (b : Bl) : gz (g ++ [b]) = gz g ++ ⟨#[44]⟩ ++ fG b := by
 apply bg
 rw [dy, dy, iU, iU]
 cases g with
 | nil => simp at h
 | cons x r =>
  simp only [List.cons_append, List.map_cons, List.map_append, List.map_nil, Lib.join_cons]
  unfold Lib.joinTail
  simp
theorem Dy : gz [] = ⟨#[]⟩ := rfl
theorem vJ (g : List Bl) : (gz g).size ≤ aO g + 2 * g.length := by
 have h := EO (g.map fun b => (fG b).data.toList)
 rw [zP, List.length_map] at h
 have h2 : (gz g).size = (Lib.join (g.map fun b => (fG b).data.toList) [44]).length := by rw [← iU, Array.length_toList]; rfl
 omega
theorem qS (t : ByteArray) (h : t.size ≤ 2) : (⟨#[46, 62, 63]⟩ : ByteArray).extract t.size (t.size + 1) = mark t := by
 have : t.size = 0 ∨ t.size = 1 ∨ t.size = 2 := by omega
 unfold mark
 rcases this with h | h | h <;> rw [h] <;> rfl
theorem r8 (A : Option Addr) (cap : Nat) (g : List Bl) (w : World) (hg : Gr w A g) (hn : g.length + aO g ≤ 1048576) (hcap : g.length ≤ cap) :
  Calls Tryz.prog 172 #[.slice A g.length cap] w fun e w' => e = .returned (.string (gC g)) ∧ Below w.heap.size w w' := by
 have hc := jw A cap g w hg hn hcap
 by_cases hv : aa g = true
 ·have HV := GR (zO hv)
  rw [hv] at hc
  have HC := GR hc
  have HT := GR hv
  clear hv hc
  go_enter Tryz.func172, Tryz.ntmps172
  go_wp2_with fail
  refine HC.out.mono ?_
  rintro e w1 ⟨rfl, b1⟩
  go_wp2_with fail
  go_loopw [3, 11] (fun s i wr => ∃ k : Nat, k ≤ g.length ∧ i = .int .i64 k ∧ s = .string (gz (g.take k)) ∧ Below w.heap.size w wr) (fun _ i _ => g.length - (intOf i).toNat)
  case atStart => exact ⟨0, Nat.zero_le _, rfl, rfl, b1⟩
  case round =>
   obtain ⟨k, hk, rfl, rfl, hB⟩ := hrel
   have hm1 := vJ (g.take k)
   have hm2 := eJ g k
   have hm3 : (g.take k).length ≤ g.length := by simp; omega
   obtain ⟨m, hm⟩ : ∃ m, m = gz (g.take k) := ⟨_, rfl⟩
   have HM := GR hm
   rw [← hm] at hm1 ⊢
   have hms : m.size ≤ 3145728 := by omega
   clear hm hm1 hm2 hm3
   by_cases hlt : k < g.length
   ·obtain ⟨b, off, s, t, rfl, hb, hc0, hc1, he, he2⟩ := gn (hg.below hB) hlt
    have hs3 := jM g k hlt
    rw [he, he2] at hs3
    have hs2 := (bG.1 (cR.1 (aj.1 HT.out).2.2.2 k hlt)).1
    rw [he2] at hs2
    have hss : s.size ≤ 1048576 := by omega
    have HP := GR (show fG g[k] = s ++ mark t ++ t by unfold fG; rw [he, he2])
    have HMS := GR (qS t hs2)
    have hm1 := tq t
    have hsl : ∀ w, (Instr.slice 9 (.string ⟨#[46, 62, 63]⟩) (some (.int .i64 t.size)) (some (.int .i64 (t.size + 1))) none).run Tryz.prog w = .ok (.string (mark t)) w := fun w => by
     have h3 : (⟨#[46, 62, 63]⟩ : ByteArray).size = 3 := rfl
     have := run_slice_string (P := Tryz.prog) w 9 ⟨#[46, 62, 63]⟩ .i64 .i64 (t.size : Int) (t.size + 1 : Int) Tryz.underlying9 (by omega) (by omega) (by rw [h3]; omega)
     rw [this]
     have e1 : ((t.size : Int)).toNat = t.size := by omega
     have e2 : ((t.size : Int) + 1).toNat = t.size + 1 := by omega
     rw [e1, e2, qS t hs2]
    have HTK := GR (g9 g k hlt)
    clear he he2 hs3
    by_cases h0 : 0 < k
    ·have HF : Hid (gz (g.take (k + 1)) = m ++ ⟨#[44]⟩ ++ (s ++ mark t ++ t)) := by
      show gz (g.take (k + 1)) = m ++ ⟨#[44]⟩ ++ (s ++ mark t ++ t)
      rw [HTK.out, BK (by simp; omega), HP.out, HM.out]
     go_wp2_with fail
     go_quiet (fail)
     go_wp2_with fail
     go_roundw
     case rel => exact ⟨k + 1, by omega, by go_num, by rw [HF.out, ← dh, ← dh], af (hB.alloc hB.size _) (ab _ nq)⟩
     case measure => simp [intOf]; omega
    ·have HF : Hid (gz (g.take (k + 1)) = m ++ (s ++ mark t ++ t)) := by
      show gz (g.take (k + 1)) = m ++ (s ++ mark t ++ t)
      have hk0 : k = 0 := by omega
      rw [HTK.out, HM.out]
      subst hk0
      rw [List.take_zero, List.nil_append, Dx, HP.out, Dy, fK]
     go_wp2_with fail
     go_quiet (fail)
     go_wp2_with fail
     go_roundw
     case rel => exact ⟨k + 1, by omega, by go_num, by rw [HF.out, ← dh, ← dh], af (hB.alloc hB.size _) (ab _ nq)⟩
     case measure => simp [intOf]; omega
   ·have HE := GR (show m = gC g by rw [HV.out, HM.out, List.take_of_length_le (by omega)])
    go_wp2_with fail
    go_ret
    exact ⟨cO HE.out, hB⟩
 ·have hv' : aa g = false := by simpa using hv
  have HV := GR (BJ hv')
  rw [hv'] at hc
  have HC := GR hc
  clear hv hv' hc
  go_enter Tryz.func172, Tryz.ntmps172
  go_wp2_with fail
  refine HC.out.mono ?_
  rintro e w1 ⟨rfl, b1⟩
  go_wp2_with fail
  go_ret
  exact ⟨cO HV.out.symm, b1⟩
end Go.Proofs.YtlkfakdghjaoaaaGreatDoor
namespace Go.Proofs.YtlkfakdghjaoaaaGreatDoor
open Go.RowKit Go.Sort
end Go.Proofs.YtlkfakdghjaoaaaGreatDoor

set_option maxRecDepth 100000
set_option maxHeartbeats 1600000
namespace Go.Proofs.YtlkfakdghjaoaaaGreatDoor
open Go.RowKit Go.Sort
def kn (ns : List (Nat × ByteArray)) (q : Nat) : Int :=
 match ns.findIdx? (fun x => decide (x.1 = q)) with
 | some i => i
 | none => -1
theorem BS {ns : List (Nat × ByteArray)} {q k : Nat} (h : k < ns.length) (hk : ns[k].1 = q) (hb : ∀ j (h' : j < ns.length), j < k → ns[j].1 ≠ q) : kn ns q = k := by
 unfold kn
 have : ns.findIdx? (fun x => decide (x.1 = q)) = some k := by
  rw [List.findIdx?_eq_some_iff_getElem]
  exact ⟨h, by simpa using hk, fun j hj => by simpa using hb j (by omega) hj⟩
 rw [this]
theorem tD {ns : List (Nat × ByteArray)} {q : Nat} (hb : ∀ j (h' : j < ns.length), ns[j].1 ≠ q) : kn ns q = -1 := by
 unfold kn
 have : ns.findIdx? (fun x => decide (x.1 = q)) = none := by
  rw [List.findIdx?_eq_none_iff]
  intro x hx
  obtain ⟨j, hj, rfl⟩ := List.getElem_of_mem hx
  simpa using hb j hj
 rw [this]
theorem DD {ns : List (Nat × ByteArray)} {q : Nat} : 0 ≤ kn ns q ↔ ∃ j, ∃ h : j < ns.length, ns[j].1 = q := by
 constructor
 ·intro h
  by_cases hc : ∃ j, ∃ h : j < ns.length, ns[j].1 = q
  ·exact hc
  ·rw [tD (fun j hj e => hc ⟨j, hj, e⟩)] at h; omega
 ·rintro ⟨j, hj, e⟩
  unfold kn
  cases hf : ns.findIdx? (fun x => decide (x.1 = q)) with
  | some i => simp
  | none =>
   rw [List.findIdx?_eq_none_iff] at hf
   have := hf ns[j] (List.getElem_mem hj)
   simp [e] at this
def zW (NB : Nat) (g : List Bl) (ns : List (Nat × ByteArray)) : Prop := ∀ k (h : k < ns.length), ∃ i, i < g.length ∧ ns[k].1 = nb NB i
theorem nY : (Tryz.prog.info? 101).map (·.size) = some 3 := by kernel_rfl
theorem BT (A : Option Addr) (cap : Nat) (ns : List (Nat × ByteArray)) (NB : Nat) (g : List Bl) (E : Nat → Value) (i0 : Nat) (w : World) (hp : Pts w A ns) (hn : ns.length ≤ 1048576) (hN : Nodes w NB g E) (ha : zW NB g ns) (hi0 : i0 < g.length) :
  Calls Tryz.prog 120 #[.slice A ns.length cap, ag NB i0] w fun e w' => e = .returned (.int .i64 (kn ns (nb NB i0))) ∧ w = w' := by
 obtain ⟨jt, hjt, hjs⟩ := Option.map_eq_some_iff.1 nY
 have HI := GR hi0
 have HN := GR hN
 have HA := GR ha
 have HP := GR hp
 clear hN ha hp
 go_enter Tryz.func120, Tryz.ntmps120
 go_wp2_with fail
 go_loop [8] (fun i => ∃ k : Nat, k ≤ ns.length ∧ i = .int .i64 k ∧ Hid (∀ j (h : j < ns.length), j < k → ns[j].1 ≠ nb NB i0)) (fun i => ns.length - (intOf i).toNat)
 case atStart => exact ⟨0, Nat.zero_le _, rfl, fun j _ h => absurd h (by omega)⟩
 case round =>
  obtain ⟨k, hk, rfl, HK⟩ := hrel
  by_cases hlt : k < ns.length
  ·obtain ⟨b, off, rfl, hb, hc⟩ := HP.out (by omega)
   have x0 := (hc k hlt).1
   obtain ⟨p, hpl, hpe⟩ := HA.out k hlt
   rw [hpe] at x0
   have HPE := GR hpe
   clear hpe hc
   by_cases hq : p = i0
   ·subst hq
    have HPX := GR (show kn ns (nb NB p) = k from BS hlt HPE.out HK.out)
    have heq := fun w => run_eql_ptr_same (P := Tryz.prog) w ⟨nb NB p, 0, none⟩ Tryz.underlying95 hjt
    go_wp2_with fail
    go_ret
    exact ⟨bz HPX.out.symm, rfl⟩
   ·have HQ := GR hq
    have heq := run_eql_ptr_other (P := Tryz.prog) w (a := ⟨nb NB i0, 0, none⟩) (b := ⟨nb NB p, 0, none⟩) Tryz.underlying95 hjt (by rw [hjs]; decide) (by intro e; injection e with e1 _; unfold nb at e1; omega) (HN.out.node i0 HI.out) (HN.out.node p hpl)
    clear hq
    go_wp2_with fail
    go_round
    case rel =>
     refine ⟨k + 1, by omega, by go_num, fun j h hj => ?_⟩
     rcases Nat.lt_succ_iff_lt_or_eq.1 hj with hj | rfl
     ·exact HK.out j h hj
     ·rw [HPE.out]; intro e; have := HQ.out; unfold nb at e; omega
    case measure => simp [intOf]; omega
  ·have HPX := GR (show kn ns (nb NB i0) = -1 from tD fun j h => HK.out j h (by omega))
   go_wp2_with fail
   go_ret
   exact ⟨bz HPX.out.symm, rfl⟩
theorem vO (A : Option Addr) (cap : Nat) (ns : List (Nat × ByteArray)) (NB : Nat) (g : List Bl) (E : Nat → Value) (i0 : Nat) (w : World) (hp : Pts w A ns) (hn : ns.length ≤ 1048576) (hN : Nodes w NB g E) (ha : zW NB g ns) (hi0 : i0 < g.length) :
  Calls Tryz.prog 73 #[.slice A ns.length cap, ag NB i0] w fun e w' => e = .returned (.bool (decide (0 ≤ kn ns (nb NB i0)))) ∧ w = w' := by
 have HC := GR (BT A cap ns NB g E i0 w hp hn hN ha hi0)
 clear hp hN ha
 go_enter Tryz.func73, Tryz.ntmps73
 go_wp2_with fail
 refine HC.out.mono ?_
 rintro e w1 ⟨rfl, rfl⟩
 go_wp2_with fail
 go_ret
 exact ⟨rfl, rfl⟩
theorem mI {NB : Nat} {g : List Bl} (hv : aa g = true) {k : Nat} (hk : k < g.length) {j : Nat} (hj : j < g[k].2.size) :
  ∃ p, ∃ hp : p < g.length, aP g ⟨#[g[k].2[j]'hj]⟩ = some p ∧ (dR NB g g[k].2)[j]? = some (nb NB p, ⟨#[g[k].2[j]'hj]⟩) ∧ g[p].1 = ⟨#[g[k].2[j]'hj]⟩ := by
 have h2 := (bG.1 (cR.1 (aj.1 hv).2.2.2 k hk)).1
 obtain ⟨p, hp, hpos, hname⟩ := d8 hv hk hj
 refine ⟨p, hp, hpos, ?_, hname⟩
 by_cases e1 : g[k].2.size = 1
 ·have hj0 : j = 0 := by omega
  subst hj0
  have hb := mH e1
  unfold dR
  rw [if_pos e1]
  rw [← hb] at hpos ⊢
  rw [hpos]; rfl
 ·have e2 : g[k].2.size = 2 := by omega
  unfold dR
  rw [if_neg e1, if_pos e2]
  have hj01 : j = 0 ∨ j = 1 := by omega
  rcases hj01 with rfl | rfl
  ·rw [d9 g[k].2 (a := 0) (b := 1) (by omega) (by omega) rfl, hpos]; rfl
  ·rw [d9 g[k].2 (a := 1) (b := g[k].2.size) (by omega) (by omega) (by omega), hpos]; rfl
theorem zX {NB : Nat} {g : List Bl} (hv : aa g = true) {k : Nat} (hk : k < g.length) : zW NB g (dR NB g g[k].2) := by
 intro j hj
 have h2 := (bG.1 (cR.1 (aj.1 hv).2.2.2 k hk)).1
 rw [ft NB g h2] at hj
 obtain ⟨p, hp, _, hget, _⟩ := mI (NB := NB) hv hk hj
 obtain ⟨_, he⟩ := List.getElem?_eq_some_iff.1 hget
 exact ⟨p, hp, by rw [he]⟩
def eS (s next : ByteArray) : Bool := decide (0 ≤ Lib.indexByte next.data.toList (s.data.toList.getD 0 0))
theorem DE {NB : Nat} {g : List Bl} (hv : aa g = true) {k : Nat} (hk : k < g.length) {s : ByteArray} {i0 : Nat} (hs : aP g s = some i0) :
  decide (0 ≤ kn (dR NB g g[k].2) (nb NB i0)) = eS s g[k].2 := by
 obtain ⟨hi0, hn0⟩ := pV hs
 obtain ⟨d, hd, _⟩ := a8 hv (List.getElem_mem hi0)
 rw [hn0] at hd
 have h2 := (bG.1 (cR.1 (aj.1 hv).2.2.2 k hk)).1
 unfold eS
 apply decide_eq_decide.2
 rw [eT, DD]
 have ed : s.data.toList.getD 0 0 = d := by rw [hd]; rfl
 rw [ed]
 constructor
 ·rintro ⟨j, hj, e⟩
  have hj' : j < g[k].2.size := by rwa [ft NB g h2] at hj
  obtain ⟨p, hp, hpos, hget, hname⟩ := mI (NB := NB) hv hk hj'
  obtain ⟨_, he⟩ := List.getElem?_eq_some_iff.1 hget
  rw [he] at e
  have hpi : p = i0 := by have : nb NB p = nb NB i0 := e; unfold nb at this; omega
  subst hpi
  rw [hn0, hd] at hname
  have : g[k].2[j]'hj' = d := by injection hname with h; simpa using h.symm
  rw [← this]
  exact List.mem_of_getElem? (aF g[k].2 j hj')
 ·intro hm
  obtain ⟨j, hj, e⟩ := List.getElem_of_mem hm
  have hj' : j < g[k].2.size := by simpa using hj
  have hb : g[k].2[j]'hj' = d := by
   have h1 := aF g[k].2 j hj'
   rw [List.getElem?_eq_getElem hj, e] at h1
   exact (Option.some.inj h1).symm
  obtain ⟨p, hp, hpos, hget, hname⟩ := mI (NB := NB) hv hk hj'
  rw [hb, ← hd, hs] at hpos
  obtain rfl := Option.some.inj hpos
  obtain ⟨hl, he⟩ := List.getElem?_eq_some_iff.1 hget
  exact ⟨j, hl, by rw [he]⟩
def dZ (NB : Nat) (g : List Bl) (s : ByteArray) (k : Nat) : List (Nat × ByteArray) := ((List.range k).filter fun i => eS s (jQ g i)).map fun i => (nb NB i, ay g i)
theorem tE {NB : Nat} {g : List Bl} {s : ByteArray} {k : Nat} (hk : k < g.length) (h : eS s g[k].2 = true) : dZ NB g s (k + 1) = dZ NB g s k ++ [(nb NB k, g[k].1)] := by
 unfold dZ
 rw [List.range_succ, List.filter_append, List.map_append]
 simp [eE hk, h, al hk]
theorem vP {NB : Nat} {g : List Bl} {s : ByteArray} {k : Nat} (hk : k < g.length) (h : eS s g[k].2 = false) : dZ NB g s (k + 1) = dZ NB g s k := by
 unfold dZ
 rw [List.range_succ, List.filter_append, List.map_append]
 simp [eE hk, h]
def fM (g : List Bl) (s : ByteArray) : ByteArray := names (g.filter fun b => eS s b.2)
theorem tF {g : List Bl} {s : ByteArray} {k : Nat} (hk : k < g.length) (h : eS s g[k].2 = true) : fM (g.take (k + 1)) s = fM (g.take k) s ++ g[k].1 := by
 unfold fM
 rw [g9 g k hk, List.filter_append, jU]
 simp only [List.filter_cons, h, if_true, List.filter_nil, names, cC]
theorem vQ {g : List Bl} {s : ByteArray} {k : Nat} (hk : k < g.length) (h : eS s g[k].2 = false) : fM (g.take (k + 1)) s = fM (g.take k) s := by
 unfold fM
 rw [g9 g k hk, List.filter_append, jU]
 simp only [List.filter_cons, h, Bool.false_eq_true, if_false, List.filter_nil, names, cC]
theorem ko (NB : Nat) (g : List Bl) (s : ByteArray) : ∀ k, k ≤ g.length → cn (dZ NB g s k) = fM (g.take k) s
 | 0, _ => rfl
 | k + 1, h => by
  have ih := ko NB g s k (by omega)
  have hk : k < g.length := by omega
  by_cases hg : eS s g[k].2 = true
  ·rw [tE hk hg, tF hk hg, jr, ih]; simp only [cn, cC]
  ·have hg' : eS s g[k].2 = false := by simpa using hg
   rw [vP hk hg', vQ hk hg', ih]
theorem nZ (NB : Nat) (g : List Bl) (s : ByteArray) (k : Nat) : (dZ NB g s k).length ≤ k := by
 unfold dZ
 rw [List.length_map]
 exact Nat.le_trans (List.length_filter_le _ _) (by simp)
theorem zY {NB : Nat} {g : List Bl} {s : ByteArray} {k : Nat} (hk : k ≤ g.length) {j : Nat} (hj : j < (dZ NB g s k).length) : ∃ i, ∃ h : i < g.length, (dZ NB g s k)[j] = (nb NB i, g[i].1) := by
 have hm := List.getElem_mem hj
 unfold dZ at hm
 obtain ⟨i, hi, e⟩ := List.mem_map.1 hm
 have hi' : i < g.length := by have := List.mem_range.1 (List.mem_filter.1 hi).1; omega
 refine ⟨i, hi', ?_⟩
 rw [al hi'] at e
 exact e.symm
theorem ut (g : List Bl) (s : ByteArray) : (fM g s).size ≤ aO g := by
 unfold fM
 induction g with
 | nil => exact Nat.le_refl 0
 | cons b g ih =>
  by_cases h : eS s b.2 = true
  ·simp only [List.filter_cons, h, if_true, names, aO, ByteArray.size_append]; omega
  ·have h' : eS s b.2 = false := by simpa using h
   simp only [List.filter_cons, h', Bool.false_eq_true, if_false, aO]; omega
def zZ (x : Nat × ByteArray) : Value := .pointer (some ⟨x.1, 0, none⟩)
theorem aW {w w' : World} {base : Nat} {e : TypeId} {v : Value} {n : Nat} {xs : List Value} (h : w.ownsRow base e 1 v n xs) (hb : Below w.heap.size w w') : w'.ownsRow base e 1 v n xs := by
 refine ⟨h.1, ?_⟩
 rcases h.2 with hn | ⟨g, cap, cur, hv, hb2, hg, rest⟩
 ·exact .inl hn
 ·refine .inr ⟨g, cap, cur, hv, hb2, ?_, rest⟩
  have hlt : g < w.heap.size := by
   rcases Nat.lt_or_ge g w.heap.size with h' | h'
   ·exact h'
   ·rw [Array.getElem?_eq_none h'] at hg; cases hg
  exact (hb.block g hlt).trans hg
theorem EP {w : World} {base NB : Nat} {g : List Bl} {E : Nat → Value} {v : Value} {ns : List (Nat × ByteArray)} (h : w.ownsRow base 95 1 v ns.length (ns.map zZ)) (hN : Nodes w NB g E)
  (hns : ∀ j (hj : j < ns.length), ∃ i, ∃ h : i < g.length, ns[j] = (nb NB i, g[i].1)) : ∃ A cap, v = .slice A ns.length cap ∧ Pts w A ns := by
 rcases h.2 with ⟨rfl, hn⟩ | ⟨gb, cap, cur, hv, _, hg, _⟩
 ·exact ⟨none, 0, by rw [hn], fun hpos => absurd hpos (by omega)⟩
 ·subst hv
  refine ⟨_, _, rfl, fun _ => ⟨gb, 0, rfl, ?_, fun j hj => ?_⟩⟩
  ·rcases Nat.lt_or_ge gb w.heap.size with h' | h'
   ·exact h'
   ·rw [Array.getElem?_eq_none h'] at hg; cases hg
  ·obtain ⟨i, hi, e⟩ := hns j hj
   have hc := h.cellAt j (by omega)
   rw [List.getElem?_map, List.getElem?_eq_getElem hj] at hc
   rw [Nat.zero_add]
   obtain ⟨q1, q2⟩ := hN.at_ hi
   rw [e] at hc ⊢
   exact ⟨hc, q1, q2⟩
def gt (g : List Bl) (s : ByteArray) : ByteArray := if aa g then (match aP g s with | some _ => fM g s | none => ⟨#[]⟩) else ⟨#[]⟩
theorem z6 {g : List Bl} {s : ByteArray} (h : aa g = false) : gt g s = ⟨#[]⟩ := by unfold gt; rw [h]; rfl
theorem vR {g : List Bl} {s : ByteArray} (hp : aP g s = none) : gt g s = ⟨#[]⟩ := by unfold gt; rw [hp]; split <;> rfl
theorem n3 {g : List Bl} {s : ByteArray} {i : Nat} (h : aa g = true) (hp : aP g s = some i) : gt g s = fM g s := by unfold gt; rw [if_pos h, hp]
theorem vS (A : Option Addr) (cap : Nat) (g : List Bl) (s : ByteArray) (w : World) (hg : Gr w A g) (hn : g.length + aO g ≤ 1048576) :
  Calls Tryz.prog 31 #[.slice A g.length cap, .string s] w fun e w' => e = .returned (.tuple #[.string (gt g s), .bool (iI g s)]) ∧ Below w.heap.size w w' := by
 by_cases hv : aa g = true
 ·have HC := GR (iV A cap g w hg hn hv)
  have h26 := (aj.1 hv).2.1
  cases hp : aP g s with
  | none =>
   have H1 := GR (vR (g := g) hp)
   have H2 := GR (vK (g := g) hp)
   have HP := GR hp
   clear hp hv
   go_enter Tryz.func31, Tryz.ntmps31
   go_wp2_with fail
   refine HC.out.mono ?_
   rintro e w1 ⟨NB, hle, rfl, hN, b1⟩
   have hx := jc NB g _ g.length s w1 hN h26
   rw [HP.out] at hx
   have HX : Hid (Calls Tryz.prog 72 #[.slice (some ⟨NB, 0, none⟩) g.length g.length, .string s] w1 fun e w' => e = .returned (.pointer none) ∧ w1 = w') := hx
   clear hx hN
   go_wp2_with fail
   refine HX.out.mono ?_
   rintro e w2 ⟨rfl, rfl⟩
   go_wp2_with fail
   go_ret2
   exact ⟨qU H1.out.symm H2.out.symm, b1⟩
  | some i0 =>
   obtain ⟨hi0, _⟩ := pV hp
   have H1 := GR (n3 hv hp)
   have H2 := GR (vL hv hp)
   have HP := GR hp
   have HT := GR hv
   obtain ⟨ip, hip, hz0, hz1, hz2⟩ := info_parts f7
   clear hp hv
   go_enter Tryz.func31, Tryz.ntmps31
   go_wp2_with fail
   refine HC.out.mono ?_
   rintro e w1 ⟨NB, hle, rfl, hN, b1⟩
   have hx := jc NB g _ g.length s w1 hN h26
   rw [HP.out] at hx
   have HX : Hid (Calls Tryz.prog 72 #[.slice (some ⟨NB, 0, none⟩) g.length g.length, .string s] w1 fun e w' => e = .returned (ag NB i0) ∧ w1 = w') := hx
   have HN := GR hN
   clear hx hN
   go_wp2_with fail
   refine HX.out.mono ?_
   rintro e w2 ⟨rfl, rfl⟩
   go_wp2_with fail
   go_loopw [9, 24] (fun v i wr => ∃ k : Nat, k ≤ g.length ∧ i = .int .i64 k ∧ wr.ownsRow w1.heap.size 95 1 v (dZ NB g s k).length ((dZ NB g s k).map zZ) ∧ Below w1.heap.size w1 wr) (fun _ i _ => g.length - (intOf i).toNat)
   case atStart => exact ⟨0, Nat.zero_le _, rfl, World.ownsRow_nil _ _ _ _, Below.refl _ _⟩
   case round =>
    obtain ⟨k, hk, rfl, hown, hB⟩ := hrel
    by_cases hlt : k < g.length
    ·have hN := HN.out.below hB
     have x0 := hN.ptr hlt
     have x2 := (hN.node k hlt).cell 2
     obtain ⟨T, v, F, hd⟩ := GK (NB := NB) HT.out hlt
     have hE : ends NB g k = .iface T v := by unfold ends; rw [eE hlt]; exact hd.val
     rw [hE] at x2
     have hlook := hd.look
     have hent := hd.enter
     have HD := GR hd.goes
     have HS2 := GR (bG.1 (cR.1 (aj.1 HT.out).2.2.2 k hlt)).1
     have HNN := GR hN
     have HOWN := GR hown
     have HLEN := GR (nZ NB g s k)
     clear hE hd hN hown
     go_wp2_with fail
     refine (HD.out _ _ HNN.out).mono ?_
     rintro e w3 ⟨A3, rfl, hp3, b3⟩
     have hct := vO A3 g[k].2.size (dR NB g g[k].2) NB g _ i0 w3 hp3 (by rw [ft NB g HS2.out]; have := HS2.out; omega) (HNN.out.below b3) (zX HT.out hlt) hi0
     rw [DE HT.out hlt HP.out, ft NB g HS2.out] at hct
     have hown3 := aW HOWN.out b3
     have hB3 := hB.trans (b3.mono hB.size)
     clear hlook hent hp3
     by_cases hgo : eS s g[k].2 = true
     ·rw [hgo] at hct
      have HCT := GR hct
      have HY := GR (tE (NB := NB) hlt hgo)
      have HOWN3 := GR hown3
      have hsz3 := hB3.size
      clear hct hgo hown3
      go_wp2_with fail
      refine HCT.out.mono ?_
      rintro e w4 ⟨rfl, rfl⟩
      go_wp2_with (at_builtin; refine wpList_append_own _ rfl _ _ 58 rfl w1.heap.size 95 ip (.pointer none) 1 8 Tryz.underlying58 hip hz0 hz1 hz2 rfl (by decide) _ _ _ rfl (HOWN3.out.alloc _) ⟨w3.heap.size, 0, none⟩ 1 1 [ag NB k] rfl rfl ?c1 ?c2 ?c3 ?c4 ?c5 ?_)
      case c1 =>
       intro j u hj
       match j, hj with
       | 0, hj =>
        have hu : ag NB k = u := by simpa using hj
        rw [← hu]
        simp [Addr.add]
      case c2 => intro u hu; have hu' : u = ag NB k := by simpa using hu
                 subst hu'; rfl
      case c3 => have := HLEN.out; unfold maxLen; omega
      case c4 => have := HLEN.out; omega
      case c5 => simp; omega
      intro v' w5 hown' hgrow _
      have hsz := (HOWN3.out.alloc (.cells #[ag NB k] 95)).lt
      have hB5 := (hB3.alloc hsz3 (.cells #[ag NB k] 95)).grown hgrow (by simp; omega) (fun j hj => (hsz j hj).1)
      have HO5 : Hid (w5.ownsRow w1.heap.size 95 1 v' (dZ NB g s (k + 1)).length ((dZ NB g s (k + 1)).map zZ)) := by
       show w5.ownsRow w1.heap.size 95 1 v' (dZ NB g s (k + 1)).length ((dZ NB g s (k + 1)).map zZ)
       rw [HY.out, List.length_append, List.map_append]; exact hown'
      clear hown' hsz hgrow
      go_wp2_with fail
      go_roundw
      case rel => exact ⟨k + 1, by omega, by go_num, HO5.out, hB5⟩
      case measure => simp [intOf]; omega
     ·have hgo' : eS s g[k].2 = false := by simpa using hgo
      rw [hgo'] at hct
      have HCT := GR hct
      have HY := GR (vP (NB := NB) hlt hgo')
      have HOWN3 := GR hown3
      clear hct hgo hgo' hown3
      go_wp2_with fail
      refine HCT.out.mono ?_
      rintro e w4 ⟨rfl, rfl⟩
      go_wp2_with fail
      go_roundw
      case rel => exact ⟨k + 1, by omega, by go_num, by rw [HY.out]; exact HOWN3.out, hB3⟩
      case measure => simp [intOf]; omega
    ·have hkk : k = g.length := by omega
     obtain ⟨A5, cap5, hv5, hp5⟩ := EP hown (HN.out.below hB) (fun j hj => zY hk hj)
     have hjn := mG A5 cap5 (dZ NB g s k) wr hp5 (by have := nZ NB g s k; omega) (by
      rw [ko NB g s k hk]
      have h1 := ut (g.take k) s
      have h2 := eJ g k
      omega)
     rw [ko NB g s k hk, hkk, List.take_length] at hjn
     rw [hkk] at hv5
     have HJ := GR hjn
     rw [hv5]
     clear hjn hown hp5 hkk hv5
     go_wp2_with fail
     refine HJ.out.mono ?_
     rintro e w6 ⟨rfl, b6⟩
     go_wp2_with fail
     go_ret2
     exact ⟨qU H1.out.symm H2.out.symm, af (b1.trans (hB.mono b1.size)) b6⟩
 ·have hv' : aa g = false := by simpa using hv
  have HC := GR (mF A cap g w hg hn hv')
  have H1 := GR (z6 (s := s) hv')
  have H2 := GR (zS (s := s) hv')
  clear hv hv'
  go_enter Tryz.func31, Tryz.ntmps31
  go_wp2_with fail
  refine HC.out.mono ?_
  rintro e w1 ⟨rfl, b1⟩
  go_wp2_with fail
  refine (BL s w1 none 0).mono ?_
  rintro e w2 ⟨rfl, rfl⟩
  go_wp2_with fail
  go_ret2
  exact ⟨qU H1.out.symm H2.out.symm, b1⟩
end Go.Proofs.YtlkfakdghjaoaaaGreatDoor

namespace Go.Proofs.YtlkfakdghjaoaaaGreatDoor
open Go.RowKit Go.Sort
def ai (g : List Bl) (i : Nat) : List Nat := (jQ g i).data.toList.map fun c => (aP g ⟨#[c]⟩).getD 0
inductive Goes (g : List Bl) (i : Nat) (s : ByteArray) : Prop where
 | stop (h : ai g i = []) (hs : s.size = 0) : Goes g i s
 | jump (p : Nat) (hp : p < g.length) (h : ai g i = [p]) (hs : s.size = 1) (ho : aP g s = some p) (hn : g[p].1 = s) : Goes g i s
 | branch (p q : Nat) (hp : p < g.length) (hq : q < g.length) (h : ai g i = [p, q]) (hs : s.size = 2)
   (ho : aP g (s.extract 0 1) = some p) (hn : g[p].1 = s.extract 0 1) (ho' : aP g (s.extract 1 s.size) = some q) (hn' : g[q].1 = s.extract 1 s.size) (hne : p ≠ q) : Goes g i s
theorem dm {s : ByteArray} : s.data.toList.length = s.size := by rw [Array.length_toList]; rfl
theorem goes {g : List Bl} (hv : aa g = true) {i : Nat} (hi : i < g.length) : Goes g i g[i].2 := by
 have h2 := bG.1 (cR.1 (aj.1 hv).2.2.2 i hi)
 have hl := dm (s := g[i].2)
 have en : ai g i = g[i].2.data.toList.map fun c => (aP g ⟨#[c]⟩).getD 0 := by unfold ai; rw [eE hi]
 by_cases e1 : g[i].2.size = 1
 ·obtain ⟨p, hp, hpos, hs⟩ := d8 hv hi (j := 0) (by omega)
  have hb := mH e1
  refine .jump p hp ?_ e1 (by rw [hb]; exact hpos) (by rw [hb]; exact hs)
  rw [en]
  obtain ⟨c, hc⟩ := List.length_eq_one_iff.1 (hl.trans e1)
  have h0 := aF g[i].2 0 (by omega)
  rw [hc] at h0 ⊢
  have h0' : c = g[i].2[0]'(by omega) := by simpa using h0
  simp only [List.map_cons, List.map_nil]
  rw [h0', hpos]; rfl
 ·by_cases e2 : g[i].2.size = 2
  ·obtain ⟨p, hp, hpos, hs⟩ := d8 hv hi (j := 0) (by omega)
   obtain ⟨q, hq, hpos', hs'⟩ := d8 hv hi (j := 1) (by omega)
   have x0 := d9 g[i].2 (a := 0) (b := 1) (by omega) (by omega) rfl
   have x1 := d9 g[i].2 (a := 1) (b := g[i].2.size) (by omega) (by omega) (by omega)
   refine .branch p q hp hq ?_ e2 (by rw [x0]; exact hpos) (by rw [x0]; exact hs) (by rw [x1]; exact hpos') (by rw [x1]; exact hs') ?_
   ·rw [en]
    have hl2 := hl.trans e2
    have h0 := aF g[i].2 0 (by omega)
    have h1 := aF g[i].2 1 (by omega)
    match hm : g[i].2.data.toList, hl2 with
    | [a, b], _ =>
     rw [hm] at h0 h1
     have h0' : a = g[i].2[0]'(by omega) := by simpa using h0
     have h1' : b = g[i].2[1]'(by omega) := by simpa using h1
     simp only [List.map_cons, List.map_nil]
     rw [h0', hpos, h1', hpos']; rfl
   ·intro e
    subst e
    rw [hs] at hs'
    exact h2.2.2 e2 (by simpa using hs')
  ·have e0 : g[i].2.size = 0 := by have := h2.1; omega
   refine .stop ?_ e0
   rw [en, List.eq_nil_of_length_eq_zero (hl.trans e0)]; rfl
theorem bP {g : List Bl} (hv : aa g = true) {i : Nat} (hi : i < g.length) {t : Nat} (ht : t ∈ ai g i) : t < g.length := by
 rcases goes hv hi with ⟨h, _⟩ | ⟨p, hp, h, _⟩ | ⟨p, q, hp, hq, h, _⟩
 ·rw [h] at ht; simp at ht
 ·rw [h] at ht; simp at ht; omega
 ·rw [h] at ht; simp at ht; omega
theorem sg {NB : Nat} {g : List Bl} {i : Nat} (hi : i < g.length) (h : Goes g i g[i].2) :
  (ai g i = [] ∧ ends NB g i = .iface 230 (.agg #[])) ∨
  (∃ p, p < g.length ∧ ai g i = [p] ∧ ends NB g i = .iface 191 (.agg #[ag NB p])) ∨
  (∃ p q, p < g.length ∧ q < g.length ∧ ai g i = [p, q] ∧ ends NB g i = .iface 193 (.agg #[ag NB p, ag NB q])) := by
 unfold ends fH
 rw [eE hi]
 rcases h with ⟨h, hs⟩ | ⟨p, hp, h, hs, ho, _⟩ | ⟨p, q, hp, hq, h, hs, ho, _, ho', _, _⟩
 ·refine .inl ⟨h, ?_⟩
  rw [if_neg (by omega), if_neg (by omega)]
 ·refine .inr (.inl ⟨p, hp, h, ?_⟩)
  rw [if_pos hs, ho]; rfl
 ·refine .inr (.inr ⟨p, q, hp, hq, h, ?_⟩)
  rw [if_neg (by omega), if_pos hs, ho, ho']; rfl
def bQ (g : List Bl) : Nat → Nat → List UInt8 → List (Nat × Nat)
 | 0, _, _ => []
 | m + 1, i, left =>
  match ai g i with
  | [] => [(i, 0)]
  | [j] => (i, 2) :: bQ g m j left
  | j :: k :: _ =>
   match left with
   | [] => [(i, 1)]
   | c :: l => (i, 2) :: bQ g m (if c = 108 then j else k) l
theorem kN {g : List Bl} {m i : Nat} {left : List UInt8} (h : ai g i = []) : bQ g (m + 1) i left = [(i, 0)] := by simp only [bQ, h]
theorem jd {g : List Bl} {m i j : Nat} {left : List UInt8} (h : ai g i = [j]) : bQ g (m + 1) i left = (i, 2) :: bQ g m j left := by simp only [bQ, h]
theorem DO {g : List Bl} {m i j k : Nat} (h : ai g i = [j, k]) : bQ g (m + 1) i [] = [(i, 1)] := by simp only [bQ, h]
theorem E0 {g : List Bl} {m i j k : Nat} {c : UInt8} {l : List UInt8} (h : ai g i = [j, k]) : bQ g (m + 1) i (c :: l) = (i, 2) :: bQ g m (if c = 108 then j else k) l := by simp only [bQ, h]
theorem yG (g : List Bl) : ∀ (m i : Nat) (left : List UInt8), (bQ g m i left).length ≤ m
 | 0, _, _ => Nat.le_refl 0
 | m + 1, i, left => by
  have ih := yG g m
  unfold bQ
  split
  ·simp
  ·simp [ih]
  ·split
   ·simp
   ·simp [ih]
theorem sh {g : List Bl} (hv : aa g = true) : ∀ (m i : Nat) (left : List UInt8), i < g.length → ∀ x ∈ bQ g m i left, x.1 < g.length
 | 0, _, _, _, x, hx => by simp [bQ] at hx
 | m + 1, i, left, hi, x, hx => by
  have ih := sh hv m
  unfold bQ at hx
  split at hx
  ·simp at hx; subst hx; exact hi
  ·rename_i j hj
   rcases List.mem_cons.1 hx with rfl | hx
   ·exact hi
   ·exact ih _ _ (bP hv hi (by rw [hj]; simp)) x hx
  ·rename_i j k r hj
   split at hx
   ·simp at hx; subst hx; exact hi
   ·rcases List.mem_cons.1 hx with rfl | hx
    ·exact hi
    ·refine ih _ _ ?_ x hx
     split
     ·exact bP hv hi (by rw [hj]; simp)
     ·exact bP hv hi (by rw [hj]; simp)
def fj (g : List Bl) (choices : ByteArray) : List (Nat × Nat) := bQ g 60 0 choices.data.toList
def ae (g : List Bl) : List Nat → ByteArray
 | [] => ⟨#[]⟩
 | i :: l => ay g i ++ ae g l
theorem be (g : List Bl) (a b : List Nat) : ae g (a ++ b) = ae g a ++ ae g b := by
 induction a with
 | nil => exact (fK _).symm
 | cons n a ih => simp only [List.cons_append, ae, ih, dh]
theorem bp (g : List Bl) (i : Nat) : ae g [i] = ay g i := cC _
theorem ax {g : List Bl} (hv : aa g = true) : ∀ (l : List Nat), (∀ i ∈ l, i < g.length) → (ae g l).size = l.length
 | [], _ => rfl
 | i :: l, h => by
  have hi := h i (by simp)
  obtain ⟨c, hc, _⟩ := a8 hv (List.getElem_mem hi)
  have ih := ax hv l (fun j hj => h j (by simp [hj]))
  rw [ae, ByteArray.size_append, ih, al hi, hc]
  show 1 + l.length = l.length + 1
  omega
def lN (g : List Bl) (choices : ByteArray) : ByteArray := ae g ((fj g choices).map (·.1))
def iM (xs : List (Nat × Nat)) : Nat := (xs.getLast?.map (·.2)).getD 0
def ri (g : List Bl) (choices : ByteArray) : Nat := iM (fj g choices)
theorem n8 (xs : List (Nat × Nat)) (x : Nat × Nat) : iM (xs ++ [x]) = x.2 := by simp [iM]
structure Going (g : List Bl) (choices : ByteArray) (pre : List (Nat × Nat)) (i : Nat) (left : List UInt8) : Prop where
 all : fj g choices = pre ++ bQ g (60 - pre.length) i left
 two : ∀ x ∈ pre, x.2 = 2
 lt : i < g.length
 rest : left <:+ choices.data.toList
theorem Going.start {g : List Bl} (hv : aa g = true) (choices : ByteArray) : Going g choices [] 0 choices.data.toList :=
 ⟨rfl, by simp, (aj.1 hv).1, List.suffix_refl _⟩
theorem Going.stop {g : List Bl} {choices : ByteArray} {pre : List (Nat × Nat)} {i : Nat} {left : List UInt8} (h : Going g choices pre i left) (hl : pre.length < 60) (hn : ai g i = []) :
  fj g choices = pre ++ [(i, 0)] := by
 obtain ⟨m, hm⟩ : ∃ m, 60 - pre.length = m + 1 := ⟨59 - pre.length, by omega⟩
 rw [h.all, hm, kN hn]
theorem Going.ask {g : List Bl} {choices : ByteArray} {pre : List (Nat × Nat)} {i j k : Nat} (h : Going g choices pre i []) (hl : pre.length < 60) (hn : ai g i = [j, k]) :
  fj g choices = pre ++ [(i, 1)] := by
 obtain ⟨m, hm⟩ : ∃ m, 60 - pre.length = m + 1 := ⟨59 - pre.length, by omega⟩
 rw [h.all, hm, DO hn]
theorem Going.jump {g : List Bl} (hv : aa g = true) {choices : ByteArray} {pre : List (Nat × Nat)} {i j : Nat} {left : List UInt8} (h : Going g choices pre i left) (hl : pre.length < 60) (hn : ai g i = [j]) :
  Going g choices (pre ++ [(i, 2)]) j left := by
 obtain ⟨m, hm⟩ : ∃ m, 60 - pre.length = m + 1 := ⟨59 - pre.length, by omega⟩
 refine ⟨?_, fun x hx => ?_, bP hv h.lt (by rw [hn]; simp), h.rest⟩
 ·rw [h.all, hm, jd hn, show 60 - (pre ++ [((i : Nat), (2 : Nat))]).length = m by simp only [List.length_append, List.length_cons, List.length_nil]; omega]; simp
 ·rcases List.mem_append.1 hx with hx | hx
  ·exact h.two x hx
  ·simp at hx; subst hx; rfl
theorem Going.go {g : List Bl} (hv : aa g = true) {choices : ByteArray} {pre : List (Nat × Nat)} {i j k : Nat} {c : UInt8} {left : List UInt8} (h : Going g choices pre i (c :: left)) (hl : pre.length < 60) (hn : ai g i = [j, k]) :
  Going g choices (pre ++ [(i, 2)]) (if c = 108 then j else k) left := by
 obtain ⟨m, hm⟩ : ∃ m, 60 - pre.length = m + 1 := ⟨59 - pre.length, by omega⟩
 refine ⟨?_, fun x hx => ?_, ?_, (List.suffix_cons c left).trans h.rest⟩
 ·rw [h.all, hm, E0 hn, show 60 - (pre ++ [((i : Nat), (2 : Nat))]).length = m by simp only [List.length_append, List.length_cons, List.length_nil]; omega]; simp
 ·rcases List.mem_append.1 hx with hx | hx
  ·exact h.two x hx
  ·simp at hx; subst hx; rfl
 ·split
  ·exact bP hv h.lt (by rw [hn]; simp)
  ·exact bP hv h.lt (by rw [hn]; simp)
theorem DP (g : List Bl) (choices : ByteArray) : (fj g choices).length ≤ 60 := yG g 60 0 _
def cw (o ts : List Nat) : List Nat := ts.foldl (fun o t => if t ∈ o then o else o ++ [t]) o
theorem B1 (o : List Nat) : cw o [] = o := rfl
theorem mK (o : List Nat) (t : Nat) (ts : List Nat) : cw o (t :: ts) = cw (if t ∈ o then o else o ++ [t]) ts := rfl
theorem rj (o : List Nat) (t : Nat) (ts : List Nat) : cw o (ts ++ [t]) = if t ∈ cw o ts then cw o ts else cw o ts ++ [t] := by
 unfold cw; rw [List.foldl_append]; rfl
theorem im (ts : List Nat) : ∀ o, o <+: cw o ts := by
 induction ts with
 | nil => intro o; exact List.prefix_refl _
 | cons t ts ih =>
  intro o
  rw [mK]
  split
  ·exact ih o
  ·exact (List.prefix_append o [t]).trans (ih _)
theorem je (ts : List Nat) : ∀ o x, x ∈ cw o ts ↔ x ∈ o ∨ x ∈ ts := by
 induction ts with
 | nil => intro o x; simp [B1]
 | cons t ts ih =>
  intro o x
  rw [mK, ih]
  split
  ·rename_i h
   constructor
   ·rintro (h1 | h1)
    ·exact .inl h1
    ·exact .inr (by simp [h1])
   ·rintro (h1 | h1)
    ·exact .inl h1
    ·rcases List.mem_cons.1 h1 with rfl | h1
     ·exact .inl h
     ·exact .inr h1
  ·rw [List.mem_append, List.mem_singleton, List.mem_cons, or_assoc]
theorem gD (ts : List Nat) : ∀ o, o.Nodup → (cw o ts).Nodup := by
 induction ts with
 | nil => intro o h; exact h
 | cons t ts ih =>
  intro o h
  rw [mK]
  split
  ·exact ih o h
  ·rename_i hn
   refine ih _ (List.nodup_append.2 ⟨h, by simp, fun a ha b hb => ?_⟩)
   simp at hb; subst hb
   intro e; subst e; exact hn ha
def bR (g : List Bl) : Nat → List Nat
 | 0 => [0]
 | k + 1 => match (bR g k)[k]? with
  | none => bR g k
  | some n => cw (bR g k) (ai g n)
theorem kq {g : List Bl} {k : Nat} (h : k < (bR g k).length) : bR g (k + 1) = cw (bR g k) (ai g (bR g k)[k]) := by
 simp only [bR, List.getElem?_eq_getElem h]
theorem kr {g : List Bl} {k : Nat} (h : (bR g k).length ≤ k) : bR g (k + 1) = bR g k := by
 simp only [bR, List.getElem?_eq_none h]
theorem jf (g : List Bl) : ∀ k, (bR g k).Nodup
 | 0 => by simp [bR]
 | k + 1 => by
  by_cases h : k < (bR g k).length
  ·rw [kq h]; exact gD _ _ (jf g k)
  ·rw [kr (by omega)]; exact jf g k
theorem kt {g : List Bl} (hv : aa g = true) : ∀ k, ∀ x ∈ bR g k, x < g.length
 | 0, x, hx => by simp [bR] at hx; subst hx; exact (aj.1 hv).1
 | k + 1, x, hx => by
  have ih := kt hv k
  by_cases h : k < (bR g k).length
  ·rw [kq h, je] at hx
   rcases hx with hx | hx
   ·exact ih x hx
   ·exact bP hv (ih _ (List.getElem_mem h)) hx
  ·rw [kr (by omega)] at hx; exact ih x hx
theorem bS : ∀ (n : Nat) (l : List Nat), l.Nodup → (∀ x ∈ l, x < n) → l.length ≤ n := by
 intro n l hn hl
 have := List.Nodup.length_le_of_subset (l₁ := l) (l₂ := List.range n) hn (fun x hx => List.mem_range.2 (hl x hx))
 simpa using this
theorem yH {g : List Bl} (hv : aa g = true) (k : Nat) : (bR g k).length ≤ g.length := bS _ _ (jf g k) (kt hv k)
theorem Ad (g : List Bl) (k : Nat) : bR g k <+: bR g (k + 1) := by
 by_cases h : k < (bR g k).length
 ·rw [kq h]; exact im _ _
 ·rw [kr (by omega)]; exact List.prefix_refl _
theorem wm {g : List Bl} {k : Nat} (h : (bR g k).length ≤ k) : ∀ m, bR g (k + m) = bR g k
 | 0 => rfl
 | m + 1 => by
  have ih := wm h m
  rw [← Nat.add_assoc, kr (by rw [ih]; omega), ih]
theorem n9 (g : List Bl) (k : Nat) : ∀ m, bR g k <+: bR g (k + m)
 | 0 => List.prefix_refl _
 | m + 1 => (n9 g k m).trans (Ad g (k + m))
def cI (g : List Bl) : List Nat := bR g g.length
theorem Ae {g : List Bl} {k : Nat} (hk : k ≤ g.length) (h : (bR g k).length ≤ k) : bR g k = cI g := by
 have := wm h (g.length - k)
 unfold cI
 rw [← this]; congr 1; omega
theorem B4 {g : List Bl} {k : Nat} (hk : k ≤ g.length) : bR g k <+: cI g := by
 have := n9 g k (g.length - k)
 unfold cI
 rwa [show k + (g.length - k) = g.length by omega] at this
theorem mL {g : List Bl} (hv : aa g = true) {x : Nat} (hx : x ∈ cI g) : x < g.length := kt hv _ x hx
theorem pm (g : List Bl) : (cI g).Nodup := jf g _
theorem B5 {g : List Bl} (hv : aa g = true) : (cI g).length ≤ g.length := yH hv _
def am (g : List Bl) : List Nat := (List.range g.length).filter fun i => decide (i ∈ cI g)
end Go.Proofs.YtlkfakdghjaoaaaGreatDoor
namespace Go.Proofs.YtlkfakdghjaoaaaGreatDoor
open Go.RowKit Go.Sort
theorem ge {g : List Bl} (hv : aa g = true) {i j : Nat} (hi : i < g.length) (hj : j < g.length) (h : g[i].1 = g[j].1) : i = j := by
 have key : ∀ i j (hi : i < g.length) (hj : j < g.length), i < j → g[i].1 ≠ g[j].1 := by
  intro i j hi hj hlt e
  obtain ⟨c, hc, hl⟩ := a8 hv (List.getElem_mem hj)
  have hn := i7.1 (aj.1 hv).2.2.1 j hj
  rw [hc, l4 hl] at hn
  have hm : c ∈ (names (g.take j)).data.toList := tu.2 ⟨g[i], by
   rw [List.mem_take_iff_getElem]; exact ⟨i, by omega, rfl⟩, by rw [e, hc]; simp⟩
  rw [List.contains_iff_mem.2 hm] at hn
  cases hn
 rcases Nat.lt_trichotomy i j with hlt | e | hlt
 ·exact absurd h (key i j hi hj hlt)
 ·exact e
 ·exact absurd h.symm (key j i hj hi hlt)
theorem gu {g : List Bl} (hv : aa g = true) {i : Nat} (hi : i < g.length) : aP g g[i].1 = some i :=
 mE hi rfl fun j hj hlt e => by have := ge hv hj hi e; omega
theorem d6 {g : List Bl} {i : Nat} (hi : i < g.length) : (ai g i).length = g[i].2.size := by
 unfold ai; rw [List.length_map, eE hi, size_of_list]
where
 size_of_list {s : ByteArray} : s.data.toList.length = s.size := by rw [Array.length_toList]; rfl
theorem jR {g : List Bl} (hv : aa g = true) {i : Nat} (hi : i < g.length) {k : Nat} (hk : k < g[i].2.size) :
  ∃ t, ∃ ht : t < g.length, (ai g i)[k]? = some t ∧ aP g ⟨#[g[i].2[k]'hk]⟩ = some t ∧ g[t].1 = ⟨#[g[i].2[k]'hk]⟩ := by
 obtain ⟨t, ht, hpos, hn⟩ := d8 hv hi hk
 refine ⟨t, ht, ?_, hpos, hn⟩
 unfold ai
 rw [List.getElem?_map, eE hi, aF _ k hk]
 simp only [Option.map_some, hpos, Option.getD_some]
theorem yI {g : List Bl} (hv : aa g = true) {i t : Nat} (hi : i < g.length) (ht : t < g.length) {c : UInt8} (hc : g[t].1 = ⟨#[c]⟩) : t ∈ ai g i ↔ c ∈ g[i].2.data.toList := by
 constructor
 ·intro h
  obtain ⟨k, hk, e⟩ := List.getElem_of_mem h
  rw [d6 hi] at hk
  obtain ⟨t', ht', hg', _, hn'⟩ := jR hv hi hk
  rw [List.getElem?_eq_getElem (by rw [d6 hi]; exact hk), e] at hg'
  obtain rfl := Option.some.inj hg'
  rw [hc] at hn'
  have : c = g[i].2[k]'hk := by injection hn' with h; simpa using h
  rw [this]; exact List.mem_of_getElem? (aF _ k hk)
 ·intro h
  obtain ⟨k, hk, e⟩ := List.getElem_of_mem h
  have hk' : k < g[i].2.size := by simpa using hk
  obtain ⟨t', ht', hg', _, hn'⟩ := jR hv hi hk'
  have hb : g[i].2[k]'hk' = c := by
   have h1 := aF g[i].2 k hk'
   rw [List.getElem?_eq_getElem hk, e] at h1
   exact (Option.some.inj h1).symm
  rw [hb, ← hc] at hn'
  obtain rfl := ge hv ht' ht hn'
  exact List.mem_of_getElem? hg'
theorem pn {g : List Bl} {c : UInt8} : ∀ {l : List Nat}, c ∈ (ae g l).data.toList ↔ ∃ i ∈ l, c ∈ (ay g i).data.toList
 | [] => by simp [ae]
 | i :: l => by rw [ae, dy, List.mem_append, pn]; simp
theorem co {g : List Bl} (hv : aa g = true) {l : List Nat} (hl : ∀ i ∈ l, i < g.length) {t : Nat} (ht : t < g.length) {c : UInt8} (hc : g[t].1 = ⟨#[c]⟩) :
  0 ≤ Lib.indexByte (ae g l).data.toList c ↔ t ∈ l := by
 rw [eT, pn]
 constructor
 ·rintro ⟨i, hi, hm⟩
  have hi' := hl i hi
  obtain ⟨d, hd, _⟩ := a8 hv (List.getElem_mem hi')
  rw [al hi', hd] at hm
  have hcd : c = d := by simpa using hm
  subst hcd
  rw [← hc] at hd
  rw [← ge hv hi' ht hd]; exact hi
 ·intro h
  exact ⟨t, h, by rw [al ht, hc]; simp⟩
theorem iX {g : List Bl} (hv : aa g = true) : ∀ {l : List Nat}, (∀ i ∈ l, i < g.length) → ∀ {k : Nat} (hk : k < l.length), ∃ h : l[k] < g.length, (ae g l).data.toList[k]? = g[l[k]].1.data.toList[0]?
 | [], _, k, hk => by simp at hk
 | i :: l, hl, k, hk => by
  have hi := hl i (by simp)
  obtain ⟨c, hc, _⟩ := a8 hv (List.getElem_mem hi)
  cases k with
  | zero =>
   refine ⟨hi, ?_⟩
   rw [ae, dy, al hi]
   simp [hc]
  | succ k =>
   obtain ⟨h, e⟩ := iX hv (l := l) (fun j hj => hl j (by simp [hj])) (k := k) (by simpa using hk)
   refine ⟨h, ?_⟩
   rw [ae, dy, al hi, hc]
   simpa using e
theorem wn {g : List Bl} (hv : aa g = true) {l : List Nat} (hl : ∀ i ∈ l, i < g.length) {k : Nat} (hk : k < l.length) :
  ∃ h : l[k] < g.length, ∃ hk' : k < (ae g l).size, g[l[k]].1 = ⟨#[(ae g l)[k]'hk']⟩ := by
 obtain ⟨h, e⟩ := iX hv hl hk
 have hk' : k < (ae g l).size := by rw [ax hv l hl]; exact hk
 refine ⟨h, hk', ?_⟩
 obtain ⟨c, hc, _⟩ := a8 hv (List.getElem_mem h)
 rw [aF _ k hk', hc] at e
 have : (ae g l)[k]'hk' = c := by simpa using e
 rw [this, hc]
theorem dD {g : List Bl} (hv : aa g = true) {l : List Nat} (hl : ∀ i ∈ l, i < g.length) {k : Nat} (hk : k < l.length) :
  ∃ h : l[k] < g.length, (ae g l).extract k (k + 1) = g[l[k]].1 := by
 obtain ⟨h, hk', e⟩ := wn hv hl hk
 exact ⟨h, by rw [d9 _ (a := k) (b := k + 1) (by omega) (by omega) (by omega), e]⟩
end Go.Proofs.YtlkfakdghjaoaaaGreatDoor

namespace Go.Proofs.YtlkfakdghjaoaaaGreatDoor
def bq (n : Nat) : Nat → List (List UInt8)
 | 0 => [[]]
 | k + 1 => match (bq n k)[k]? with
  | some x => if x.length < n then bq n k ++ [x ++ [108], x ++ [114]] else bq n k
  | none => bq n k
def rk (n : Nat) : List (List UInt8) := bq n 127
end Go.Proofs.YtlkfakdghjaoaaaGreatDoor
namespace Go.Proofs.YtlkfakdghjaoaaaGreatDoor
open Go.RowKit Go.Sort
end Go.Proofs.YtlkfakdghjaoaaaGreatDoor
