import Derived.Test.YtlkfakdghjaoaaaGreatDoorJ0
import Derived.Test.YtlkfakdghjaoaaaGreatDoorShelf
import Derived.Test.YtlkfakdghjaoaaaGreatDoorRows
import Derived.ProofKit
import Derived.Deep.SlicePairs
namespace Go.Proofs.YtlkfakdghjaoaaaGreatDoor
open Go.RowKit
structure Only (R : Nat) (w w' : World) : Prop where
 os : w'.os = w.os
 tape : w'.tape = w.tape
 output : w'.output = w.output
 size : w.heap.size ≤ w'.heap.size
 block : ∀ k, k ≠ R → k < w.heap.size → w'.heap[k]? = w.heap[k]?
theorem Only.of_below {R : Nat} {w w' : World} (h : Below w.heap.size w w') : Only R w w' := ⟨h.os, h.tape, h.output, h.size, fun k _ hk => h.block k hk⟩
theorem Only.trans {R : Nat} {a b c : World} (h : Only R a b) (k : Only R b c) : Only R a c :=
 ⟨k.os.trans h.os, k.tape.trans h.tape, k.output.trans h.output, Nat.le_trans h.size k.size, fun i hi hlt => (k.block i hi (Nat.lt_of_lt_of_le hlt h.size)).trans (h.block i hi hlt)⟩
theorem Only.refl (R : Nat) (w : World) : Only R w w := ⟨rfl, rfl, rfl, Nat.le_refl _, fun _ _ _ => rfl⟩
theorem Only.alloc {R : Nat} {a w : World} (h : Only R a w) (o : Obj) : Only R a (w.alloc o) := h.trans (.of_below ((Below.refl _ _).alloc (Nat.le_refl _) _))
theorem Only.step (R : Nat) (w : World) (u : Value) (m : Nat) : Only R w ((w.setCell ⟨R, 1, none⟩ u).drewN m) :=
 ⟨rfl, rfl, rfl, by simp, fun k hk _ => Below.heap_setCell w ⟨R, 1, none⟩ u k hk⟩
theorem Only.below {w w1 w2 : World} (h1 : Below w.heap.size w w1) (h2 : Only w.heap.size w1 w2) : Below w.heap.size w w2 :=
 ⟨h2.os.trans h1.os, h2.tape.trans h1.tape, h2.output.trans h1.output, Nat.le_trans h1.size h2.size, fun k hk => (h2.block k (by omega) (Nat.lt_of_lt_of_le hk h1.size)).trans (h1.block k hk)⟩
end Go.Proofs.YtlkfakdghjaoaaaGreatDoor

set_option maxHeartbeats 1600000
namespace Go.Proofs.YtlkfakdghjaoaaaGreatDoor
open Go.RowKit Go.Sort
theorem GN (c : UInt8) : ((c.toNat : Int)).toNat.toUInt8 = c := by
 simp
theorem i6 (s : ByteArray) (c : UInt8) (w : World) :
  Calls Tryz.prog 153 #[.string s, .int .u8 c.toNat] w fun e w' => e = .returned (.int .i64 (Lib.indexByte s.data.toList c)) ∧ w = w' := by
 have := Tryz.strings_IndexByte s c.toNat w
 rw [GN] at this
 exact this.mono fun e w' ⟨h1, h2⟩ => ⟨h1, h2.symm⟩
theorem kW (s : ByteArray) (c : UInt8) (w : World) :
  Calls Tryz.prog 63 #[.string s, .string ⟨#[c]⟩] w fun e w' => e = .returned (.bool (s.data.toList.contains c)) ∧ w = w' := by
 have := Tryz.strings_Contains_one s c w
 rw [jW] at this
 exact this.mono fun e w' ⟨h1, h2⟩ => ⟨h1, h2.symm⟩
theorem ab (w : World) (n : Nat) : Below w.heap.size w (w.drewN n) := ⟨rfl, rfl, rfl, Nat.le_refl _, fun _ _ => rfl⟩
theorem ng (s nm : ByteArray) (w : World) (hs : s.size ≤ 4611686018427387904) :
  Calls Tryz.prog 106 #[.string s, .string nm] w fun e w' => e = .returned (.bool (dJ s nm)) ∧ Below w.heap.size w w' := by
 by_cases h1 : s.size ≤ 2
 ·have g1 : decide (2 < (s.size : Int)) = false := by simp; omega
  by_cases hd : ∃ h2 : s.size = 2, s[0]'(by omega) = s[1]'(by omega)
  ·have l0 : 0 < s.size := by obtain ⟨h2, _⟩ := hd; omega
   have l1 : 1 < s.size := by obtain ⟨h2, _⟩ := hd; omega
   have i1 : (1 : Int) < s.size := by omega
   have HN := GR (show dJ s nm = false from Bool.eq_false_iff.2 fun e => by obtain ⟨h2, h3⟩ := hd; exact (bG.1 e).2.2 h2 h3)
   have g2 : ((s.size : Int) == 2) = true := by simp; omega
   have g3 : (((s[0]'l0).toNat : Int) == ((s[1]'l1).toNat : Int)) = true := by obtain ⟨h2, h3⟩ := hd; rw [h3]; simp
   clear hd
   go_enter Tryz.func106, Tryz.ntmps106
   go_wp2
   go_quiet (fail)
   go_wp2
   go_ret
   exact ⟨aQ HN.out.symm, ab _ _⟩
  ·have HD : Hid (∀ h : s.size = 2, s[0]'(by omega) ≠ s[1]'(by omega)) := fun h e => hd ⟨h, e⟩
   have hsplit : (∃ h : s.size = 2, (((s[0]'(by omega)).toNat : Int) == ((s[1]'(by omega)).toNat : Int)) = false) ∨ ((s.size : Int) == 2) = false := by
    by_cases h2 : s.size = 2
    ·exact .inl ⟨h2, dI (HD.out h2)⟩
    ·exact .inr (by simp; omega)
   clear hd
   rcases hsplit with ⟨h2, g3⟩ | g2
   ·have l0 : 0 < s.size := by omega
    have l1 : 1 < s.size := by omega
    have i1 : (1 : Int) < s.size := by omega
    have g2 : ((s.size : Int) == 2) = true := by simp; omega
    have H2 := GR h2
    have g3' : (((s[0]'l0).toNat : Int) == ((s[1]'l1).toNat : Int)) = false := g3
    clear g3 h2
    go_enter Tryz.func106, Tryz.ntmps106
    go_wp2
    go_quiet (fail)
    go_wp2
    go_loop [23] (fun i => ∃ k : Nat, k ≤ s.size ∧ i = .int .i64 k ∧ Hid (∀ j (h : j < s.size), j < k → 0 ≤ Lib.indexByte nm.data.toList (s[j]'h))) (fun i => s.size - (intOf i).toNat)
    case atStart => exact ⟨0, Nat.zero_le _, rfl, fun j _ h => absurd h (by omega)⟩
    case round =>
     obtain ⟨k, hk, rfl, HK⟩ := hrel
     by_cases hlt : k < s.size
     ·by_cases hc : Lib.indexByte nm.data.toList (s[k]'hlt) < 0
      ·have HN := GR (show dJ s nm = false from Bool.eq_false_iff.2 fun e => by have := (bG.1 e).2.1 k hlt; omega)
       go_wp2_with (go_at_call 153; refine (i6 _ _ _).mono ?_; rintro e w' ⟨rfl, rfl⟩)
       go_ret
       exact ⟨aQ HN.out.symm, ab _ _⟩
      ·go_wp2_with (go_at_call 153; refine (i6 _ _ _).mono ?_; rintro e w' ⟨rfl, rfl⟩)
       go_round
       case rel =>
        refine ⟨k + 1, by omega, by go_num, fun j h hj => ?_⟩
        rcases Nat.lt_succ_iff_lt_or_eq.1 hj with hj | rfl
        ·exact HK.out j h hj
        ·omega
       case measure => simp [intOf]; omega
     ·have HN := GR (show dJ s nm = true from bG.2 ⟨h1, fun j h => HK.out j h (by omega), HD.out⟩)
      go_wp2_with fail
      go_ret
      exact ⟨aQ HN.out.symm, ab _ _⟩
   ·go_enter Tryz.func106, Tryz.ntmps106
    go_wp2
    go_quiet (fail)
    go_wp2
    go_loop [23] (fun i => ∃ k : Nat, k ≤ s.size ∧ i = .int .i64 k ∧ Hid (∀ j (h : j < s.size), j < k → 0 ≤ Lib.indexByte nm.data.toList (s[j]'h))) (fun i => s.size - (intOf i).toNat)
    case atStart => exact ⟨0, Nat.zero_le _, rfl, fun j _ h => absurd h (by omega)⟩
    case round =>
     obtain ⟨k, hk, rfl, HK⟩ := hrel
     by_cases hlt : k < s.size
     ·by_cases hc : Lib.indexByte nm.data.toList (s[k]'hlt) < 0
      ·have HN := GR (show dJ s nm = false from Bool.eq_false_iff.2 fun e => by have := (bG.1 e).2.1 k hlt; omega)
       go_wp2_with (go_at_call 153; refine (i6 _ _ _).mono ?_; rintro e w' ⟨rfl, rfl⟩)
       go_ret
       exact ⟨aQ HN.out.symm, ab _ _⟩
      ·go_wp2_with (go_at_call 153; refine (i6 _ _ _).mono ?_; rintro e w' ⟨rfl, rfl⟩)
       go_round
       case rel =>
        refine ⟨k + 1, by omega, by go_num, fun j h hj => ?_⟩
        rcases Nat.lt_succ_iff_lt_or_eq.1 hj with hj | rfl
        ·exact HK.out j h hj
        ·omega
       case measure => simp [intOf]; omega
     ·have HN := GR (show dJ s nm = true from bG.2 ⟨h1, fun j h => HK.out j h (by omega), HD.out⟩)
      go_wp2_with fail
      go_ret
      exact ⟨aQ HN.out.symm, ab _ _⟩
 ·have HN := GR (show dJ s nm = false from Bool.eq_false_iff.2 fun e => h1 (bG.1 e).1)
  have g1 : decide (2 < (s.size : Int)) = true := by simp; omega
  go_enter Tryz.func106, Tryz.ntmps106
  go_wp2
  go_quiet (fail)
  go_wp2
  go_ret
  exact ⟨aQ HN.out.symm, ab _ _⟩
theorem nh (A : Option Addr) (cap : Nat) (g : List Bl) (w : World) (hg : Gr w A g) (hn : g.length + aO g ≤ 1048576) :
  Calls Tryz.prog 62 #[.slice A g.length cap] w fun e w' => e = .returned (.bool (aa g)) ∧ Below w.heap.size w w' := by
 by_cases h0 : g.length = 0
 ·have HN := GR (show aa g = false from jV fun e => by have := e.1; omega)
  have g0 : ((g.length : Int) == 0) = true := by rw [h0]; rfl
  clear h0
  go_enter Tryz.func62, Tryz.ntmps62
  go_wp2_with fail
  go_ret
  exact ⟨aQ HN.out.symm, Below.refl _ _⟩
 ·have g0 : ((g.length : Int) == 0) = false := by simpa using h0
  have h1 : 1 ≤ g.length := by omega
  clear h0
  by_cases h26 : g.length ≤ 26
  ·go_enter Tryz.func62, Tryz.ntmps62
   go_wp2_with fail
   go_loopw [3, 18] (fun s i wr => ∃ k : Nat, k ≤ g.length ∧ i = .int .i64 k ∧ s = .string (names (g.take k)) ∧ Hid (∀ j (h : j < g.length), j < k → iz (names (g.take j)) g[j].1 = true) ∧ Below w.heap.size w wr) (fun _ i _ => g.length - (intOf i).toNat)
   case atStart => exact ⟨0, Nat.zero_le _, rfl, rfl, fun j _ h => absurd h (by omega), Below.refl _ _⟩
   case round =>
    obtain ⟨k, hk, rfl, rfl, HK, hB⟩ := hrel
    have hs := gG (g.take k)
    have hs2 := eJ g k
    obtain ⟨m, hm⟩ : ∃ m, m = names (g.take k) := ⟨_, rfl⟩
    have HM := GR hm
    rw [← hm] at hs ⊢
    clear hm
    by_cases hlt : k < g.length
    ·obtain ⟨b, off, s, t, rfl, hb, hc0, hc1, he, he2⟩ := gn (hg.below hB) hlt
     have hs3 := jM g k hlt
     rw [he, he2] at hs3
     have HNT := GR (qd g k hlt)
     have HE := GR he
     clear he he2
     by_cases hnm : eQ s = true
     ·obtain ⟨c, hsc, hlet⟩ := oS hnm
      have HSC := GR hsc
      have hs4 : s.size = 1 := by rw [hsc]; rfl
      have HL := GR hlet
      have HNB := GR (l4 (pre := m) hlet)
      clear hsc hlet
      by_cases hin : m.data.toList.contains c = true
      ·have HN := GR (show aa g = false from nn hlt (by rw [← HM.out, HE.out, HSC.out, HNB.out, hin]; rfl))
       have HC : Hid (∀ w, Calls Tryz.prog 63 #[.string m, .string s] w fun e w' => e = .returned (.bool true) ∧ w = w') := fun w => by rw [HSC.out]; have := kW m c w; rwa [hin] at this
       clear hin
       go_wp2_with (first
        | (go_at_call 105; refine (hU _ _).mono ?_; rintro e w' ⟨rfl, rfl⟩)
        | (go_at_call 63; refine (HC.out _).mono ?_; rintro e w' ⟨rfl, rfl⟩))
       go_ret
       exact ⟨aQ HN.out.symm, hB.alloc hB.size _⟩
      ·have hin' : m.data.toList.contains c = false := by simpa using hin
       have HNW := GR (show iz (names (g.take k)) g[k].1 = true by rw [← HM.out, HE.out, HSC.out, HNB.out, hin']; rfl)
       have HC : Hid (∀ w, Calls Tryz.prog 63 #[.string m, .string s] w fun e w' => e = .returned (.bool false) ∧ w = w') := fun w => by rw [HSC.out]; have := kW m c w; rwa [hin'] at this
       clear hin hin'
       go_wp2_with (first
        | (go_at_call 105; refine (hU _ _).mono ?_; rintro e w' ⟨rfl, rfl⟩)
        | (go_at_call 63; refine (HC.out _).mono ?_; rintro e w' ⟨rfl, rfl⟩))
       go_roundw
       case rel =>
        refine ⟨k + 1, by omega, by go_num, by rw [HNT.out, HE.out, ← HM.out], fun j h hj => ?_, hB.alloc hB.size _⟩
        rcases Nat.lt_succ_iff_lt_or_eq.1 hj with hj | rfl
        ·exact HK.out j h hj
        ·exact HNW.out
       case measure => simp [intOf]; omega
     ·have hnm' : eQ s = false := by simpa using hnm
      have HN := GR (show aa g = false from nn hlt (by rw [HE.out]; unfold iz; rw [hnm']; rfl))
      clear hnm
      go_wp2_with (first
       | (go_at_call 105; refine (hU _ _).mono ?_; rintro e w' ⟨rfl, rfl⟩))
      go_ret
      exact ⟨aQ HN.out.symm, hB.alloc hB.size _⟩
    ·have HNews := GR (show lZ g = true from i7.2 fun j h => HK.out j h (by omega))
     have HM2 := GR (show m = names g by rw [HM.out, List.take_of_length_le (by omega)])
     go_wp2_with fail
     obtain ⟨wo, hwo⟩ : ∃ wo : World, wo = wr := ⟨_, rfl⟩
     rw [← hwo] at hB ⊢
     clear hwo hs hs2
     go_loopw [39] (fun i wr => ∃ k : Nat, k ≤ g.length ∧ i = .int .i64 k ∧ Hid (∀ j (h : j < g.length), j < k → dJ g[j].2 m = true) ∧ Below w.heap.size w wr) (fun i _ => g.length - (intOf i).toNat)
     case atStart => exact ⟨0, Nat.zero_le _, rfl, fun j _ h => absurd h (by omega), hB⟩
     case round =>
      obtain ⟨k, hk, rfl, HK2, hB2⟩ := hrel
      by_cases hlt : k < g.length
      ·obtain ⟨b, off, s, t, rfl, hb, hc0, hc1, he, he2⟩ := gn (hg.below hB2) hlt
       have hs3 := jM g k hlt
       rw [he, he2] at hs3
       have HE := GR he2
       clear he he2
       by_cases hnx : dJ t m = true
       ·have HNX := GR hnx
        have HC : Hid (∀ w, Calls Tryz.prog 106 #[.string t, .string m] w fun e w' => e = .returned (.bool true) ∧ Below w.heap.size w w') := fun w => by have := ng t m w (by omega); rwa [hnx] at this
        clear hnx
        go_wp2_with (go_at_call 106; refine (HC.out _).mono ?_; rintro e w1 ⟨rfl, hb1⟩)
        go_roundw
        case rel =>
         refine ⟨k + 1, by omega, by go_num, fun j h hj => ?_, af (hB2.alloc hB2.size _) hb1⟩
         rcases Nat.lt_succ_iff_lt_or_eq.1 hj with hj | rfl
         ·exact HK2.out j h hj
         ·rw [HE.out]; exact HNX.out
        case measure => simp [intOf]; omega
       ·have hnx' : dJ t m = false := by simpa using hnx
        have HN := GR (show aa g = false from uc hlt (by rw [HE.out, ← HM2.out]; exact hnx'))
        have HC : Hid (∀ w, Calls Tryz.prog 106 #[.string t, .string m] w fun e w' => e = .returned (.bool false) ∧ Below w.heap.size w w') := fun w => by have := ng t m w (by omega); rwa [hnx'] at this
        clear hnx hnx'
        go_wp2_with (go_at_call 106; refine (HC.out _).mono ?_; rintro e w1 ⟨rfl, hb1⟩)
        go_ret
        exact ⟨aQ HN.out.symm, af (hB2.alloc hB2.size _) hb1⟩
      ·have HN := GR (show aa g = true from aj.2 ⟨h1, h26, HNews.out, cR.2 fun j h => by rw [← HM2.out]; exact HK2.out j h (by omega)⟩)
       go_wp2_with fail
       go_ret
       exact ⟨aQ HN.out.symm, hB2⟩
  ·have HN := GR (show aa g = false from jV fun e => h26 e.2.1)
   go_enter Tryz.func62, Tryz.ntmps62
   go_wp2_with fail
   go_ret
   exact ⟨aQ HN.out.symm, Below.refl _ _⟩
end Go.Proofs.YtlkfakdghjaoaaaGreatDoor
namespace Go.Proofs.YtlkfakdghjaoaaaGreatDoor
open Go.RowKit Go.Sort
theorem gx {f : FuncId} {args : Array Value} {w : World} {d : Nat} {os : Array Obj} {v : Value}
  (h : Calls Tryz.prog f args (grow (redrawn w d) os) fun e w' => e = .returned v ∧ grow (redrawn w d) os = w') : Calls Tryz.prog f args (grow (redrawn w d) os) fun e w'' => e = .returned v ∧ ∃ p : Regrown, w'' = grow (redrawn w p.d) p.os :=
 Calls.regrown_of (h.mono fun _ _ ⟨he, hw⟩ => ⟨he, hw ▸ Below.refl _ _⟩)
theorem mX {w : World} {A : Option Addr} {g : List Bl} (h : Gr w A g) (d : Nat) (os : Array Obj) : Gr (grow (redrawn w d) os) A g :=
 h.below (below_regrown w d os)
def gl (pre nm : ByteArray) (s t : ByteArray) : Bool := iz pre s && dJ t nm
theorem ot {g : List Bl} : (lZ g = true ∧ lB g = true) ↔ ∀ k (h : k < g.length), gl (names (g.take k)) (names g) g[k].1 g[k].2 = true := by
 rw [i7, cR]
 unfold gl
 simp only [Bool.and_eq_true]
 exact ⟨fun h k hk => ⟨h.1 k hk, h.2 k hk⟩, fun h => ⟨fun k hk => (h k hk).1, fun k hk => (h k hk).2⟩⟩
theorem ee {g : List Bl} {k : Nat} (hk : k < g.length) (h : gl (names (g.take k)) (names g) g[k].1 g[k].2 = false) : aa g = false :=
 jV fun e => by have := ot.1 ⟨e.2.2.1, e.2.2.2⟩ k hk; rw [h] at this; cases this
theorem Cw {s : ByteArray} (h : ¬ s.size = 1) : eQ s = false := by unfold eQ; simp [h]
theorem t7 (g : List Bl) (k : Nat) (h : k ≤ g.length) : (g.take k).length = k := by simp; omega
theorem jw (A : Option Addr) (cap : Nat) (g : List Bl) (w : World) (hg : Gr w A g) (hn : g.length + aO g ≤ 1048576) (hcap : g.length ≤ cap) :
  Calls Tryz.prog 121 #[.slice A g.length cap] w fun e w' => e = .returned (.bool (aa g)) ∧ Below w.heap.size w w' := by
 go_enter Tryz.func121, Tryz.ntmps121
 go_wp2_with (go_at_call 160; refine (sz A cap g _ hg (by omega) (by omega)).mono ?_; rintro e w0 ⟨rfl, hB0⟩)
 have hs := gG g
 obtain ⟨m, hm⟩ : ∃ m, m = names g := ⟨_, rfl⟩
 have HM := GR hm
 rw [← hm] at hs ⊢
 clear hm
 go_loopw [11] (fun i wr => ∃ k : Nat, k ≤ g.length ∧ i = .int .i64 k ∧ Hid (∀ j (h : j < g.length), j < k → gl (names (g.take j)) m g[j].1 g[j].2 = true) ∧ Below w.heap.size w wr) (fun i _ => g.length - (intOf i).toNat)
 case atStart => exact ⟨0, Nat.zero_le _, rfl, fun j _ h => absurd h (by omega), hB0⟩
 case round =>
  obtain ⟨k, hk, rfl, HK, hB⟩ := hrel
  by_cases hlt : k < g.length
  ·have hgr := hg.below hB
   obtain ⟨b, off, s, t, rfl, hb, hc0, hc1, he, he2⟩ := gn hgr hlt
   have hs3 := jM g k hlt
   rw [he, he2] at hs3
   have HE := GR he
   have HE2 := GR he2
   clear he he2
   have HGR := GR hgr
   clear hgr
   by_cases h1 : s.size = 1
   ·have g1 : ((s.size : Int) != 1) = false := by rw [h1]; rfl
    have l0 : 0 < s.size := by omega
    obtain ⟨c, hc⟩ : ∃ c, c = s[0]'l0 := ⟨_, rfl⟩
    have HS : Hid (s = ⟨#[c]⟩) := bg (by
     have hl : s.data.toList.length = 1 := by simpa using h1
     obtain ⟨c', hc'⟩ := List.length_eq_one_iff.1 hl
     have := aF s 0 l0
     rw [hc'] at this
     rw [hc', hc]
     simpa using this)
    clear h1
    obtain ⟨p, hp⟩ : ∃ p, p = names (g.take k) := ⟨_, rfl⟩
    have HP := GR hp
    obtain ⟨q, hq⟩ : ∃ q, q = Lib.indexByte p.data.toList c := ⟨_, rfl⟩
    have HQ := GR hq
    have hps : p.size ≤ aO g := by rw [hp]; exact Nat.le_trans (gG _) (eJ g k)
    have HC := GR hc
    clear hp
    go_wp2_with fail
    have hBa := hB.alloc hB.size (.cells #[.string s, .string t] 45)
    have ca := Blk.new wr 45 #[.string s, .string t]
    have hga := (HGR.out).below ((Below.refl _ _).alloc (Nat.le_refl _) (.cells #[.string s, .string t] 45))
    obtain ⟨wa, hwa⟩ : ∃ wa, wa = wr.alloc (.cells #[.string s, .string t] 45) := ⟨_, rfl⟩
    rw [← hwa] at hBa ca hga ⊢
    have k0 := cell_regrown (ca.cell 0)
    have k1 := cell_regrown (ca.cell 1)
    have cL : ∀ d os, Calls Tryz.prog 161 #[.int .u8 (s[0]'l0).toNat] (grow (redrawn wa d) os) fun e w'' => e = .returned (.bool (a7 c)) ∧ ∃ p : Regrown, w'' = grow (redrawn wa p.d) p.os := fun d os => by
     rw [hc]; exact gx (cr _ _)
    have cN : ∀ d os, Calls Tryz.prog 160 #[.slice (some ⟨b, off, none⟩) k cap] (grow (redrawn wa d) os) fun e w'' => e = .returned (.string p) ∧ ∃ p : Regrown, w'' = grow (redrawn wa p.d) p.os := fun d os => by
     have := sz (some ⟨b, off, none⟩) cap (g.take k) (grow (redrawn wa d) os) ((mX hga d os).take k) (by rw [t7 g k hk]; omega) (Nat.le_trans (eJ g k) (by omega))
     rw [t7 g k hk, ← HP.out] at this
     exact Calls.regrown_of this
    have cF : ∀ d os, Calls Tryz.prog 114 #[.string p, .int .u8 (s[0]'l0).toNat] (grow (redrawn wa d) os) fun e w'' => e = .returned (.int .i64 q) ∧ ∃ p : Regrown, w'' = grow (redrawn wa p.d) p.os := fun d os => by
     have := gx (bf p c (grow (redrawn wa d) os) (by omega))
     rw [← hq, hc] at this
     exact this
    clear hq hc hwa
    have hk63 : (k : Int) ≤ cap := by omega
    by_cases hlet : a7 c = true
    ·rw [hlet] at cL
     have HL := GR hlet
     clear hlet
     by_cases hin : 0 ≤ q
     ·have hin' : decide (0 ≤ q) = true := by simpa using hin
      have HN := GR (show aa g = false from ee hlt (by
       rw [HE.out, HS.out, ← HP.out]; unfold gl; rw [l4 HL.out, ← jW, ← HQ.out, hin']; rfl))
      clear hin
      refine wp_region_quiet_below (by kernel_rfl) (by kernel_rfl) ?_
      repeat (any_goals (first | go_big_quiet_step (first | with_reducible exact cL _ _ | with_reducible exact cN _ _ | with_reducible exact cF _ _) | quiet_step (first | with_reducible exact cL _ _ | with_reducible exact cN _ _ | with_reducible exact cF _ _)))
      all_goals (refine wpQuiet_nil ?_; intro _ hw'; obtain ⟨⟨dq, osq⟩, hw''⟩ := hw'; subst hw'')
      have hb2 := below_regrown wa dq osq
      generalize grow (redrawn wa dq) osq = w2 at hb2 ⊢
      clear cL cN cF k0 k1
      go_wp2_with fail
      go_ret
      exact ⟨aQ HN.out.symm, af hBa hb2⟩
     ·have hin' : decide (0 ≤ q) = false := by simpa using hin
      have HNB := GR (show iz p s = true by rw [HS.out, l4 HL.out, ← jW, ← HQ.out, hin']; rfl)
      clear hin
      by_cases ht2 : t.size ≤ 2
      ·have g3 : decide (2 < (t.size : Int)) = false := by simp; omega
       refine wp_region_quiet_below (by kernel_rfl) (by kernel_rfl) ?_
       repeat (any_goals (first | go_big_quiet_step (first | with_reducible exact cL _ _ | with_reducible exact cN _ _ | with_reducible exact cF _ _) | quiet_step (first | with_reducible exact cL _ _ | with_reducible exact cN _ _ | with_reducible exact cF _ _)))
       all_goals (refine wpQuiet_nil ?_; intro _ hw'; obtain ⟨⟨dq, osq⟩, hw''⟩ := hw'; subst hw'')
       have hb2 := below_regrown wa dq osq
       have c2 := ca.below hb2 ca.lt
       generalize grow (redrawn wa dq) osq = w2 at hb2 c2 ⊢
       have hB2 := af hBa hb2
       have hlt2 := c2.lt
       have hwlt : w.heap.size ≤ wr.heap.size := hB.size
       have x1 := c2.cell 1
       have HC2 := GR c2
       clear cL cN cF k0 k1 ca c2 hb2 hBa hga
       go_wp2_with fail
       obtain ⟨B, hBB⟩ : ∃ B, B = wr.heap.size := ⟨_, rfl⟩
       have HC3 : Hid (Blk w2 B 45 #[.string s, .string t]) := hBB ▸ HC2.out
       rw [← hBB] at hlt2 hwlt ⊢
       clear hBB x1 HC2 hB HGR hc0 hc1 hb
       obtain ⟨wo, hwo⟩ : ∃ wo : World, wo = wr := ⟨_, rfl⟩
       clear hwo
       go_loopw [47] (fun i wr => ∃ j : Nat, j ≤ t.size ∧ i = .int .i64 j ∧ Hid (∀ l (h : l < t.size), l < j → jX t m l h = true) ∧ Blk wr B 45 #[.string s, .string t] ∧ Below w.heap.size w wr) (fun i _ => t.size - (intOf i).toNat)
       case atStart => exact ⟨0, Nat.zero_le _, rfl, fun j _ h => absurd h (by omega), HC3.out, hB2⟩
       case round =>
        obtain ⟨j, hj, rfl, HJ, hblk, hBi⟩ := hrel
        by_cases hjt : j < t.size
        ·have x1 := hblk.cell 1
         have HBK := GR hblk
         obtain ⟨d, hd⟩ : ∃ d, d = t[j]'hjt := ⟨_, rfl⟩
         obtain ⟨q1, hq1⟩ : ∃ q1, q1 = Lib.indexByte m.data.toList d := ⟨_, rfl⟩
         obtain ⟨q2, hq2⟩ : ∃ q2, q2 = Lib.indexByte (t.extract 0 j).data.toList d := ⟨_, rfl⟩
         have HPL := GR (show jX t m j hjt = (decide (0 ≤ q1) && decide (q2 < 0)) by unfold jX; rw [hq1, hq2, hd])
         have cA : ∀ dd os, Calls Tryz.prog 114 #[.string m, .int .u8 (t[j]'hjt).toNat] (grow (redrawn wr dd) os) fun e w'' => e = .returned (.int .i64 q1) ∧ ∃ p : Regrown, w'' = grow (redrawn wr p.d) p.os := fun dd os => by
          have := gx (bf m d (grow (redrawn wr dd) os) (by omega))
          rwa [← hq1, hd] at this
         have cB : ∀ dd os, Calls Tryz.prog 114 #[.string (t.extract 0 j), .int .u8 (t[j]'hjt).toNat] (grow (redrawn wr dd) os) fun e w'' => e = .returned (.int .i64 q2) ∧ ∃ p : Regrown, w'' = grow (redrawn wr p.d) p.os := fun dd os => by
          have := gx (bf (t.extract 0 j) d (grow (redrawn wr dd) os) (by rw [ByteArray.size_extract]; omega))
          rwa [← hq2, hd] at this
         clear hd hq1 hq2 hblk
         have k1 := cell_regrown x1
         have hjt2 : (j : Int) < t.size := by omega
         go_wp2_with fail
         by_cases hA : q1 < 0
         ·have hA' : decide (q1 < 0) = true := by simpa using hA
          have HN := GR (show aa g = false from ee hlt (by
           rw [HE.out, HE2.out, ← HM.out]; unfold gl; rw [lC ht2 hjt (by rw [HPL.out]; simp; omega)]; simp))
          clear hA
          refine wp_region_quiet_below (by kernel_rfl) (by kernel_rfl) ?_
          repeat (any_goals (first | go_big_quiet_step (first | with_reducible exact cA _ _ | with_reducible exact cB _ _) | quiet_step (first | with_reducible exact cA _ _ | with_reducible exact cB _ _)))
          all_goals (refine wpQuiet_nil ?_; intro _ hw'; obtain ⟨⟨dq, osq⟩, hw''⟩ := hw'; subst hw'')
          have hb3 := below_regrown wr dq osq
          generalize grow (redrawn wr dq) osq = w3 at hb3 ⊢
          clear cA cB k1 x1
          go_wp2_with fail
          go_ret
          exact ⟨aQ HN.out.symm, af hBi hb3⟩
         ·have hA' : decide (q1 < 0) = false := by simpa using hA
          by_cases hBq : 0 ≤ q2
          ·have hB' : decide (0 ≤ q2) = true := by simpa using hBq
           have HN := GR (show aa g = false from ee hlt (by
            rw [HE.out, HE2.out, ← HM.out]; unfold gl; rw [lC ht2 hjt (by rw [HPL.out]; simp; omega)]; simp))
           clear hA hBq
           refine wp_region_quiet_below (by kernel_rfl) (by kernel_rfl) ?_
           repeat (any_goals (first | go_big_quiet_step (first | with_reducible exact cA _ _ | with_reducible exact cB _ _) | quiet_step (first | with_reducible exact cA _ _ | with_reducible exact cB _ _)))
           all_goals (refine wpQuiet_nil ?_; intro _ hw'; obtain ⟨⟨dq, osq⟩, hw''⟩ := hw'; subst hw'')
           have hb3 := below_regrown wr dq osq
           generalize grow (redrawn wr dq) osq = w3 at hb3 ⊢
           clear cA cB k1 x1
           go_wp2_with fail
           go_ret
           exact ⟨aQ HN.out.symm, af hBi hb3⟩
          ·have hB' : decide (0 ≤ q2) = false := by simpa using hBq
           have HPT := GR (show jX t m j hjt = true by rw [HPL.out]; simp; omega)
           clear hA hBq
           refine wp_region_quiet_below (by kernel_rfl) (by kernel_rfl) ?_
           repeat (any_goals (first | go_big_quiet_step (first | with_reducible exact cA _ _ | with_reducible exact cB _ _) | quiet_step (first | with_reducible exact cA _ _ | with_reducible exact cB _ _)))
           all_goals (refine wpQuiet_nil ?_; intro _ hw'; obtain ⟨⟨dq, osq⟩, hw''⟩ := hw'; subst hw'')
           have hb3 := below_regrown wr dq osq
           generalize grow (redrawn wr dq) osq = w3 at hb3 ⊢
           clear cA cB k1 x1
           go_wp2_with fail
           go_roundw
           case rel =>
            refine ⟨j + 1, by omega, by go_num, fun l h hl => ?_, HBK.out.below hb3 HBK.out.lt, af hBi hb3⟩
            rcases Nat.lt_succ_iff_lt_or_eq.1 hl with hl | rfl
            ·exact HJ.out l h hl
            ·exact HPT.out
           case measure => simp [intOf]; omega
        ·have HNX := GR (show dJ t m = true from (np ht2).2 fun l h => HJ.out l h (by omega))
         clear hblk
         go_wp2_with fail
         go_roundw
         case rel =>
          refine ⟨k + 1, by omega, by go_num, fun l h hl => ?_, hBi⟩
          rcases Nat.lt_succ_iff_lt_or_eq.1 hl with hl | rfl
          ·exact HK.out l h hl
          ·rw [HE.out, HE2.out, ← HP.out]; unfold gl; rw [HNB.out, HNX.out]; rfl
         case measure => simp [intOf]; omega
      ·have g3 : decide (2 < (t.size : Int)) = true := by simp; omega
       have HN := GR (show aa g = false from ee hlt (by
        rw [HE.out, HE2.out]; unfold gl; rw [yZ ht2]; simp))
       refine wp_region_quiet_below (by kernel_rfl) (by kernel_rfl) ?_
       repeat (any_goals (first | go_big_quiet_step (first | with_reducible exact cL _ _ | with_reducible exact cN _ _ | with_reducible exact cF _ _) | quiet_step (first | with_reducible exact cL _ _ | with_reducible exact cN _ _ | with_reducible exact cF _ _)))
       all_goals (refine wpQuiet_nil ?_; intro _ hw'; obtain ⟨⟨dq, osq⟩, hw''⟩ := hw'; subst hw'')
       have hb2 := below_regrown wa dq osq
       generalize grow (redrawn wa dq) osq = w2 at hb2 ⊢
       clear cL cN cF k0 k1
       go_wp2_with fail
       go_ret
       exact ⟨aQ HN.out.symm, af hBa hb2⟩
    ·have hlet' : a7 c = false := by simpa using hlet
     rw [hlet'] at cL
     have HN := GR (show aa g = false from ee hlt (by
       rw [HE.out, HS.out]; unfold gl iz eQ
       have e2 : (⟨#[c]⟩ : ByteArray).data.toList.getD 0 0 = c := rfl
       rw [e2, hlet']; simp))
     clear hlet hlet'
     refine wp_region_quiet_below (by kernel_rfl) (by kernel_rfl) ?_
     repeat (any_goals (first | go_big_quiet_step (exact cL _ _) | quiet_step (exact cL _ _)))
     all_goals (refine wpQuiet_nil ?_; intro _ hw'; obtain ⟨⟨dq, osq⟩, hw''⟩ := hw'; subst hw'')
     have hb2 := below_regrown wa dq osq
     generalize grow (redrawn wa dq) osq = w2 at hb2 ⊢
     clear cL cN cF k0 k1
     go_wp2_with fail
     go_ret
     exact ⟨aQ HN.out.symm, af hBa hb2⟩
   ·have g1 : ((s.size : Int) != 1) = true := by simp; omega
    have HN := GR (show aa g = false from ee hlt (by
     rw [HE.out]; unfold gl iz; rw [Cw h1]; rfl))
    clear h1
    go_wp2_with fail
    have hBa := hB.alloc hB.size (.cells #[.string s, .string t] 45)
    have ca := Blk.new wr 45 #[.string s, .string t]
    obtain ⟨wa, hwa⟩ : ∃ wa, wa = wr.alloc (.cells #[.string s, .string t] 45) := ⟨_, rfl⟩
    rw [← hwa] at hBa ca ⊢
    have k0 := cell_regrown (ca.cell 0)
    clear hwa
    refine wp_region_quiet_below (by kernel_rfl) (by kernel_rfl) ?_
    repeat (any_goals (first | go_big_quiet_step (fail) | quiet_step (fail)))
    all_goals (refine wpQuiet_nil ?_; intro _ hw'; obtain ⟨⟨dq, osq⟩, hw''⟩ := hw'; subst hw'')
    have hb2 := below_regrown wa dq osq
    generalize grow (redrawn wa dq) osq = w2 at hb2 ⊢
    clear k0
    go_wp2_with fail
    go_ret
    exact ⟨aQ HN.out.symm, af hBa hb2⟩
  ·have HV := GR (show lA g.length 1 26 = aa g by
    have hr := ot.2 (fun j h => by have := HK.out j h (by omega); rwa [HM.out] at this)
    rw [Bool.eq_iff_iff, aj]
    unfold lA
    simp only [Bool.and_eq_true, decide_eq_true_iff]
    constructor
    ·intro ⟨h1, h2⟩; exact ⟨by omega, by omega, hr.1, hr.2⟩
    ·intro ⟨h1, h2, _⟩; exact ⟨by omega, by omega⟩)
   go_wp2_with (go_at_call 162; refine (qe _ _ _ _).mono ?_; rintro e w' ⟨rfl, rfl⟩)
   go_ret
   exact ⟨aQ HV.out, hB⟩
end Go.Proofs.YtlkfakdghjaoaaaGreatDoor
namespace Go.Proofs.YtlkfakdghjaoaaaGreatDoor
open Go.ChangeShapes Go.WideShapes Go.ChangeAt Go.RowKit Go.Deep
theorem own : ownKnob Tryz.prog.godebug = none := by kernel_rfl
theorem sp : laidOutB Tryz.prog = true := by kernel_rfl
end Go.Proofs.YtlkfakdghjaoaaaGreatDoor

namespace Go.Proofs.YtlkfakdghjaoaaaGreatDoor
open Go.RowKit Go.Sort
attribute [local go_sem] Oper.semAt_some
open Go.RowKit Go.Sort
attribute [local go_sem] Oper.semAt_some
theorem Gr.ext {w w' : World} {A : Option Addr} {g : List Bl} (hb : Hid (Below w.heap.size w w')) (h : Gr w A g) : Gr w' A g := h.below hb.out
theorem Gr.alloc_ {w : World} {A : Option Addr} {g : List Bl} (h : Gr w A g) (o : Obj) : Gr (w.alloc o) A g := h.below ((Below.refl _ w).alloc (Nat.le_refl _) o)
theorem Gr.drew_ {w : World} {A : Option Addr} {g : List Bl} (h : Gr w A g) : Gr w.drew A g := h.below (Below.refl _ w).drew
theorem Blk.ext {w w' : World} {b : Nat} {t : TypeId} {cs : Array Value} (hb : Hid (Below w.heap.size w w')) (h : Blk w b t cs) : Blk w' b t cs := h.below hb.out h.lt
theorem Blk.newAt {w : World} {n : Nat} (t : TypeId) (cs : Array Value) (h : n = w.heap.size) : Blk (w.alloc (.cells cs t)) n t cs := h ▸ Blk.new w t cs
theorem Below.ext {B : Nat} {w w' w'' : World} (hb : Hid (Below w'.heap.size w' w'')) (hB : B ≤ w'.heap.size) (h : Below B w w') : Below B w w'' := h.trans (hb.out.mono hB)
theorem En {w : World} {a b : Nat} {t u : TypeId} {cs ds : Array Value} (h : Blk w a t cs) (k : Blk w b u ds) (hne : t ≠ u) : a ≠ b := by
 intro e
 subst e
 unfold Blk at h k
 rw [h] at k
 injection k with k
 injection k with _ k _
 exact hne k
end Go.Proofs.YtlkfakdghjaoaaaGreatDoor
