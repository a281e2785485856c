import Derived.Test.YtlkfakdghjaoaaaGreatDoorShelf
import Derived.Lib.Builder
import Derived.Lib.AppendStr
import Derived.Lib.UnsafeStr
import Derived.KernelRfl
import Derived.Laws.EntriesVeiled
import Derived.WalkLawsBesides
import Derived.Deep.OwnRows
import Derived.Deep.RegionWith
import Derived.Test.YtlkfakdghjaoaaaGreatDoorIter
import Derived.Lib.OthersKept
import Derived.Test.YtlkfakdghjaoaaaGreatDoorJ1
import Derived.Laws.BytesArg
import Derived.Lib.QuietBelow
import Derived.OwnWalk
import Derived.Deep.AppendLies
import Derived.Deep.RegionLaw
import Derived.Laws.Bits64
import Derived.Test.YtlkfakdghjaoaaaGreatDoorTextMath
import Derived.Recover
set_option maxRecDepth 100000
set_option maxHeartbeats 800000
namespace Go.Proofs.YtlkfakdghjaoaaaGreatDoor
open Go.RowKit
theorem jY : (Tryz.prog.info? 61).map (·.size) = some 2 := by kernel_rfl
theorem sA : (Tryz.prog.info? 5).map (fun i => (i.zero, i.size, i.bytes)) = some (some (.int .u8 0), 1, 1) := by kernel_rfl
theorem uJ : liesAt Tryz.prog Tryz.prog.depth 61 (2 / Tryz.prog.cellsOf 61) 0 61 1 = true := by kernel_rfl
abbrev Bd (B b : Nat) (bs : List Value) (w : World) : Prop := Lib.IsBuilder 61 5 B b bs w
theorem rM (b : Nat) (w : World) (h0 : w.cell? ⟨b, 0, none⟩ = some (.pointer (some ⟨b, 0, none⟩))) :
  Calls Tryz.prog 101 #[.pointer (some ⟨b, 0, none⟩)] w fun e w' => e = .returned (.tuple #[]) ∧ w = w' := by
 obtain ⟨j, hj, _⟩ := Option.map_eq_some_iff.1 jY
 have hne := Lib.run_neq_ptr_same (P := Tryz.prog) w ⟨b, 0, none⟩ Tryz.underlying59 hj
 go_enter Tryz.func101, Tryz.ntmps101
 go_wp2
 go_end0
 exact ⟨rfl, rfl⟩
theorem qg (b : Nat) (w : World) (h0 : w.cell? ⟨b, 0, none⟩ = some (.pointer none)) (hsh : w.shape? b = some (61, 2)) (hfz : w.frozen? ⟨b, 0, none⟩ = false) :
  Calls Tryz.prog 101 #[.pointer (some ⟨b, 0, none⟩)] w fun e w' => e = .returned (.tuple #[]) ∧ w.setCell ⟨b, 0, none⟩ (.pointer (some ⟨b, 0, none⟩)) = w' := by
 obtain ⟨j, hj, hjs⟩ := Option.map_eq_some_iff.1 jY
 have r1 := Lib.run_to_unsafe (P := Tryz.prog) w ⟨b, 0, none⟩ Tryz.underlying59 Tryz.underlying207 hj (by rw [hjs]; decide) hsh (Nat.zero_lt_succ 1)
 have r2 := Lib.run_from_unsafe (P := Tryz.prog) w ⟨b, 0, none⟩ Tryz.underlying207 Tryz.underlying59 hj hsh uJ
 have hne := fun W => Lib.run_neq_ptr_same (P := Tryz.prog) W ⟨b, 0, none⟩ Tryz.underlying59 hj
 go_enter Tryz.func101, Tryz.ntmps101
 go_wp2
 rw [run_callFunc_extern Tryz.func147 (by kernel_rfl) (by kernel_rfl) (by kernel_rfl) (e := Extern.AbiNoEscape.same) (by kernel_rfl), Lib.run_noEscape]
 simp only [Result.andThen]
 rw [Oper.upon_value]
 go_wp2
 go_end0
 exact ⟨rfl, rfl⟩
theorem ud (B b : Nat) (bs : List Value) (w : World) (h : Bd B b bs w) :
  Calls Tryz.prog 101 #[.pointer (some ⟨b, 0, none⟩)] w fun e w' => e = .returned (.tuple #[]) ∧ Lib.BuilderAt 61 5 B b (.pointer (some ⟨b, 0, none⟩)) bs w' ∧ Below B w w' := by
 rcases h with h | h
 ·refine (qg b w h.cell0 h.shape h.frozen0).mono ?_
  rintro e w' ⟨rfl, rfl⟩
  exact ⟨rfl, h.used _, (Below.refl B w).setCell (p := ⟨b, 0, none⟩) h.1 _⟩
 ·refine (rM b w h.cell0).mono ?_
  rintro e w' ⟨rfl, rfl⟩
  exact ⟨rfl, h, Below.refl B _⟩
theorem sB (B b : Nat) (bs : List Value) (s : ByteArray) (w : World) (h : Bd B b bs w) (hlen : bs.length + s.size ≤ 1048576) (hBw : B ≤ w.heap.size) :
  Calls Tryz.prog 57 #[.pointer (some ⟨b, 0, none⟩), .string s] w fun e w' => e = .returned (.tuple #[.int .i64 s.size, .nilIface]) ∧ Bd B b (bs ++ Lib.strCells s) w' ∧ Below B w w' := by
 obtain ⟨i0, hi, hz0, hz1, hz2⟩ := info_parts sA
 go_enter Tryz.func57, Tryz.ntmps57
 go_wp2_with fail
 refine (ud B b bs _ h).mono ?_
 rintro e w1 ⟨rfl, ⟨hB, v, hbk, hown, hne⟩, hb1⟩
 have hblk : Blk w1 b 61 #[.pointer (some ⟨b, 0, none⟩), v] := hbk
 have c1 := hblk.cell 1
 have hw1 := hb1.size
 go_wp2_with (at_builtin; refine Lib.wpList_append_own_string _ rfl _ _ 22 9 rfl B 5 i0 Tryz.underlying22 Tryz.underlying9 hi hz0 hz1 hz2 _ _ _ rfl hown s rfl ?c3 ?c4 ?c5 ?_)
 case c3 => unfold maxLen; omega
 case c4 => omega
 case c5 => omega
 intro v' w2 hown' hgrow _
 have hblk2 : Blk w2 b 61 #[.pointer (some ⟨b, 0, none⟩), v] := (hgrow.block b hblk.lt (fun e => hne e.symm)).trans hblk
 have d1 := hblk2.cell 1
 have f1 := hblk2.frozen 1
 obtain ⟨ao, n', cap, rfl⟩ : ∃ ao n' cap, v' = .slice ao n' cap := by
  rcases hown'.2 with ⟨hv, _⟩ | ⟨g, cap, cur, hv, _⟩
  ·exact ⟨_, _, _, hv⟩
  ·exact ⟨_, _, _, hv⟩
 go_wp2
 go_ret2
 refine ⟨rfl, Or.inr (Lib.BuilderAt.put (T := 61) (e := 5) hB hblk2 (bs' := bs ++ Lib.strCells s) (by simpa [Lib.strCells_length] using hown') (by decide)), ?_⟩
 exact (hb1.grown hgrow (by omega) (fun k hk => (hown.lt k hk).1)).setCell (p := ⟨b, 1, none⟩) hB _
theorem AC (w : World) : Bd w.heap.size w.heap.size [] (w.alloc (.cells #[.pointer none, .slice none 0 0] 61)) :=
 Or.inl ⟨Nat.le_refl _, .slice none 0 0, Blk.new _ _ _, World.ownsRow_nil _ _ _ _, by simp [Value.ownBlock]⟩
theorem nr (s t : ByteArray) : Lib.strCells (s ++ t) = Lib.strCells s ++ Lib.strCells t := by
 simp [Lib.strCells]
theorem qh (B b : Nat) (s : ByteArray) (w : World) (h : Bd B b (Lib.strCells s) w) (hBw : B ≤ w.heap.size) :
  Calls Tryz.prog 53 #[.pointer (some ⟨b, 0, none⟩)] w fun e w' => e = .returned (.string s) ∧ Below B w w' := by
 have := Tryz.Builder_String_any B b s.data.toList w h hBw
 exact this
end Go.Proofs.YtlkfakdghjaoaaaGreatDoor
namespace Go.Proofs.YtlkfakdghjaoaaaGreatDoor
open Go.RowKit
def BdK (b : Nat) (bs : List Value) (K : Nat → Prop) (w : World) : Prop :=
 ∃ p v, (p = .pointer none ∨ p = .pointer (some ⟨b, 0, none⟩)) ∧ Blk w b 61 #[p, v] ∧ w.ownsRow b 5 1 v bs.length bs ∧ v.ownBlock ≠ some b ∧ ∀ g, v.ownBlock = some g → ¬ K g
theorem BdK.bd {b : Nat} {bs : List Value} {K : Nat → Prop} {w : World} (h : BdK b bs K w) : Bd b b bs w := by
 obtain ⟨p, v, rfl | rfl, hb, hown, hne, _⟩ := h
 ·exact .inl ⟨Nat.le_refl _, v, hb, hown, hne⟩
 ·exact .inr ⟨Nat.le_refl _, v, hb, hown, hne⟩
theorem BdK.lt {b : Nat} {bs : List Value} {K : Nat → Prop} {w : World} (h : BdK b bs K w) : b < w.heap.size := by
 obtain ⟨_, _, _, hb, _⟩ := h
 exact hb.lt
theorem uK {w w' : World} {e : TypeId} {v : Value} {n : Nat} {xs : List Value} {base : Nat} (h : w.ownsRow base e 1 v n xs) (hk : ∀ g, v.ownBlock = some g → w'.heap[g]? = w.heap[g]?) : w'.ownsRow base e 1 v n xs := by
 refine ⟨h.1, ?_⟩
 rcases h.2 with hn | ⟨g, cap, cur, rfl, hb2, hg, rest⟩
 ·exact .inl hn
 ·exact .inr ⟨g, cap, cur, rfl, hb2, (hk g rfl).trans hg, rest⟩
theorem BdK.kept {b : Nat} {bs : List Value} {K K' : Nat → Prop} {w w' : World} (h : BdK b bs K w) (hb : w'.heap[b]? = w.heap[b]?) (hk : ∀ g, g < w.heap.size → ¬ K g → w'.heap[g]? = w.heap[g]? ∧ ¬ K' g) : BdK b bs K' w' := by
 obtain ⟨p, v, hp, hbk, hown, hne, hno⟩ := h
 exact ⟨p, v, hp, hb.trans hbk, uK hown fun g hg => (hk g (hown.lt g hg).2 (hno g hg)).1, hne, fun g hg => (hk g (hown.lt g hg).2 (hno g hg)).2⟩
end Go.Proofs.YtlkfakdghjaoaaaGreatDoor

namespace Go.Proofs.YtlkfakdghjaoaaaGreatDoor
open Go.RowKit Go.Sort
def Strs (w : World) (A : Option Addr) (ps : List ByteArray) : Prop :=
 0 < ps.length → ∃ b off, A = some ⟨b, off, none⟩ ∧ b < w.heap.size ∧ ∀ k (h : k < ps.length), w.cell? ⟨b, off + k, none⟩ = some (.string ps[k])
theorem Strs.below {w w' : World} {A : Option Addr} {ps : List ByteArray} (h : Strs w A ps) (hb : Below w.heap.size w w') : Strs w' A ps := by
 intro hn
 obtain ⟨b, off, rfl, hlt, hc⟩ := h hn
 have := hb.size
 exact ⟨b, off, rfl, by omega, fun k hk => (hb.cell (p := ⟨b, off + k, none⟩) hlt).trans (hc k hk)⟩
theorem km : (Tryz.prog.info? 9).map (fun i => (i.zero, i.size, i.bytes)) = some (some (.string ⟨#[]⟩), 1, 16) := by kernel_rfl
theorem gO {w : World} {base : Nat} {v : Value} {ps : List ByteArray} (h : w.ownsRow base 9 1 v ps.length (ps.map Value.string)) : ∃ A cap, v = .slice A ps.length cap ∧ Strs w A ps := by
 rcases h.2 with ⟨rfl, hn⟩ | ⟨gb, cap, cur, hv, _, hg, _⟩
 ·exact ⟨none, 0, by rw [hn], fun hpos => absurd hpos (by omega)⟩
 ·subst hv
  refine ⟨_, _, rfl, fun _ => ⟨gb, 0, rfl, ?_, fun j hj => ?_⟩⟩
  ·rcases Nat.lt_or_ge gb w.heap.size with h' | h'
   ·exact h'
   ·rw [Array.getElem?_eq_none h'] at hg; cases hg
  ·have hc := h.cellAt j (by omega)
   rw [List.getElem?_map, List.getElem?_eq_getElem hj] at hc
   rw [Nat.zero_add]; exact hc
abbrev OwnStr (w : World) (base : Nat) (v : Value) (ps : List ByteArray) : Prop := w.ownsRow base 9 1 v ps.length (ps.map Value.string)
theorem OwnStr.strs {w : World} {base : Nat} {A : Option Addr} {cap : Nat} {ps : List ByteArray} (h : OwnStr w base (.slice A ps.length cap) ps) : Strs w A ps := by
 obtain ⟨A', cap', he, hs⟩ := gO h
 injection he with h1 _ _
 rw [h1]; exact hs
theorem f8 {w w' : World} {base : Nat} {e : TypeId} {size : Nat} {v : Value} {n : Nat} {xs : List Value} (h : w.ownsRow base e size v n xs) (hb : Below w.heap.size w w') : w'.ownsRow base e size v n xs := by
 refine ⟨h.1, ?_⟩
 rcases h.2 with hn | ⟨g, cap, cur, hv, hb2, hg, rest⟩
 ·exact .inl hn
 ·refine .inr ⟨g, cap, cur, hv, hb2, ?_, rest⟩
  have hlt : g < w.heap.size := by
   rcases Nat.lt_or_ge g w.heap.size with h' | h'
   ·exact h'
   ·rw [Array.getElem?_eq_none h'] at hg; cases hg
  exact (hb.block g hlt).trans hg
end Go.Proofs.YtlkfakdghjaoaaaGreatDoor

set_option maxHeartbeats 1600000
set_option maxRecDepth 100000
namespace Go.Proofs.YtlkfakdghjaoaaaGreatDoor
open Go.RowKit Go.Sort
theorem EQ (a b : Nat) (ha : a < 4611686018427387904) (hb : b < 4611686018427387904) : bits .xor .i64 (a : Int) (b : Int) = ((a ^^^ b : Nat) : Int) := by
 have hx : a ^^^ b < 2 ^ 62 := Nat.xor_lt_two_pow (by omega) (by omega)
 have h1 : (BitVec.ofInt 64 (a : Int)).toNat = a := by
  rw [BitVec.ofInt_natCast, BitVec.toNat_ofNat]; exact Nat.mod_eq_of_lt (by omega)
 have h2 : (BitVec.ofInt 64 (b : Int)).toNat = b := by
  rw [BitVec.ofInt_natCast, BitVec.toNat_ofNat]; exact Nat.mod_eq_of_lt (by omega)
 show IntKind.i64.wrap ((BitVec.ofInt 64 (a : Int) ^^^ BitVec.ofInt 64 (b : Int)).toNat : Int) = _
 rw [BitVec.toNat_xor, h1, h2, IntKind.wrap_i64]
 omega
theorem xL (x y : Int) (h1 : 0 ≤ x) (h2 : x < 4611686018427387904) (h3 : 0 ≤ y) (h4 : y < 4611686018427387904) : ∃ z : Nat, bits .xor .i64 x y = (z : Int) ∧ z < 4611686018427387904 := by
 obtain ⟨a, rfl⟩ := Int.eq_ofNat_of_zero_le h1
 obtain ⟨b, rfl⟩ := Int.eq_ofNat_of_zero_le h3
 refine ⟨a ^^^ b, EQ a b (by omega) (by omega), ?_⟩
 have hx : a ^^^ b < 2 ^ 62 := Nat.xor_lt_two_pow (by omega) (by omega)
 omega
structure Rd (w : World) (R : Nat) (A : Option Addr) (len cap p : Nat) : Prop where
 blk : Blk w R 136 #[.slice A len cap, .int .i64 p]
 bytes : 0 < len → ∃ b off, A = some ⟨b, off, none⟩ ∧ b < w.heap.size ∧ b ≠ R ∧ ∀ k, k < len → ∃ c : UInt8, w.cell? ⟨b, off + k, none⟩ = some (.int .u8 c.toNat)
 small : len ≤ 2000
theorem Rd.next {w : World} {R : Nat} {A : Option Addr} {len cap p : Nat} (h : Rd w R A len cap p) (m : Nat) : Rd ((w.setCell ⟨R, 1, none⟩ (.int .i64 ((p : Int) + 1))).drewN m) R A len cap (p + 1) := by
 refine ⟨?_, fun hl => ?_, h.small⟩
 ·have h1 := h.blk.set_ 1 (.int .i64 ((p : Int) + 1))
  have e : ((p + 1 : Nat) : Int) = (p : Int) + 1 := by omega
  rw [e]; exact h1
 obtain ⟨b, off, rfl, hlt, hne, hc⟩ := h.bytes hl
 refine ⟨b, off, rfl, by simpa using hlt, hne, fun k hk => ?_⟩
 obtain ⟨c, hcc⟩ := hc k hk
 exact ⟨c, (World.cell?_setCell_other w ⟨R, 1, none⟩ ⟨b, off + k, none⟩ _ (fun e => hne (by injection e with e1 _; exact e1.symm))).trans hcc⟩
def DF (R : Nat) (p : Nat) (n : Int) (w : World) (e : Ending) (w' : World) : Prop :=
 ∃ (x : Nat) (m : Nat), e = .returned (.int .i64 x) ∧ (x : Int) < n ∧ w' = (w.setCell ⟨R, 1, none⟩ (.int .i64 ((p : Int) + 1))).drewN m
theorem pW (R : Nat) (A : Option Addr) (len cap p : Nat) (n : Nat) (w : World) (h : Rd w R A len cap p) (hn : 1 ≤ n) (hn2 : n ≤ 1000) (hp : p ≤ 1048576) :
  Calls Tryz.prog 90 #[.pointer (some ⟨R, 0, none⟩), .int .i64 n] w (DF R p n w) := by
 have c0 := h.blk.cell 0
 have c1 := h.blk.cell 1
 have f1 := h.blk.frozen 1
 have g1 : decide ((n : Int) < 1) = false := by simp; omega
 by_cases h0 : len = 0
 ·have g2 : ((len : Int) == 0) = true := by rw [h0]; rfl
  clear h0
  go_enter Tryz.func90, Tryz.ntmps90
  go_wp2_with fail
  go_ret
  exact ⟨0, 0, rfl, by omega, rfl⟩
 ·have g2 : ((len : Int) == 0) = false := by simpa using h0
  have hl : 0 < len := by omega
  obtain ⟨b, off, rfl, hlt, hne, hc⟩ := h.bytes hl
  have hsm := h.small
  clear h0
  by_cases hk : p < len
  ·obtain ⟨c, hcc⟩ := hc p hk
   have hcl : c.toNat < 256 := UInt8.toNat_lt c
   go_enter Tryz.func90, Tryz.ntmps90
   have HX : Hid ((c.toNat : Int) % (n : Int) = ((c.toNat % n : Nat) : Int)) := (Int.natCast_emod _ _).symm
   have HM : Hid (c.toNat % n < n) := Nat.mod_lt _ (by omega)
   go_wp2_with fail
   go_ret
   exact ⟨c.toNat % n, 0, bz HX.out, by have := HM.out; omega, rfl⟩
  ·obtain ⟨c, hcc⟩ := hc (p % len) (Nat.mod_lt _ hl)
   obtain ⟨d, hdd⟩ := hc ((p * 7 + 3) % len) (Nat.mod_lt _ hl)
   have hcl : c.toNat < 256 := UInt8.toNat_lt c
   have hdl : d.toNat < 256 := UInt8.toNat_lt d
   have m1 : p % len < len := Nat.mod_lt _ hl
   have m2 : (p * 7 + 3) % len < len := Nat.mod_lt _ hl
   have q1 : p / len ≤ p := Nat.div_le_self _ _
   have z1 : ¬ (len : Int) = 0 := by omega
   have z2 : (1 : Int) ≤ len := by omega
   have z0 : ¬ len = 0 := by omega
   have e1 : ((p : Int) % (len : Int)).toNat = p % len := by omega
   have e2 : (((p : Int) * 7 + 3) % (len : Int)).toNat = (p * 7 + 3) % len := by
    have e3 : (p : Int) * 7 + 3 = ((p * 7 + 3 : Nat) : Int) := by omega
    rw [e3, ← Int.natCast_emod, Int.toNat_natCast]
   have j1 : 0 ≤ (p : Int) / (len : Int) := Int.ediv_nonneg (by omega) (by omega)
   have j2 : (p : Int) / (len : Int) ≤ (p : Int) := by rw [← Int.natCast_ediv]; omega
   have i1 : 0 ≤ (p : Int) % (len : Int) := Int.emod_nonneg _ (by omega)
   have i2 : (p : Int) % (len : Int) < (len : Int) := Int.emod_lt_of_pos _ (by omega)
   have i3 : 0 ≤ ((p : Int) * 7 + 3) % (len : Int) := Int.emod_nonneg _ (by omega)
   have i4 : ((p : Int) * 7 + 3) % (len : Int) < (len : Int) := Int.emod_lt_of_pos _ (by omega)
   go_enter Tryz.func90, Tryz.ntmps90
   go_wp2_with fail
   go_quiet (fail)
   have hX : 0 ≤ (c.toNat : Int) * 131 + (d.toNat : Int) * 1117 + (p : Int) * 29 + (p : Int) / (len : Int) * 53 ∧ (c.toNat : Int) * 131 + (d.toNat : Int) * 1117 + (p : Int) * 29 + (p : Int) / (len : Int) * 53 < 1000000000 := by omega
   generalize (c.toNat : Int) * 131 + (d.toNat : Int) * 1117 + (p : Int) * 29 + (p : Int) / (len : Int) * 53 = X at hX ⊢
   obtain ⟨hX1, hX2⟩ := hX
   have hX3 : 0 ≤ X / 64 := by omega
   obtain ⟨z, hz, hzb⟩ := xL X (X / 64) hX1 (by omega) hX3 (by omega)
   have HX : Hid ((z : Int) % (n : Int) = ((z % n : Nat) : Int)) := (Int.natCast_emod _ _).symm
   have HM : Hid (z % n < n) := Nat.mod_lt _ (by omega)
   clear e1 e2 i1 i2 i3 i4 j1 j2 m1 m2 q1
   go_wp2_with fail
   go_ret
   exact ⟨z % n, nq, bz HX.out, by have := HM.out; omega, rfl⟩
def FG (R : Nat) (p : Nat) (ls : List ByteArray) (w : World) (e : Ending) (w' : World) : Prop :=
 ∃ (x : Nat) (h : x < ls.length) (m : Nat), e = .returned (.string (ls[x]'h)) ∧ w' = (w.setCell ⟨R, 1, none⟩ (.int .i64 ((p : Int) + 1))).drewN m
theorem FH (R : Nat) (A : Option Addr) (len cap p L : Nat) (ls : List ByteArray) (w : World) (h : Rd w R A len cap p) (hL : L ≠ R) (hc : ∀ j (h : j < ls.length), w.cell? ⟨L, j, none⟩ = some (.string ls[j])) (h1 : 1 ≤ ls.length) (h2 : ls.length ≤ 1000) (hp : p ≤ 1048576) :
  Calls Tryz.prog 123 #[.pointer (some ⟨R, 0, none⟩), .slice (some ⟨L, 0, none⟩) ls.length ls.length] w (FG R p ls w) := by
 have HC := GR (pW R A len cap p ls.length w h h1 h2 hp)
 have HCC := GR hc
 clear hc h
 go_enter Tryz.func123, Tryz.ntmps123
 go_wp2_with fail
 refine HC.out.mono ?_
 rintro e w1 ⟨x, m, rfl, hx, rfl⟩
 have hx' : x < ls.length := by omega
 have c0 : ((w.setCell ⟨R, 1, none⟩ (.int .i64 ((p : Int) + 1))).drewN m).cell? ⟨L, x, none⟩ = some (.string (ls[x]'hx')) :=
  (World.cell?_setCell_other w ⟨R, 1, none⟩ ⟨L, x, none⟩ _ (fun e => hL (by injection e with e1 _; exact e1.symm))).trans (HCC.out x hx')
 go_wp2_with fail
 go_ret
 exact ⟨x, hx', m, rfl, rfl⟩
def ER (R : Nat) (p : Nat) (ls : List Int) (w : World) (e : Ending) (w' : World) : Prop :=
 ∃ (x : Nat) (h : x < ls.length) (m : Nat), e = .returned (.int .i64 (ls[x]'h)) ∧ w' = (w.setCell ⟨R, 1, none⟩ (.int .i64 ((p : Int) + 1))).drewN m
theorem ES (R : Nat) (A : Option Addr) (len cap p L : Nat) (ls : List Int) (w : World) (h : Rd w R A len cap p) (hL : L ≠ R) (hc : ∀ j (h : j < ls.length), w.cell? ⟨L, j, none⟩ = some (.int .i64 ls[j])) (h1 : 1 ≤ ls.length) (h2 : ls.length ≤ 1000) (hp : p ≤ 1048576) :
  Calls Tryz.prog 92 #[.pointer (some ⟨R, 0, none⟩), .slice (some ⟨L, 0, none⟩) ls.length ls.length] w (ER R p ls w) := by
 have HC := GR (pW R A len cap p ls.length w h h1 h2 hp)
 have HCC := GR hc
 clear hc h
 go_enter Tryz.func92, Tryz.ntmps92
 go_wp2_with fail
 refine HC.out.mono ?_
 rintro e w1 ⟨x, m, rfl, hx, rfl⟩
 have hx' : x < ls.length := by omega
 have c0 : ((w.setCell ⟨R, 1, none⟩ (.int .i64 ((p : Int) + 1))).drewN m).cell? ⟨L, x, none⟩ = some (.int .i64 (ls[x]'hx')) :=
  (World.cell?_setCell_other w ⟨R, 1, none⟩ ⟨L, x, none⟩ _ (fun e => hL (by injection e with e1 _; exact e1.symm))).trans (HCC.out x hx')
 go_wp2_with fail
 go_ret
 exact ⟨x, hx', m, rfl, rfl⟩
def DG (w : World) (e : Ending) (w' : World) : Prop :=
 ∃ A len cap, e = .returned (.pointer (some ⟨w.heap.size, 0, none⟩)) ∧ Rd w' w.heap.size A len cap 0 ∧ Below w.heap.size w w'
def Bytes (w : World) (A : Option Addr) (len : Nat) : Prop :=
 0 < len → ∃ b off, A = some ⟨b, off, none⟩ ∧ b < w.heap.size ∧ ∀ k, k < len → ∃ c : UInt8, w.cell? ⟨b, off + k, none⟩ = some (.int .u8 c.toNat)
theorem BU (w : World) (A : Option Addr) (len cap : Nat) (hb : Bytes w A len) (hl : len ≤ 2000) : Rd (w.alloc (.cells #[.slice A len cap, .int .i64 0] 136)) w.heap.size A len cap 0 := by
 refine ⟨Blk.new _ _ _, fun hpos => ?_, hl⟩
 obtain ⟨b, off, rfl, hlt, hc⟩ := hb hpos
 refine ⟨b, off, rfl, by simp; omega, by omega, fun k hk => ?_⟩
 obtain ⟨c, hcc⟩ := hc k hk
 exact ⟨c, (World.cell?_alloc_lt w _ ⟨b, off + k, none⟩ hlt).trans hcc⟩
theorem vT (A : Option Addr) (len cap : Nat) (w : World) (hb : Bytes w A len) (hlc : len ≤ cap) (hl : cap ≤ 9223372036854775807) :
  Calls Tryz.prog 51 #[.slice A len cap] w (DG w) := by
 by_cases h : (2000 : Int) < len
 ·obtain ⟨b, off, rfl, hlt, hc⟩ := hb (by omega)
  have HC := GR hc
  have h2 : (2000 : Int) ≤ cap := by omega
  clear hc hb
  go_enter Tryz.func51, Tryz.ntmps51
  go_wp2_with fail
  exact bodyPost_ret (v := .pointer (some ⟨w.heap.size, 0, none⟩)) (by simp [results, Tryz.results51, go_sem]) rfl
   ⟨_, 2000, cap, rfl, BU w _ 2000 cap (fun _ => ⟨b, off, rfl, hlt, fun k hk => HC.out k (by omega)⟩) (Nat.le_refl _), (Below.refl _ _).alloc (Nat.le_refl _) _⟩
 ·have HB := GR hb
  clear hb
  go_enter Tryz.func51, Tryz.ntmps51
  go_wp2_with fail
  exact bodyPost_ret (v := .pointer (some ⟨w.heap.size, 0, none⟩)) (by simp [results, Tryz.results51, go_sem]) rfl
   ⟨A, len, cap, rfl, BU w A len cap HB.out (by omega), (Below.refl _ _).alloc (Nat.le_refl _) _⟩
end Go.Proofs.YtlkfakdghjaoaaaGreatDoor
namespace Go.Proofs.YtlkfakdghjaoaaaGreatDoor
open Go.RowKit Go.Sort
theorem Rd.below {w w' : World} {R : Nat} {A : Option Addr} {len cap p : Nat} (h : Rd w R A len cap p) (hb : Below w.heap.size w w') : Rd w' R A len cap p := by
 refine ⟨h.blk.below hb h.blk.lt, fun hl => ?_, h.small⟩
 obtain ⟨b, off, rfl, hlt, hne, hc⟩ := h.bytes hl
 have := hb.size
 refine ⟨b, off, rfl, by omega, hne, fun k hk => ?_⟩
 obtain ⟨c, hcc⟩ := hc k hk
 exact ⟨c, (hb.cell (p := ⟨b, off + k, none⟩) hlt).trans hcc⟩
def Gv (R : Nat) (A : Option Addr) (len cap p n : Nat) (w : World) (e : Ending) (w' : World) : Prop :=
 ∃ x : Nat, e = .returned (.int .i64 x) ∧ x < n ∧ Only R w w' ∧ Rd w' R A len cap (p + 1)
theorem kK (R : Nat) (A : Option Addr) (len cap p : Nat) (n : Nat) (w : World) (h : Rd w R A len cap p) (hn : 1 ≤ n) (hn2 : n ≤ 1000) (hp : p ≤ 1048576) :
  Calls Tryz.prog 90 #[.pointer (some ⟨R, 0, none⟩), .int .i64 n] w (Gv R A len cap p n w) := by
 refine (pW R A len cap p n w h hn hn2 hp).mono ?_
 rintro e w' ⟨x, m, rfl, hx, rfl⟩
 exact ⟨x, rfl, by omega, Only.step _ _ _ _, h.next m⟩
def GL (R : Nat) (A : Option Addr) (len cap p : Nat) (ls : List Int) (w : World) (e : Ending) (w' : World) : Prop :=
 ∃ z : Int, e = .returned (.int .i64 z) ∧ z ∈ ls ∧ Only R w w' ∧ Rd w' R A len cap (p + 1)
theorem vU (R : Nat) (A : Option Addr) (len cap p : Nat) (ls : List Int) (w : World) (h : Rd w R A len cap p) (h1 : 1 ≤ ls.length) (h2 : ls.length ≤ 1000) (hp : p ≤ 1048576) :
  Calls Tryz.prog 92 #[.pointer (some ⟨R, 0, none⟩), .slice (some ⟨w.heap.size, 0, none⟩) ls.length ls.length] (w.alloc (.cells (ls.map (Value.int .i64)).toArray 3)) (GL R A len cap p ls w) := by
 have hR := h.blk.lt
 have hr := h.below ((Below.refl w.heap.size w).alloc (Nat.le_refl _) (.cells (ls.map (Value.int .i64)).toArray 3))
 refine (ES R A len cap p w.heap.size ls _ hr (by omega) (fun j hj => ?_) h1 h2 hp).mono ?_
 ·rw [(Blk.new w 3 (ls.map (Value.int .i64)).toArray).cell j]
  simp [hj]
 ·rintro e w' ⟨x, hx, m, rfl, rfl⟩
  exact ⟨_, rfl, List.getElem_mem hx, ((Only.refl R w).alloc _).trans (Only.step _ _ _ _), hr.next m⟩
def GQ (R : Nat) (A : Option Addr) (len cap p : Nat) (ls : List ByteArray) (w : World) (e : Ending) (w' : World) : Prop :=
 ∃ s : ByteArray, e = .returned (.string s) ∧ s ∈ ls ∧ Only R w w' ∧ Rd w' R A len cap (p + 1)
theorem Eh (R : Nat) (A : Option Addr) (len cap p : Nat) (ls : List ByteArray) (w : World) (h : Rd w R A len cap p) (h1 : 1 ≤ ls.length) (h2 : ls.length ≤ 1000) (hp : p ≤ 1048576) :
  Calls Tryz.prog 123 #[.pointer (some ⟨R, 0, none⟩), .slice (some ⟨w.heap.size, 0, none⟩) ls.length ls.length] (w.alloc (.cells (ls.map Value.string).toArray 9)) (GQ R A len cap p ls w) := by
 have hR := h.blk.lt
 have hr := h.below ((Below.refl w.heap.size w).alloc (Nat.le_refl _) (.cells (ls.map Value.string).toArray 9))
 refine (FH R A len cap p w.heap.size ls _ hr (by omega) (fun j hj => ?_) h1 h2 hp).mono ?_
 ·rw [(Blk.new w 9 (ls.map Value.string).toArray).cell j]
  simp [hj]
 ·rintro e w' ⟨x, hx, m, rfl, rfl⟩
  exact ⟨_, rfl, List.getElem_mem hx, ((Only.refl R w).alloc _).trans (Only.step _ _ _ _), hr.next m⟩
end Go.Proofs.YtlkfakdghjaoaaaGreatDoor

set_option maxRecDepth 100000
namespace Go.Proofs.YtlkfakdghjaoaaaGreatDoor
open Go.RowKit Go.Sort
def tb (s : List UInt8) : ByteArray := ⟨s.toArray⟩
theorem aB (s : List UInt8) : (tb s).size = s.length := by show s.toArray.size = _; simp
theorem an (s : List UInt8) : (tb s).toList = s := by rw [Lib.toList_data]; simp [tb]
theorem aI (s : List UInt8) : (tb s).data.toList = s := by simp [tb]
theorem uF (b : ByteArray) : tb b.data.toList = b := by apply bg; rw [aI]
theorem yB (c : UInt8) (s : List UInt8) : (tb (c :: s)).extract 0 1 = tb [c] := by
 apply bg; rw [← Lib.toList_data, Lib.extract_toList, aI, aI]; simp
theorem yC (c : UInt8) (s : List UInt8) : (tb (c :: s)).extract 1 (s.length + 1) = tb s := by
 apply bg; rw [← Lib.toList_data, Lib.extract_toList, aI, aI]; simp
def pk (e : Ending) : Prop := ∃ v, e = .panicked [{ v := .iface 9 (.string v), recovered := false }]
def Rdr (w : World) (R : Nat) (s : List UInt8) (f : Nat) : Prop := Blk w R 143 #[.string (tb s), .int .i64 f]
theorem Rdr.to {w : World} {R : Nat} {s : List UInt8} {f : Nat} (h : Rdr w R s f) (t : List UInt8) : Rdr (w.setCell ⟨R, 0, none⟩ (.string (tb t))) R t f := Blk.set_ h 0 _
theorem Rdr.in_ {w : World} {R : Nat} {s : List UInt8} {f : Nat} (h : Rdr w R s f) (k : Nat) : Rdr (w.setCell ⟨R, 1, none⟩ (.int .i64 k)) R s k := Blk.set_ h 1 _
theorem Rdr.left {w : World} {R : Nat} {s : List UInt8} {f : Nat} (h : Rdr w R s f) : w.cell? ⟨R, 0, none⟩ = some (.string (tb s)) := Blk.cell h 0
theorem Rdr.frames {w : World} {R : Nat} {s : List UInt8} {f : Nat} (h : Rdr w R s f) : w.cell? ⟨R, 1, none⟩ = some (.int .i64 f) := Blk.cell h 1
theorem Only.set (R : Nat) (w : World) (i : Nat) (u : Value) : Only R w (w.setCell ⟨R, i, none⟩ u) :=
 ⟨rfl, rfl, rfl, by simp, fun k hk _ => Below.heap_setCell w ⟨R, i, none⟩ u k hk⟩
theorem kL (R f : Nat) (w : World) (h : Rdr w R [] f) :
  Calls Tryz.prog 182 #[.pointer (some ⟨R, 0, none⟩)] w fun e w' => pk e ∧ w' = w := by
 have c0 := h.left
 have t1 : ((tb []).toList == ([] : List UInt8)) = true := by rw [an]; rfl
 clear h
 go_enter Tryz.func182, Tryz.ntmps182
 go_wp2_with fail
 exact ⟨rfl, ⟨_, rfl⟩, rfl⟩
theorem dA (R f : Nat) (c : UInt8) (s : List UInt8) (w : World) (h : Rdr w R (c :: s) f) :
  Calls Tryz.prog 182 #[.pointer (some ⟨R, 0, none⟩)] w fun e w' => e = .returned (.string (tb [c])) ∧ w' = w.setCell ⟨R, 0, none⟩ (.string (tb s)) := by
 have c0 := h.left
 have f0 : w.frozen? ⟨R, 0, none⟩ = false := Blk.frozen h 0
 have HT := GR (yC c s)
 have HH := GR (yB c s)
 obtain ⟨x, hx⟩ : ∃ x, x = tb (c :: s) := ⟨_, rfl⟩
 have hz : x.size = s.length + 1 := by rw [hx, aB]; rfl
 have t1 : (x.toList == ([] : List UInt8)) = false := by rw [hx, an]; rfl
 rw [← hx] at c0 HT HH
 have l1 : 1 ≤ x.size := by omega
 have l2 : (1 : Int) ≤ (x.size : Int) := by omega
 rw [← hz] at HT
 clear h hx hz
 go_enter Tryz.func182, Tryz.ntmps182
 go_wp2_with fail
 go_ret
 exact ⟨by rw [HH.out]; rfl, by rw [HT.out]⟩
theorem Gw {c x : UInt8} (h : c ≠ x) : ((tb [c]).toList == (tb [x]).toList) = false := by
 rw [an, an]; simpa using h
theorem pY (R f : Nat) (c : UInt8) (s : List UInt8) (w : World) (h : Rdr w R (c :: s) f) :
  Calls Tryz.prog 209 #[.pointer (some ⟨R, 0, none⟩), .string (tb [c])] w fun e w' => e = .returned (.tuple #[]) ∧ w' = w.setCell ⟨R, 0, none⟩ (.string (tb s)) := by
 have HC := GR (dA R f c s w h)
 have t1 : ((tb [c]).toList == (tb [c]).toList) = true := by simp
 have t2 : ((tb [c]).toList != (tb [c]).toList) = false := by simp
 clear h
 go_enter Tryz.func209, Tryz.ntmps209
 go_wp2_with fail
 refine HC.out.mono ?_
 rintro e w1 ⟨rfl, rfl⟩
 go_wp2_with fail
 first | (go_ret; exact ⟨rfl, rfl⟩) | (go_end0; exact ⟨rfl, rfl⟩) | go_end0
theorem sd (R f : Nat) (x : UInt8) (s : List UInt8) (w : World) (h : Rdr w R s f) (hx : ∀ t, s ≠ x :: t) :
  Calls Tryz.prog 209 #[.pointer (some ⟨R, 0, none⟩), .string (tb [x])] w fun e w' => pk e ∧ Only R w w' := by
 cases s with
 | nil =>
  have HC := GR (kL R f w h)
  clear h
  go_enter Tryz.func209, Tryz.ntmps209
  go_wp2_with fail
  refine HC.out.mono ?_
  rintro e w1 ⟨⟨v, rfl⟩, rfl⟩
  go_wp2_with fail
  exact ⟨rfl, ⟨_, rfl⟩, Only.refl _ _⟩
 | cons c t =>
  have HC := GR (dA R f c t w h)
  have hne : c ≠ x := fun e => hx t (by rw [e])
  have t1 := Gw hne
  clear h hx hne
  go_enter Tryz.func209, Tryz.ntmps209
  go_wp2_with fail
  refine HC.out.mono ?_
  rintro e w1 ⟨rfl, rfl⟩
  go_wp2_with fail
  exact ⟨rfl, ⟨_, rfl⟩, Only.set R w 0 _⟩
theorem EW (R f : Nat) (w : World) (h : Rdr w R [] f) :
  Calls Tryz.prog 99 #[.pointer (some ⟨R, 0, none⟩)] w fun e w' => e = .returned (.tuple #[]) ∧ w' = w := by
 have c0 := h.left
 have t1 : ((tb []).toList == ([] : List UInt8)) = true := by rw [an]; rfl
 clear h
 go_enter Tryz.func99, Tryz.ntmps99
 go_wp2_with fail
 first | (go_ret; exact ⟨rfl, rfl⟩) | (go_end0; exact ⟨rfl, rfl⟩) | go_end0
theorem FJ (R f : Nat) (c : UInt8) (s : List UInt8) (w : World) (h : Rdr w R (c :: s) f) :
  Calls Tryz.prog 99 #[.pointer (some ⟨R, 0, none⟩)] w fun e w' => pk e ∧ w' = w := by
 have c0 := h.left
 have t1 : ((tb (c :: s)).toList == ([] : List UInt8)) = false := by rw [an]; rfl
 clear h
 go_enter Tryz.func99, Tryz.ntmps99
 go_wp2_with fail
 exact ⟨rfl, ⟨_, rfl⟩, rfl⟩
theorem vY (c : UInt8) : eQ (tb [c]) = a7 c := by
 unfold eQ
 rw [aB, aI]; simp
theorem vZ (R : Nat) (c : UInt8) (w : World) (hc : a7 c = true) :
  Calls Tryz.prog 183 #[.pointer (some ⟨R, 0, none⟩), .string (tb [c])] w fun e w' => e = .returned (.string (tb [c])) ∧ w' = w := by
 have HC := GR (by have := hU (tb [c]) w; rw [vY, hc] at this; exact this : Calls Tryz.prog 105 #[.string (tb [c])] w fun e w' => e = .returned (.bool true) ∧ w = w')
 go_enter Tryz.func183, Tryz.ntmps183
 go_wp2_with fail
 refine HC.out.mono ?_
 rintro e w1 ⟨rfl, rfl⟩
 go_wp2_with fail
 go_ret
 exact ⟨rfl, rfl⟩
theorem yD (R : Nat) (c : UInt8) (w : World) (hc : a7 c = false) :
  Calls Tryz.prog 183 #[.pointer (some ⟨R, 0, none⟩), .string (tb [c])] w fun e w' => pk e ∧ w' = w := by
 have HC := GR (by have := hU (tb [c]) w; rw [vY, hc] at this; exact this : Calls Tryz.prog 105 #[.string (tb [c])] w fun e w' => e = .returned (.bool false) ∧ w = w')
 go_enter Tryz.func183, Tryz.ntmps183
 go_wp2_with fail
 refine HC.out.mono ?_
 rintro e w1 ⟨rfl, rfl⟩
 go_wp2_with fail
 exact ⟨rfl, ⟨_, rfl⟩, rfl⟩
def se : List UInt8 := [48, 49, 50, 51, 52, 53, 54, 55, 56, 57]
theorem yE : ∀ n, n < 10 → Lib.indexByte se (dH n) = (n : Int) := by decide
theorem DH {c : UInt8} (h : c ∈ se) : ∃ n, n < 10 ∧ c = dH n := by
 unfold se at h
 simp only [List.mem_cons, List.not_mem_nil, or_false] at h
 rcases h with h | h | h | h | h | h | h | h | h | h
 ·exact ⟨0, by decide, h⟩
 ·exact ⟨1, by decide, h⟩
 ·exact ⟨2, by decide, h⟩
 ·exact ⟨3, by decide, h⟩
 ·exact ⟨4, by decide, h⟩
 ·exact ⟨5, by decide, h⟩
 ·exact ⟨6, by decide, h⟩
 ·exact ⟨7, by decide, h⟩
 ·exact ⟨8, by decide, h⟩
 ·exact ⟨9, by decide, h⟩
theorem DI (c : UInt8) (W : World) : Calls Tryz.prog 107 #[.string ⟨#[48, 49, 50, 51, 52, 53, 54, 55, 56, 57]⟩, .string (tb [c])] W fun e w' => e = .returned (.int .i64 (Lib.indexByte se c)) ∧ w' = W :=
 Tryz.strings_Index_one ⟨#[48, 49, 50, 51, 52, 53, 54, 55, 56, 57]⟩ c W
theorem tG (R f n lim : Nat) (s : List UInt8) (w : World) (h : Rdr w R (dH n :: s) f) (h10 : n < 10) (hl : n < lim) :
  Calls Tryz.prog 186 #[.pointer (some ⟨R, 0, none⟩), .int .i64 lim] w fun e w' => e = .returned (.int .i64 n) ∧ w' = w.setCell ⟨R, 0, none⟩ (.string (tb s)) := by
 have HC := GR (dA R f (dH n) s w h)
 have HI := GR (fun W => (by have := Tryz.strings_Index_one ⟨#[48, 49, 50, 51, 52, 53, 54, 55, 56, 57]⟩ (dH n) W; rw [show Lib.indexByte (⟨#[48, 49, 50, 51, 52, 53, 54, 55, 56, 57]⟩ : ByteArray).data.toList (dH n) = (n : Int) from yE n h10] at this; exact this : Calls Tryz.prog 107 #[.string ⟨#[48, 49, 50, 51, 52, 53, 54, 55, 56, 57]⟩, .string (tb [dH n])] W fun e w' => e = .returned (.int .i64 n) ∧ w' = W))
 have q1 : decide ((lim : Int) ≤ (n : Int)) = false := decide_eq_false (by omega)
 have q2 : ¬ lim ≤ n := by omega
 clear h
 go_enter Tryz.func186, Tryz.ntmps186
 go_wp2_with fail
 refine HC.out.mono ?_
 rintro e w1 ⟨rfl, rfl⟩
 go_wp2_with fail
 refine (HI.out _).mono ?_
 rintro e w2 ⟨rfl, rfl⟩
 go_wp2_with fail
 go_ret
 exact ⟨rfl, rfl⟩
theorem wd (R f lim : Nat) (s : List UInt8) (w : World) (h : Rdr w R s f) (hx : ∀ n t, n < 10 → n < lim → s ≠ dH n :: t) :
  Calls Tryz.prog 186 #[.pointer (some ⟨R, 0, none⟩), .int .i64 lim] w fun e w' => pk e ∧ Only R w w' := by
 cases s with
 | nil =>
  have HC := GR (kL R f w h)
  clear h
  go_enter Tryz.func186, Tryz.ntmps186
  go_wp2_with fail
  refine HC.out.mono ?_
  rintro e w1 ⟨⟨v, rfl⟩, rfl⟩
  go_wp2_with fail
  exact ⟨rfl, ⟨_, rfl⟩, Only.refl _ _⟩
 | cons c t =>
  have HC := GR (dA R f c t w h)
  have HI := GR (fun W => DI c W)
  clear h
  by_cases hm : c ∈ se
  ·obtain ⟨n, hn, rfl⟩ := DH hm
   have hl : ¬ n < lim := fun hl => hx n t hn hl rfl
   rw [yE n hn] at HI
   have q1 : decide ((lim : Int) ≤ (n : Int)) = true := decide_eq_true (by omega)
   have q2 : lim ≤ n := by omega
   clear hx hm
   go_enter Tryz.func186, Tryz.ntmps186
   go_wp2_with fail
   refine HC.out.mono ?_
   rintro e w1 ⟨rfl, rfl⟩
   go_wp2_with fail
   refine (HI.out _).mono ?_
   rintro e w2 ⟨rfl, rfl⟩
   go_wp2_with fail
   exact ⟨rfl, ⟨_, rfl⟩, Only.set R w 0 _⟩
  ·have hneg := rL.2 hm
   obtain ⟨z, hz⟩ : ∃ z, z = Lib.indexByte se c := ⟨_, rfl⟩
   rw [← hz] at HI hneg
   have q1 : decide (z < 0) = true := decide_eq_true hneg
   clear hx hm hz
   go_enter Tryz.func186, Tryz.ntmps186
   go_wp2_with fail
   refine HC.out.mono ?_
   rintro e w1 ⟨rfl, rfl⟩
   go_wp2_with fail
   refine (HI.out _).mono ?_
   rintro e w2 ⟨rfl, rfl⟩
   go_wp2_with fail
   exact ⟨rfl, ⟨_, rfl⟩, Only.set R w 0 _⟩
end Go.Proofs.YtlkfakdghjaoaaaGreatDoor
namespace Go.Proofs.YtlkfakdghjaoaaaGreatDoor
open Go.RowKit Go.Sort
def Reads (w : World) (P : Nat → Prop) (v : Value) (vs : List Value) : Prop :=
 ∃ A cap, v = .slice A vs.length cap ∧ (0 < vs.length → ∃ b off, A = some ⟨b, off, none⟩ ∧ b < w.heap.size ∧ P b ∧ ∀ k (h : k < vs.length), w.cell? ⟨b, off + k, none⟩ = some vs[k])
mutual
def ItemAt (w : World) (P : Nat → Prop) : It → Value → Prop
 | .blk c, v => v = .iface 152 (.agg #[.string (tb [c])])
 | .ask c l r, v => ∃ vl vr xs ys, v = .iface 154 (.agg #[.string (tb [c]), vl, vr]) ∧ Reads w P vl xs ∧ AllAt w P l xs ∧ Reads w P vr ys ∧ AllAt w P r ys
 | .stop, v => v = .iface 248 (.agg #[])
 | .frame b l, v => ∃ vl xs, v = .iface 147 (.agg #[.bool b, vl]) ∧ Reads w P vl xs ∧ AllAt w P l xs
 | .leave n, v => v = .iface 218 (.agg #[.int .i64 n])
 | .set n, v => v = .iface 220 (.agg #[.int .i64 n])
 | .pick bs, v => ∃ vb xs, v = .iface 222 (.agg #[vb]) ∧ Reads w P vb xs ∧ AllRows w P bs xs
def AllAt (w : World) (P : Nat → Prop) : List It → List Value → Prop
 | [], vs => vs = []
 | i :: l, vs => ∃ v t, vs = v :: t ∧ ItemAt w P i v ∧ AllAt w P l t
def AllRows (w : World) (P : Nat → Prop) : List (List It) → List Value → Prop
 | [], vs => vs = []
 | b :: bs, vs => ∃ v t xs, vs = v :: t ∧ Reads w P v xs ∧ AllAt w P b xs ∧ AllRows w P bs t
end
def RowAt (w : World) (P : Nat → Prop) (l : List It) (v : Value) : Prop := ∃ xs, Reads w P v xs ∧ AllAt w P l xs
def RowsAt (w : World) (P : Nat → Prop) (bs : List (List It)) (v : Value) : Prop := ∃ xs, Reads w P v xs ∧ AllRows w P bs xs
structure Stay (w : World) (P : Nat → Prop) (w' : World) (P' : Nat → Prop) : Prop where
 size : w.heap.size ≤ w'.heap.size
 same : ∀ b, b < w.heap.size → P b → P' b ∧ w'.heap[b]? = w.heap[b]?
theorem dG {w w' : World} {b : Nat} (h : w'.heap[b]? = w.heap[b]?) (o : Nat) : w'.cell? ⟨b, o, none⟩ = w.cell? ⟨b, o, none⟩ := by
 unfold World.cell?
 rw [h]
theorem Reads.stay {w w' : World} {P P' : Nat → Prop} {v : Value} {vs : List Value} (h : Reads w P v vs) (k : Stay w P w' P') : Reads w' P' v vs := by
 obtain ⟨A, cap, e, hc⟩ := h
 refine ⟨A, cap, e, fun hl => ?_⟩
 obtain ⟨b, off, e2, hb, hp, hcell⟩ := hc hl
 obtain ⟨hp', hs⟩ := k.same b hb hp
 exact ⟨b, off, e2, Nat.lt_of_lt_of_le hb k.size, hp', fun j hj => (dG hs _).trans (hcell j hj)⟩
mutual
theorem ItemAt.stay {w w' : World} {P P' : Nat → Prop} (k : Stay w P w' P') : ∀ (i : It) (v : Value), ItemAt w P i v → ItemAt w' P' i v
 | .blk c, v, h => by rw [ItemAt] at h ⊢; exact h
 | .ask c l r, v, h => by
  rw [ItemAt] at h ⊢
  obtain ⟨vl, vr, xs, ys, e, h1, h2, h3, h4⟩ := h
  exact ⟨vl, vr, xs, ys, e, h1.stay k, AllAt.stay k l xs h2, h3.stay k, AllAt.stay k r ys h4⟩
 | .stop, v, h => by rw [ItemAt] at h ⊢; exact h
 | .frame b l, v, h => by
  rw [ItemAt] at h ⊢
  obtain ⟨vl, xs, e, h1, h2⟩ := h
  exact ⟨vl, xs, e, h1.stay k, AllAt.stay k l xs h2⟩
 | .leave n, v, h => by rw [ItemAt] at h ⊢; exact h
 | .set n, v, h => by rw [ItemAt] at h ⊢; exact h
 | .pick bs, v, h => by
  rw [ItemAt] at h ⊢
  obtain ⟨vb, xs, e, h1, h2⟩ := h
  exact ⟨vb, xs, e, h1.stay k, AllRows.stay k bs xs h2⟩
theorem AllAt.stay {w w' : World} {P P' : Nat → Prop} (k : Stay w P w' P') : ∀ (l : List It) (vs : List Value), AllAt w P l vs → AllAt w' P' l vs
 | [], vs, h => by rw [AllAt] at h ⊢; exact h
 | i :: l, vs, h => by
  rw [AllAt] at h ⊢
  obtain ⟨v, t, e, h1, h2⟩ := h
  exact ⟨v, t, e, ItemAt.stay k i v h1, AllAt.stay k l t h2⟩
theorem AllRows.stay {w w' : World} {P P' : Nat → Prop} (k : Stay w P w' P') : ∀ (bs : List (List It)) (vs : List Value), AllRows w P bs vs → AllRows w' P' bs vs
 | [], vs, h => by rw [AllRows] at h ⊢; exact h
 | b :: bs, vs, h => by
  rw [AllRows] at h ⊢
  obtain ⟨v, t, xs, e, h1, h2, h3⟩ := h
  exact ⟨v, t, xs, e, h1.stay k, AllAt.stay k b xs h2, AllRows.stay k bs t h3⟩
end
theorem RowAt.stay {w w' : World} {P P' : Nat → Prop} {l : List It} {v : Value} (h : RowAt w P l v) (k : Stay w P w' P') : RowAt w' P' l v := by
 obtain ⟨xs, h1, h2⟩ := h
 exact ⟨xs, h1.stay k, AllAt.stay k l xs h2⟩
theorem RowsAt.stay {w w' : World} {P P' : Nat → Prop} {bs : List (List It)} {v : Value} (h : RowsAt w P bs v) (k : Stay w P w' P') : RowsAt w' P' bs v := by
 obtain ⟨xs, h1, h2⟩ := h
 exact ⟨xs, h1.stay k, AllRows.stay k bs xs h2⟩
theorem AllAt.len {w : World} {P : Nat → Prop} : ∀ {l : List It} {vs : List Value}, AllAt w P l vs → vs.length = l.length
 | [], vs, h => by rw [AllAt] at h; rw [h]; rfl
 | i :: l, vs, h => by rw [AllAt] at h; obtain ⟨v, t, e, _, h2⟩ := h; rw [e, List.length_cons, List.length_cons, h2.len]
theorem AllRows.len {w : World} {P : Nat → Prop} : ∀ {l : List (List It)} {vs : List Value}, AllRows w P l vs → vs.length = l.length
 | [], vs, h => by rw [AllRows] at h; rw [h]; rfl
 | i :: l, vs, h => by rw [AllRows] at h; obtain ⟨v, t, xs, e, _, _, h2⟩ := h; rw [e, List.length_cons, List.length_cons, h2.len]
theorem AllAt.nil (w : World) (P : Nat → Prop) : AllAt w P [] [] := by rw [AllAt]
theorem AllAt.snoc {w : World} {P : Nat → Prop} {i : It} {v : Value} (hi : ItemAt w P i v) : ∀ {l : List It} {vs : List Value}, AllAt w P l vs → AllAt w P (l ++ [i]) (vs ++ [v])
 | [], vs, h => by rw [AllAt] at h; rw [h, List.nil_append, List.nil_append, AllAt]; exact ⟨v, [], rfl, hi, AllAt.nil w P⟩
 | j :: l, vs, h => by
  rw [AllAt] at h
  obtain ⟨u, t, e, h1, h2⟩ := h
  rw [e, List.cons_append, List.cons_append, AllAt]
  exact ⟨u, t ++ [v], rfl, h1, AllAt.snoc hi h2⟩
theorem AllRows.nil (w : World) (P : Nat → Prop) : AllRows w P [] [] := by rw [AllRows]
theorem AllRows.snoc {w : World} {P : Nat → Prop} {b : List It} {v : Value} (hb : RowAt w P b v) : ∀ {l : List (List It)} {vs : List Value}, AllRows w P l vs → AllRows w P (l ++ [b]) (vs ++ [v])
 | [], vs, h => by
  obtain ⟨xs, h1, h2⟩ := hb
  rw [AllRows] at h; rw [h, List.nil_append, List.nil_append, AllRows]; exact ⟨v, [], xs, rfl, h1, h2, AllRows.nil w P⟩
 | j :: l, vs, h => by
  rw [AllRows] at h
  obtain ⟨u, t, xs, e, h1, h2, h3⟩ := h
  rw [e, List.cons_append, List.cons_append, AllRows]
  exact ⟨u, t ++ [v], xs, rfl, h1, h2, AllRows.snoc hb h3⟩
theorem gW {w : World} {base : Nat} {e : TypeId} {v : Value} {n : Nat} {xs : List Value} (h : w.ownsRow base e 1 v n xs) (hn : n = xs.length) : Reads w (fun b => base ≤ b) v xs := by
 rcases h.2 with ⟨rfl, h0⟩ | ⟨gb, cap, cur, hv, hb, hg, _⟩
 ·exact ⟨none, 0, by rw [← hn, h0], fun hpos => absurd hpos (by omega)⟩
 ·subst hv
  subst hn
  refine ⟨_, _, rfl, fun _ => ⟨gb, 0, rfl, ?_, hb, fun j hj => ?_⟩⟩
  ·rcases Nat.lt_or_ge gb w.heap.size with h' | h'
   ·exact h'
   ·rw [Array.getElem?_eq_none h'] at hg; cases hg
  ·have hc := h.cellAt j (by omega)
   rw [List.getElem?_eq_getElem hj] at hc
   rw [Nat.zero_add]; exact hc
end Go.Proofs.YtlkfakdghjaoaaaGreatDoor
namespace Go.Proofs.YtlkfakdghjaoaaaGreatDoor
open Go.RowKit Go.Sort
abbrev bi (w : World) : Nat → Prop := fun b => w.heap.size ≤ b
def BV (R f : Nat) (s : List UInt8) (w : World) (e : Ending) (w' : World) : Prop :=
 (∃ l r v, RdL f s l r ∧ e = .returned v ∧ v.oneCell' = true ∧ RowAt w' (bi w) l v ∧ Rdr w' R r f ∧ Only R w w') ∨ (pk e ∧ Cn f s ∧ Only R w w')
def eN (R f : Nat) (s : List UInt8) (w : World) (e : Ending) (w' : World) : Prop :=
 (∃ i r v, RdI f s i r ∧ e = .returned v ∧ v.oneCell' = true ∧ ItemAt w' (bi w) i v ∧ Rdr w' R r f ∧ Only R w w') ∨ (pk e ∧ dB f s ∧ Only R w w')
def FK (R f : Nat) (s : List UInt8) (w : World) (e : Ending) (w' : World) : Prop :=
 (∃ l r v, RdB f s l r ∧ e = .returned v ∧ v.oneCell' = true ∧ RowAt w' (bi w) l v ∧ Rdr w' R r f ∧ Only R w w') ∨ (pk e ∧ tV f s ∧ Only R w w')
def fD (n : Nat) : Prop := ∀ (R f : Nat) (s : List UInt8) (w : World), s.length ≤ n → f ≤ 9 → Rdr w R s f →
 Calls Tryz.prog 98 #[.pointer (some ⟨R, 0, none⟩)] w (BV R f s w)
theorem Rdr.lt {w : World} {R : Nat} {s : List UInt8} {f : Nat} (h : Rdr w R s f) : R < w.heap.size := Blk.lt h
theorem gP {w w1 : World} {R : Nat} (hR : R < w.heap.size) (i : Nat) (u : Value) : Stay w1 (bi w) (w1.setCell ⟨R, i, none⟩ u) (bi w) :=
 ⟨by simp, fun b hb hp => ⟨hp, Below.heap_setCell w1 ⟨R, i, none⟩ u b (by show b ≠ R; have : w.heap.size ≤ b := hp; omega)⟩⟩
theorem eF {w : World} (R i : Nat) (u : Value) : bi (w.setCell ⟨R, i, none⟩ u) = bi w := by
 funext b; unfold bi; simp
theorem ll (n : Nat) (HI : fD n) (R f : Nat) (s : List UInt8) (w : World) (hs : s.length ≤ n + 1) (hf : f ≤ 9) (h : Rdr w R s f) :
  Calls Tryz.prog 184 #[.pointer (some ⟨R, 0, none⟩)] w (FK R f s w) := by
 have HIX := GR HI
 clear HI
 by_cases hb : ∃ t, s = 91 :: t
 ·obtain ⟨t, rfl⟩ := hb
  have HN := GR (pY R f 91 t w h)
  have HT := GR (HIX.out R f t _ (by simpa using hs) hf (h.to t))
  have hR := h.lt
  clear h
  go_enter Tryz.func184, Tryz.ntmps184
  go_wp2_with fail
  refine HN.out.mono ?_
  rintro e w1 ⟨rfl, rfl⟩
  go_wp2_with fail
  refine HT.out.mono ?_
  rintro e w2 (⟨l, r, v, hl, rfl, h1c, hrow, hr, ho⟩ | ⟨⟨u, rfl⟩, hno, ho⟩)
  ·have HL := GR hl
   have HROW := GR hrow
   have HO := GR ho
   have H1 := GR h1c
   by_cases hr93 : ∃ q, r = 93 :: q
   ·obtain ⟨q, rfl⟩ := hr93
    have HN2 := GR (pY R f 93 q w2 hr)
    have HR2 := GR (hr.to q)
    clear hl hrow ho hr h1c
    go_wp2_with fail
    refine HN2.out.mono ?_
    rintro e w3 ⟨rfl, rfl⟩
    go_wp2_with fail
    go_ret
    refine .inl ⟨l, q, v, F4 HL.out, rfl, H1.out, ?_, HR2.out, ((Only.set R w 0 _).trans HO.out).trans (Only.set R w2 0 _)⟩
    have := HROW.out
    rw [eF] at this
    exact this.stay (gP hR 0 _)
   ·have HN2 := GR (sd R f 93 r w2 hr fun q e => hr93 ⟨q, e⟩)
    have HNO := GR (Ff hl fun q e => hr93 ⟨q, e⟩)
    clear hl hrow ho hr h1c hr93
    go_wp2_with fail
    refine HN2.out.mono ?_
    rintro e w3 ⟨⟨u, rfl⟩, ho3⟩
    go_wp2_with fail
    exact ⟨rfl, .inr ⟨⟨_, rfl⟩, HNO.out, ((Only.set R w 0 _).trans HO.out).trans ho3⟩⟩
  ·go_wp2_with fail
   exact ⟨rfl, .inr ⟨⟨_, rfl⟩, Co hno, (Only.set R w 0 _).trans ho⟩⟩
 ·have HN := GR (sd R f 91 s w h fun t e => hb ⟨t, e⟩)
  have HNO := GR (F5 (f := f) fun t e => hb ⟨t, e⟩)
  clear h hb
  go_enter Tryz.func184, Tryz.ntmps184
  go_wp2_with fail
  refine HN.out.mono ?_
  rintro e w1 ⟨⟨u, rfl⟩, ho⟩
  go_wp2_with fail
  exact ⟨rfl, .inr ⟨⟨_, rfl⟩, HNO.out, ho⟩⟩
def FL (R f : Nat) (b : Bool) (s : List UInt8) (w : World) (e : Ending) (w' : World) : Prop :=
 (∃ l r v, f < 9 ∧ RdL (f + 1) s l (gj b :: r) ∧ e = .returned v ∧ v.oneCell' = true ∧ RowAt w' (bi w) l v ∧ Rdr w' R r f ∧ Only R w w') ∨ (pk e ∧ dB f (eG b :: s) ∧ Only R w w')
theorem tH (n : Nat) (HI : fD n) (R f : Nat) (b : Bool) (s : List UInt8) (w : World) (hs : s.length ≤ n) (hf : f ≤ 9) (h : Rdr w R s f) :
  Calls Tryz.prog 185 #[.pointer (some ⟨R, 0, none⟩), .string (tb [gj b])] w (FL R f b s w) := by
 have c1 := h.frames
 have f1 : w.frozen? ⟨R, 1, none⟩ = false := Blk.frozen h 1
 by_cases h9 : f = 9
 ·have t1 : ((f : Int) == 9) = true := by subst h9; rfl
  have HNO := GR (lU b (t := s) (by omega : 9 ≤ f))
  clear HI h h9
  go_enter Tryz.func185, Tryz.ntmps185
  go_wp2_with fail
  exact ⟨rfl, .inr ⟨⟨_, rfl⟩, HNO.out, Only.refl _ _⟩⟩
 ·have t1 : ((f : Int) == 9) = false := beq_eq_false_iff_ne.2 (by omega)
  have hi := h.in_ (f + 1)
  have e1 : ((f + 1 : Nat) : Int) = (f : Int) + 1 := by omega
  rw [e1] at hi
  have HT := GR (HI R (f + 1) s _ hs (by omega) hi)
  have hR := h.lt
  have s2 : IntKind.i64.wrap ((f : Int) + 1 - 1) = (f : Int) := by rw [show (f : Int) + 1 - 1 = (f : Int) by omega]; exact IntWalk.i64_in _ (by omega)
  clear HI h hi
  go_enter Tryz.func185, Tryz.ntmps185
  go_wp2_with fail
  refine HT.out.mono ?_
  rintro e w2 (⟨l, r, v, hl, rfl, h1c, hrow, hr, ho⟩ | ⟨⟨u, rfl⟩, hno, ho⟩)
  ·have d1 := hr.frames
   have g1 : w2.frozen? ⟨R, 1, none⟩ = false := Blk.frozen hr 1
   have hr2 := hr.in_ f
   have HL := GR hl
   have HROW := GR hrow
   have HO := GR ho
   have H1 := GR h1c
   rw [e1] at d1
   by_cases hrc : ∃ q, r = gj b :: q
   ·obtain ⟨q, rfl⟩ := hrc
    have HN2 := GR (pY R f (gj b) q _ hr2)
    have HR2 := GR (hr2.to q)
    clear hl hrow ho hr hr2 h1c
    go_wp2_with fail
    refine HN2.out.mono ?_
    rintro e w3 ⟨rfl, rfl⟩
    go_wp2_with fail
    go_ret
    refine .inl ⟨l, q, v, by omega, HL.out, rfl, H1.out, ?_, HR2.out, (((Only.set R w 1 _).trans HO.out).trans (Only.set R w2 1 _)).trans (Only.set R _ 0 _)⟩
    have := HROW.out
    rw [eF] at this
    exact (this.stay (gP hR 1 _)).stay (gP hR 0 _)
   ·have HN2 := GR (sd R f (gj b) r _ hr2 fun q e => hrc ⟨q, e⟩)
    have HNO := GR (uC b hl fun q e => hrc ⟨q, e⟩)
    clear hl hrow ho hr hr2 h1c hrc
    go_wp2_with fail
    refine HN2.out.mono ?_
    rintro e w3 ⟨⟨u, rfl⟩, ho3⟩
    go_wp2_with fail
    exact ⟨rfl, .inr ⟨⟨_, rfl⟩, HNO.out, (((Only.set R w 1 _).trans HO.out).trans (Only.set R w2 1 _)).trans ho3⟩⟩
  ·go_wp2_with fail
   exact ⟨rfl, .inr ⟨⟨_, rfl⟩, Cs b hno, (Only.set R w 1 _).trans ho⟩⟩
end Go.Proofs.YtlkfakdghjaoaaaGreatDoor

namespace Go.Proofs.YtlkfakdghjaoaaaGreatDoor
structure RSt where
 left : List UInt8
 trace : List UInt8
 num : Nat
 idle : Nat
def RSt.step (s : RSt) : RSt := { s with idle := s.idle + 1 }
def RSt.blk (s : RSt) (c : UInt8) : RSt := { s with trace := s.trace ++ [c], idle := 0 }
inductive ROut
 | next (s : RSt)
 | leave (n : Nat) (s : RSt)
 | fin (e : Nat) (t : List UInt8) (m : Nat)
inductive Tk
 | l (l : List It)
 | i (i : It)
 | f (b : Bool) (l : List It)
def run : Nat → Tk → RSt → Option ROut
 | 0, _, _ => none
 | _ + 1, .l [], s => some (.next s)
 | N + 1, .l (i :: l), s => if s.idle = 4000 then some (.fin 2 s.trace s.num) else
   match run N (.i i) s.step with
   | some (.next s') => run N (.l l) s'
   | r => r
 | _ + 1, .i (.blk c), s => if s.trace.length = 60 then some (.fin 2 s.trace s.num) else some (.next (s.blk c))
 | N + 1, .i (.ask c l r), s => if s.trace.length = 60 then some (.fin 2 s.trace s.num) else
   match s.left with
   | [] => some (.fin 1 (s.blk c).trace s.num)
   | x :: t => run N (.l (if x = 108 then l else r)) { s.blk c with left := t }
 | _ + 1, .i .stop, s => some (.fin 0 s.trace s.num)
 | N + 1, .i (.frame b l), s => run N (.f b l) s
 | _ + 1, .i (.leave n), s => some (.leave n s)
 | _ + 1, .i (.set n), s => some (.next { s with num := n })
 | N + 1, .i (.pick bs), s => match bs[s.num]? with
   | some b => run N (.l b) s
   | none => some (.next s)
 | N + 1, .f b l, s => match run N (.l l) s with
   | some (.leave 0 s') => if b = true then (if s'.idle = 4000 then some (.fin 2 s'.trace s'.num) else run N (.f b l) s'.step) else some (.next s')
   | some (.leave (n + 1) s') => some (.leave n s')
   | r => r
theorem DM : ∀ (N : Nat) (t : Tk) (s : RSt) (o : ROut), run N t s = some o → run (N + 1) t s = some o := by
 intro N
 induction N with
 | zero => intro t s o h; cases h
 | succ N ih =>
  intro t s o h
  match t, h with
  | .l [], h => exact h
  | .l (i :: l), h =>
   rw [run] at h ⊢
   split at h
   ·rename_i hi; rw [if_pos hi]; exact h
   ·rename_i hi
    rw [if_neg hi]
    cases hr : run N (.i i) s.step with
    | none => rw [hr] at h; cases h
    | some r =>
     rw [ih _ _ _ hr]
     rw [hr] at h
     cases r with
     | next s' => exact ih _ _ _ h
     | leave n s' => exact h
     | fin e t m => exact h
  | .i (.blk c), h => exact h
  | .i (.ask c l r), h =>
   rw [run] at h ⊢
   split at h
   ·rename_i hi; rw [if_pos hi]; exact h
   ·rename_i hi
    rw [if_neg hi]
    cases hl : s.left with
    | nil => rw [hl] at h; exact h
    | cons x t => rw [hl] at h; exact ih _ _ _ h
  | .i .stop, h => exact h
  | .i (.frame b l), h => rw [run] at h ⊢; exact ih _ _ _ h
  | .i (.leave n), h => exact h
  | .i (.set n), h => exact h
  | .i (.pick bs), h =>
   rw [run] at h ⊢
   cases hb : bs[s.num]? with
   | none => rw [hb] at h; exact h
   | some b => rw [hb] at h; exact ih _ _ _ h
  | .f b l, h =>
   rw [run] at h ⊢
   cases hr : run N (.l l) s with
   | none => rw [hr] at h; cases h
   | some r =>
    rw [ih _ _ _ hr]
    rw [hr] at h
    cases r with
    | next s' => exact h
    | fin e t m => exact h
    | leave n s' =>
     cases n with
     | succ n => exact h
     | zero =>
      simp only at h ⊢
      split at h
      ·rename_i hb
       rw [if_pos hb]
       split at h
       ·rename_i hi; rw [if_pos hi]; exact h
       ·rename_i hi; rw [if_neg hi]; exact ih _ _ _ h
      ·rename_i hb; rw [if_neg hb]; exact h
theorem lM {N K : Nat} (hk : N ≤ K) {t : Tk} {s : RSt} {o : ROut} (h : run N t s = some o) : run K t s = some o := by
 obtain ⟨d, rfl⟩ := Nat.le.dest hk
 clear hk
 induction d with
 | zero => exact h
 | succ d ih => exact DM _ _ _ _ ih
def Runs (t : Tk) (s : RSt) (o : ROut) : Prop := ∃ N, run N t s = some o
theorem Runs.uniq {t : Tk} {s : RSt} {o o' : ROut} (h : Runs t s o) (h' : Runs t s o') : o = o' := by
 obtain ⟨N, h⟩ := h
 obtain ⟨K, h'⟩ := h'
 have h1 := lM (Nat.le_max_left N K) h
 have h2 := lM (Nat.le_max_right N K) h'
 rw [h1] at h2
 exact Option.some.inj h2
theorem Runs.nil (s : RSt) : Runs (.l []) s (.next s) := ⟨1, rfl⟩
theorem Runs.long {i : It} {l : List It} {s : RSt} (h : s.idle = 4000) : Runs (.l (i :: l)) s (.fin 2 s.trace s.num) := ⟨1, by rw [run, if_pos h]⟩
theorem Runs.cons {i : It} {l : List It} {s s' : RSt} {o : ROut} (h : s.idle ≠ 4000) (h1 : Runs (.i i) s.step (.next s')) (h2 : Runs (.l l) s' o) : Runs (.l (i :: l)) s o := by
 obtain ⟨N, h1⟩ := h1
 obtain ⟨K, h2⟩ := h2
 refine ⟨max N K + 1, ?_⟩
 rw [run, if_neg h, lM (Nat.le_max_left N K) h1]
 exact lM (Nat.le_max_right N K) h2
theorem Runs.cons_leave {i : It} {l : List It} {s s' : RSt} {n : Nat} (h : s.idle ≠ 4000) (h1 : Runs (.i i) s.step (.leave n s')) : Runs (.l (i :: l)) s (.leave n s') := by
 obtain ⟨N, h1⟩ := h1
 exact ⟨N + 1, by rw [run, if_neg h, h1]⟩
theorem Runs.cons_fin {i : It} {l : List It} {s : RSt} {e : Nat} {t : List UInt8} {m : Nat} (h : s.idle ≠ 4000) (h1 : Runs (.i i) s.step (.fin e t m)) : Runs (.l (i :: l)) s (.fin e t m) := by
 obtain ⟨N, h1⟩ := h1
 exact ⟨N + 1, by rw [run, if_neg h, h1]⟩
theorem Runs.blk {c : UInt8} {s : RSt} (h : s.trace.length ≠ 60) : Runs (.i (.blk c)) s (.next (s.blk c)) := ⟨1, by rw [run, if_neg h]⟩
theorem Runs.blkLong {c : UInt8} {s : RSt} (h : s.trace.length = 60) : Runs (.i (.blk c)) s (.fin 2 s.trace s.num) := ⟨1, by rw [run, if_pos h]⟩
theorem Runs.askLong {c : UInt8} {l r : List It} {s : RSt} (h : s.trace.length = 60) : Runs (.i (.ask c l r)) s (.fin 2 s.trace s.num) := ⟨1, by rw [run, if_pos h]⟩
theorem Runs.askNone {c : UInt8} {l r : List It} {s : RSt} (h : s.trace.length ≠ 60) (hl : s.left = []) : Runs (.i (.ask c l r)) s (.fin 1 (s.blk c).trace s.num) := ⟨1, by rw [run, if_neg h, hl]⟩
theorem Runs.ask {c x : UInt8} {l r : List It} {s : RSt} {t : List UInt8} {o : ROut} (h : s.trace.length ≠ 60) (hl : s.left = x :: t) (h1 : Runs (.l (if x = 108 then l else r)) { s.blk c with left := t } o) : Runs (.i (.ask c l r)) s o := by
 obtain ⟨N, h1⟩ := h1
 exact ⟨N + 1, by rw [run, if_neg h, hl]; exact h1⟩
theorem Runs.stop (s : RSt) : Runs (.i .stop) s (.fin 0 s.trace s.num) := ⟨1, rfl⟩
theorem Runs.leave (n : Nat) (s : RSt) : Runs (.i (.leave n)) s (.leave n s) := ⟨1, rfl⟩
theorem Runs.set (n : Nat) (s : RSt) : Runs (.i (.set n)) s (.next { s with num := n }) := ⟨1, rfl⟩
theorem Runs.frame {b : Bool} {l : List It} {s : RSt} {o : ROut} (h : Runs (.f b l) s o) : Runs (.i (.frame b l)) s o := by
 obtain ⟨N, h⟩ := h
 exact ⟨N + 1, by rw [run]; exact h⟩
theorem Runs.pick {bs : List (List It)} {b : List It} {s : RSt} {o : ROut} (hb : bs[s.num]? = some b) (h : Runs (.l b) s o) : Runs (.i (.pick bs)) s o := by
 obtain ⟨N, h⟩ := h
 exact ⟨N + 1, by rw [run, hb]; exact h⟩
theorem Runs.pickNone {bs : List (List It)} {s : RSt} (hb : bs[s.num]? = none) : Runs (.i (.pick bs)) s (.next s) := ⟨1, by rw [run, hb]⟩
theorem Runs.f_next {b : Bool} {l : List It} {s s' : RSt} (h : Runs (.l l) s (.next s')) : Runs (.f b l) s (.next s') := by
 obtain ⟨N, h⟩ := h
 exact ⟨N + 1, by rw [run, h]⟩
theorem Runs.f_fin {b : Bool} {l : List It} {s : RSt} {e : Nat} {t : List UInt8} {m : Nat} (h : Runs (.l l) s (.fin e t m)) : Runs (.f b l) s (.fin e t m) := by
 obtain ⟨N, h⟩ := h
 exact ⟨N + 1, by rw [run, h]⟩
theorem Runs.f_out {b : Bool} {l : List It} {s s' : RSt} {n : Nat} (h : Runs (.l l) s (.leave (n + 1) s')) : Runs (.f b l) s (.leave n s') := by
 obtain ⟨N, h⟩ := h
 exact ⟨N + 1, by rw [run, h]⟩
theorem Runs.f_once {l : List It} {s s' : RSt} (h : Runs (.l l) s (.leave 0 s')) : Runs (.f false l) s (.next s') := by
 obtain ⟨N, h⟩ := h
 exact ⟨N + 1, by rw [run, h]; rfl⟩
theorem Runs.f_long {l : List It} {s s' : RSt} (h : Runs (.l l) s (.leave 0 s')) (hi : s'.idle = 4000) : Runs (.f true l) s (.fin 2 s'.trace s'.num) := by
 obtain ⟨N, h⟩ := h
 exact ⟨N + 1, by rw [run, h]; simp only [if_true]; rw [if_pos hi]⟩
theorem Runs.f_again {l : List It} {s s' : RSt} {o : ROut} (h : Runs (.l l) s (.leave 0 s')) (hi : s'.idle ≠ 4000) (h2 : Runs (.f true l) s'.step o) : Runs (.f true l) s o := by
 obtain ⟨N, h⟩ := h
 obtain ⟨K, h2⟩ := h2
 refine ⟨max N K + 1, ?_⟩
 rw [run, lM (Nat.le_max_left N K) h]
 simp only [if_true]
 rw [if_neg hi]
 exact lM (Nat.le_max_right N K) h2
def RSt.ok (s : RSt) : Prop := s.trace.length ≤ 60 ∧ s.idle ≤ 4000
def RSt.room (s : RSt) : Nat := (60 - s.trace.length) * 4001 + (4000 - s.idle)
theorem RSt.step_ok {s : RSt} (h : s.ok) (hi : s.idle ≠ 4000) : s.step.ok ∧ s.step.room < s.room := by
 unfold RSt.ok RSt.room RSt.step at *
 simp only
 omega
theorem RSt.blk_ok {s : RSt} (h : s.ok) (hl : s.trace.length ≠ 60) (c : UInt8) : (s.blk c).ok ∧ (s.blk c).room ≤ s.room := by
 unfold RSt.ok RSt.room RSt.blk at *
 simp only [List.length_append, List.length_singleton]
 omega
def ROut.ok (o : ROut) (r : Nat) : Prop := match o with
 | .next s => s.ok ∧ s.room ≤ r
 | .leave _ s => s.ok ∧ s.room ≤ r
 | .fin _ t _ => t.length ≤ 60
theorem ROut.ok.le {o : ROut} {r q : Nat} (h : o.ok r) (hq : r ≤ q) : o.ok q := by
 cases o with
 | next s => exact ⟨h.1, Nat.le_trans h.2 hq⟩
 | leave n s => exact ⟨h.1, Nat.le_trans h.2 hq⟩
 | fin e t m => exact h
theorem FS : ∀ (N : Nat) (t : Tk) (s : RSt) (o : ROut), run N t s = some o → s.ok → o.ok s.room := by
 intro N
 induction N with
 | zero => intro t s o h; cases h
 | succ N ih =>
  intro t s o h hs
  match t, h with
  | .l [], h => rw [run] at h; injection h with h; subst h; exact ⟨hs, Nat.le_refl _⟩
  | .l (i :: l), h =>
   rw [run] at h
   split at h
   ·injection h with h; subst h; exact hs.1
   ·rename_i hi
    have h1 := RSt.step_ok hs hi
    cases hr : run N (.i i) s.step with
    | none => rw [hr] at h; cases h
    | some r =>
     have h2 := ih _ _ _ hr h1.1
     rw [hr] at h
     cases r with
     | next s' => exact (ih _ _ _ h h2.1).le (by have := h2.2; omega)
     | leave n s' => injection h with h; subst h; exact h2.le (by omega)
     | fin e t m => injection h with h; subst h; exact h2
  | .i (.blk c), h =>
   rw [run] at h
   split at h
   ·injection h with h; subst h; exact hs.1
   ·rename_i hi; injection h with h; subst h; exact RSt.blk_ok hs hi c
  | .i (.ask c l r), h =>
   rw [run] at h
   split at h
   ·injection h with h; subst h; exact hs.1
   ·rename_i hi
    have h1 := RSt.blk_ok hs hi c
    cases hl : s.left with
    | nil => rw [hl] at h; injection h with h; subst h; exact h1.1.1
    | cons x t => rw [hl] at h; exact (ih _ _ _ h h1.1).le h1.2
  | .i .stop, h => rw [run] at h; injection h with h; subst h; exact hs.1
  | .i (.frame b l), h => rw [run] at h; exact ih _ _ _ h hs
  | .i (.leave n), h => rw [run] at h; injection h with h; subst h; exact ⟨hs, Nat.le_refl _⟩
  | .i (.set n), h => rw [run] at h; injection h with h; subst h; exact ⟨hs, Nat.le_refl _⟩
  | .i (.pick bs), h =>
   rw [run] at h
   cases hb : bs[s.num]? with
   | none => rw [hb] at h; injection h with h; subst h; exact ⟨hs, Nat.le_refl _⟩
   | some b => rw [hb] at h; exact ih _ _ _ h hs
  | .f b l, h =>
   rw [run] at h
   cases hr : run N (.l l) s with
   | none => rw [hr] at h; cases h
   | some r =>
    have h2 := ih _ _ _ hr hs
    rw [hr] at h
    cases r with
    | next s' => injection h with h; subst h; exact h2
    | fin e t m => injection h with h; subst h; exact h2
    | leave n s' =>
     cases n with
     | succ n => injection h with h; subst h; exact h2
     | zero =>
      simp only at h
      split at h
      ·split at h
       ·injection h with h; subst h; exact h2.1.1
       ·rename_i hi
        have h3 := RSt.step_ok h2.1 hi
        exact (ih _ _ _ h h3.1).le (by have := h2.2; omega)
      ·injection h with h; subst h; exact h2
theorem Runs.ok {t : Tk} {s : RSt} {o : ROut} (h : Runs t s o) (hs : s.ok) : o.ok s.room := by
 obtain ⟨N, h⟩ := h
 exact FS N t s o h hs
def Tk.fits (t : Tk) (f : Nat) : Prop := match t with
 | .l xs => az xs f
 | .i x => aC x f
 | .f _ xs => f < 9 ∧ az xs (f + 1)
theorem sf : ∀ {bs : List (List It)} {f : Nat}, dx bs f → ∀ {k : Nat} {b : List It}, bs[k]? = some b → az b f
 | [], _, _, k, b, h => by simp at h
 | a :: bs, f, ho, k, b, h => by
  rw [dx] at ho
  cases k with
  | zero => simp at h; rw [← h]; exact ho.1
  | succ k => exact sf ho.2 (by simpa using h)
theorem BY : ∀ (N : Nat) (t : Tk) (f : Nat) (s : RSt) (n : Nat) (s' : RSt), run N t s = some (.leave n s') → t.fits f → n < f := by
 intro N
 induction N with
 | zero => intro t f s n s' h; cases h
 | succ N ih =>
  intro t f s n s' h ht
  match t, h, ht with
  | .l [], h, ht => rw [run] at h; cases h
  | .l (i :: l), h, ht =>
   rw [run] at h
   have ht' : aC i f ∧ az l f := by have : az (i :: l) f := ht; rw [az] at this; exact this
   split at h
   ·cases h
   ·cases hr : run N (.i i) s.step with
    | none => rw [hr] at h; cases h
    | some r =>
     rw [hr] at h
     cases r with
     | next s1 => exact ih _ f _ _ _ h ht'.2
     | leave m s1 => injection h with h; injection h with h1 h2; subst h1; exact ih _ f _ _ _ hr ht'.1
     | fin e t m => cases h
  | .i (.blk c), h, ht => rw [run] at h; split at h <;> cases h
  | .i (.ask c l r), h, ht =>
   rw [run] at h
   have ht' : a7 c = true ∧ az l f ∧ az r f := by have : aC (.ask c l r) f := ht; rw [aC] at this; exact this
   split at h
   ·cases h
   ·cases hl : s.left with
    | nil => rw [hl] at h; cases h
    | cons x t =>
     rw [hl] at h
     refine ih _ f _ _ _ h ?_
     show az _ f
     split
     ·exact ht'.2.1
     ·exact ht'.2.2
  | .i .stop, h, ht => rw [run] at h; cases h
  | .i (.frame b l), h, ht =>
   rw [run] at h
   have ht' : f < 9 ∧ az l (f + 1) := by have : aC (.frame b l) f := ht; rw [aC] at this; exact this
   exact ih (.f b l) f _ _ _ h ht'
  | .i (.leave k), h, ht =>
   rw [run] at h
   have ht' : k < f := by have : aC (.leave k) f := ht; rw [aC] at this; exact this.1
   injection h with h; injection h with h1 h2; omega
  | .i (.set k), h, ht => rw [run] at h; cases h
  | .i (.pick bs), h, ht =>
   rw [run] at h
   have ht' : dx bs f := by have : aC (.pick bs) f := ht; rw [aC] at this; exact this.2.2
   cases hb : bs[s.num]? with
   | none => rw [hb] at h; cases h
   | some b => rw [hb] at h; exact ih (.l b) f _ _ _ h (sf ht' hb)
  | .f b l, h, ht =>
   rw [run] at h
   have ht' : f < 9 ∧ az l (f + 1) := ht
   cases hr : run N (.l l) s with
   | none => rw [hr] at h; cases h
   | some r =>
    rw [hr] at h
    cases r with
    | next s1 => cases h
    | fin e t m => cases h
    | leave m s1 =>
     cases m with
     | succ m =>
      injection h with h; injection h with h1 h2; subst h1
      have := ih (.l l) (f + 1) _ _ _ hr ht'.2
      omega
     | zero =>
      simp only at h
      split at h
      ·split at h
       ·cases h
       ·exact ih (.f b l) f _ _ _ h ht
      ·cases h
theorem Runs.leave_lt {t : Tk} {f : Nat} {s : RSt} {n : Nat} {s' : RSt} (h : Runs t s (.leave n s')) (ht : t.fits f) : n < f := by
 obtain ⟨N, h⟩ := h
 exact BY N t f s n s' h ht
end Go.Proofs.YtlkfakdghjaoaaaGreatDoor
