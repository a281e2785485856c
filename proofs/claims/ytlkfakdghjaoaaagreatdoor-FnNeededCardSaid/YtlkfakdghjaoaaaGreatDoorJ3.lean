import Derived.Test.YtlkfakdghjaoaaaGreatDoorJ2
import Derived.ProofKit
import Derived.ChangeSlices
import Derived.Deep.SlicePairs
import Derived.Laws.IdiomStrings
import Derived.IntWalk
import Derived.Test.YtlkfakdghjaoaaaGreatDoorIter
import Derived.Laws.BytesArg
import Derived.Lib.QuietBelow
set_option maxRecDepth 100000
namespace Go.Proofs.YtlkfakdghjaoaaaGreatDoor
open Go.ChangeShapes Go.WideShapes Go.ChangeAt Go.RowKit Go.Deep Go.Sort
theorem cellsByte : Tryz.prog.cellsOf 5 = 1 := by kernel_rfl
theorem qi {H : Type} {enc : TypeId × Value → H} {W : World} {r : Reach} {b0 : Nat} {v : Value} {d : DataW H} {ps : List MemPlace}
  (hval : Value.okWide Tryz.prog W r b0 22 v) (h : DataW.Trod enc Tryz.prog W 0 (fun _ => true) true 22 v d ps) (hlt : ∀ x ∈ ps, x.block < W.heap.size) :
  ∃ (A : Option Addr) (len cap : Nat), v = .slice A len cap ∧ len ≤ cap ∧ cap ≤ 9223372036854775807 ∧ Bytes W A len := by
 obtain ⟨a0, len, cap, rfl⟩ := okWide_slice Tryz.underlying22 hval
 obtain ⟨fuel, hf⟩ := h
 rcases open_ints Tryz.underlying22 Tryz.underlying5 cellsByte hf with ⟨hcs, _⟩ | ⟨a, len', cap', zs, hcs, _, hl, hm, hz, hx, hc, hw⟩
 ·simp [Value.cells] at hcs
  obtain ⟨rfl, rfl, rfl⟩ := hcs
  exact ⟨none, 0, 0, rfl, Nat.le_refl _, Nat.zero_le _, fun h => absurd h (by omega)⟩
 ·simp [Value.cells] at hcs
  obtain ⟨rfl, rfl, rfl⟩ := hcs
  simp only [if_true] at hz
  refine ⟨some a, len, cap, rfl, hl, by simpa [maxLen] using hm, fun hn => ?_⟩
  have h0 := hc 0 (by omega)
  obtain ⟨b, off, spot⟩ := a
  have hspot : spot = none := by simpa [Addr.add] using World.cell?_spot h0
  subst hspot
  have hbW : b < W.heap.size := by
   have hx2 := (Prod.mk.inj hx).2
   have : MemPlace.cell b off ∈ ps := by
    rw [hx2]
    exact MemPlace.mem_row.2 ⟨0, by omega, by simp⟩
   exact hlt _ this
  refine ⟨b, off, rfl, hbW, fun k hk => ?_⟩
  have hck := hc k (by omega)
  rw [add_plain] at hck
  have hwf := hw (zs.getD k 0) (by rw [List.getD_eq_getElem?_getD, List.getElem?_eq_getElem (by omega)]; exact List.getElem_mem _)
  have hb : IntKind.u8.min ≤ zs.getD k 0 ∧ zs.getD k 0 ≤ IntKind.u8.max := by simpa [Lit.wf] using hwf
  have e0 : IntKind.u8.min = 0 := rfl
  have e1 : IntKind.u8.max = 255 := rfl
  rw [e0, e1] at hb
  refine ⟨UInt8.ofNat (zs.getD k 0).toNat, hck.trans ?_⟩
  congr 2
  rw [UInt8.toNat_ofNat']
  omega
theorem Bytes.below {w w' : World} {A : Option Addr} {len : Nat} (h : Bytes w A len) (hb : Below w.heap.size w w') : Bytes w' A len := by
 intro hn
 obtain ⟨b, off, rfl, hlt, hc⟩ := h hn
 have := hb.size
 exact ⟨b, off, rfl, by omega, fun k hk => by obtain ⟨c, e⟩ := hc k hk; exact ⟨c, (hb.cell (p := ⟨b, off + k, none⟩) hlt).trans e⟩⟩
end Go.Proofs.YtlkfakdghjaoaaaGreatDoor

set_option maxRecDepth 100000
set_option maxHeartbeats 1600000
namespace Go.Proofs.YtlkfakdghjaoaaaGreatDoor
open Go.RowKit Go.Sort
theorem sF {x n m r : Nat} (h : n = 2 * m + r) : (x + x) * m + r * x = x * n := by
 subst h
 rw [Nat.mul_add, Nat.add_mul, Nat.mul_comm r x, Nat.mul_left_comm x 2 m]
 omega
theorem CU (s : ByteArray) (n : Nat) (w : World) (hs : s.size = 1) (hn : n ≤ 100) :
  Calls Tryz.prog 128 #[.string s, .int .i64 n] w fun e w' => ∃ t : ByteArray, e = .returned (.string t) ∧ t.size ≤ 100 ∧ w = w' := by
 go_enter Tryz.func128, Tryz.ntmps128
 go_wp2
 go_loop [0, 1, 5] (fun x c o => ∃ (a : ByteArray) (k : Nat) (t : ByteArray), x = .string a ∧ c = .int .i64 k ∧ o = .string t ∧ a.size ≤ 200 ∧ k ≤ 100 ∧ t.size + a.size * k ≤ 100) (fun _ c _ => (intOf c).toNat)
 case atStart => exact ⟨s, n, ⟨#[]⟩, rfl, rfl, rfl, by omega, hn, by rw [hs, Nat.one_mul]; show 0 + n ≤ 100; omega⟩
 case round =>
  obtain ⟨a, k, t, rfl, rfl, rfl, ha, hk, ht⟩ := hrel
  by_cases hk0 : 0 < k
  ·have g0 : decide ((0 : Int) < k) = true := by simp; omega
   have hak : a.size ≤ a.size * k := Nat.le_mul_of_pos_right _ hk0
   have hts : t.size ≤ 100 := by omega
   have ha2 : a.size ≤ 100 := by omega
   by_cases hodd : k % 2 = 1
   ·have g1 : ((k : Int) % 2 == 1) = true := by simp; omega
    have HS := GR (sF (x := a.size) (n := k) (m := k / 2) (r := 1) (by omega))
    have HT := GR ht
    clear ht hodd hak
    go_wp2
    go_round
    case rel =>
     have h1 := HS.out; have h2 := HT.out
     exact ⟨a ++ a, k / 2, t ++ a, rfl, by go_num, rfl, by rw [ByteArray.size_append]; omega, by omega, by rw [ByteArray.size_append, ByteArray.size_append]; omega⟩
    case measure => simp [intOf]; omega
   ·have g1 : ((k : Int) % 2 == 1) = false := by simp; omega
    have HS := GR (sF (x := a.size) (n := k) (m := k / 2) (r := 0) (by omega))
    have HT := GR ht
    clear ht hodd hak
    go_wp2
    go_round
    case rel =>
     have h1 := HS.out; have h2 := HT.out
     exact ⟨a ++ a, k / 2, t, rfl, by go_num, rfl, by rw [ByteArray.size_append]; omega, by omega, by rw [ByteArray.size_append]; omega⟩
    case measure => simp [intOf]; omega
  ·have hk00 : k = 0 := by omega
   subst hk00
   go_wp2
   go_ret
   exact ⟨t, rfl, by omega, rfl⟩
theorem GF (R : Nat) (A : Option Addr) (len cap p : Nat) (w : World) (h : Rd w R A len cap p) (hp : p ≤ 1048576) :
  Calls Tryz.prog 92 #[.pointer (some ⟨R, 0, none⟩), .slice (some ⟨w.heap.size, 0, none⟩) 6 6] (w.alloc (.cells #[.int .i64 4, .int .i64 6, .int .i64 8, .int .i64 3, .int .i64 12, .int .i64 0] 3)) fun e w' => ∃ n : Nat, e = .returned (.int .i64 n) ∧ n ≤ 12 ∧ Only R w w' ∧ Rd w' R A len cap (p + 1) := by
 refine (vU R A len cap p [4, 6, 8, 3, 12, 0] w h (by decide) (by decide) hp).mono ?_
 rintro e w' ⟨z, rfl, hz, o, r⟩
 simp only [List.mem_cons, List.not_mem_nil, or_false] at hz
 refine ⟨z.toNat, bz (by omega), by omega, o, r⟩
theorem Gi (R : Nat) (A : Option Addr) (len cap p : Nat) (w : World) (h : Rd w R A len cap p) (hp : p ≤ 1048576) :
  Calls Tryz.prog 92 #[.pointer (some ⟨R, 0, none⟩), .slice (some ⟨w.heap.size, 0, none⟩) 2 2] (w.alloc (.cells #[.int .i64 20, .int .i64 21] 3)) fun e w' => ∃ n : Nat, e = .returned (.int .i64 n) ∧ n ≤ 21 ∧ Only R w w' ∧ Rd w' R A len cap (p + 1) := by
 refine (vU R A len cap p [20, 21] w h (by decide) (by decide) hp).mono ?_
 rintro e w' ⟨z, rfl, hz, o, r⟩
 simp only [List.mem_cons, List.not_mem_nil, or_false] at hz
 refine ⟨z.toNat, bz (by omega), by omega, o, r⟩
theorem GG (R : Nat) (A : Option Addr) (len cap p : Nat) (w : World) (h : Rd w R A len cap p) (hp : p ≤ 1048576) :
  Calls Tryz.prog 123 #[.pointer (some ⟨R, 0, none⟩), .slice (some ⟨w.heap.size, 0, none⟩) 2 2] (w.alloc (.cells #[.string ⟨#[108]⟩, .string ⟨#[114]⟩] 9)) fun e w' => ∃ s : ByteArray, e = .returned (.string s) ∧ s.size ≤ 1 ∧ Only R w w' ∧ Rd w' R A len cap (p + 1) := by
 refine (Eh R A len cap p [⟨#[108]⟩, ⟨#[114]⟩] w h (by decide) (by decide) hp).mono ?_
 rintro e w' ⟨z, rfl, hz, o, r⟩
 refine ⟨z, rfl, ?_, o, r⟩
 revert z; decide
theorem GH (R : Nat) (A : Option Addr) (len cap p : Nat) (w : World) (h : Rd w R A len cap p) (hp : p ≤ 1048576) :
  Calls Tryz.prog 123 #[.pointer (some ⟨R, 0, none⟩), .slice (some ⟨w.heap.size, 0, none⟩) 3 3] (w.alloc (.cells #[.string ⟨#[120]⟩, .string ⟨#[76]⟩, .string ⟨#[32]⟩] 9)) fun e w' => ∃ s : ByteArray, e = .returned (.string s) ∧ s.size ≤ 1 ∧ Only R w w' ∧ Rd w' R A len cap (p + 1) := by
 refine (Eh R A len cap p [⟨#[120]⟩, ⟨#[76]⟩, ⟨#[32]⟩] w h (by decide) (by decide) hp).mono ?_
 rintro e w' ⟨z, rfl, hz, o, r⟩
 refine ⟨z, rfl, ?_, o, r⟩
 revert z; decide
def Ft (n R : Nat) (A : Option Addr) (len cap p : Nat) (w : World) (e : Ending) (w' : World) : Prop :=
 ∃ (s : ByteArray) (q : Nat), e = .returned (.string s) ∧ s.size ≤ n ∧ Only R w w' ∧ Rd w' R A len cap q ∧ q ≤ p + 20
theorem ue (R : Nat) (A : Option Addr) (len cap p : Nat) (w : World) (hr : Rd w R A len cap p) (hp : p ≤ 1048000) :
  Calls Tryz.prog 84 #[.pointer (some ⟨R, 0, none⟩)] w (Ft 100 R A len cap p w) := by
 have HC := GR (GF R A len cap p w hr (by omega))
 clear hr
 go_enter Tryz.func84, Tryz.ntmps84
 go_wp2_with fail
 refine HC.out.mono ?_
 rintro e w1 ⟨n, rfl, hn, o1, r1⟩
 have HO1 := GR o1
 have HR1 := GR r1
 clear o1 r1
 go_wp2_with fail
 go_loopw [3, 7] (fun s c wr => ∃ (j q : Nat) (t : ByteArray), j ≤ n ∧ c = .int .i64 j ∧ s = .string t ∧ t.size ≤ j ∧ q ≤ p + 1 + j ∧ Rd wr R A len cap q ∧ Only R w wr) (fun _ c _ => n - (intOf c).toNat)
 case atStart => exact ⟨0, p + 1, ⟨#[]⟩, Nat.zero_le _, rfl, rfl, Nat.zero_le _, by omega, HR1.out, HO1.out⟩
 case round =>
  obtain ⟨j, q, t, hj, rfl, rfl, ht, hq, hrd, ho⟩ := hrel
  have HRD := GR hrd
  have HO := GR ho
  clear hrd ho
  by_cases hlt : j < n
  ·have HL := GR (GG R A len cap q wr HRD.out (by omega))
   go_wp2_with fail
   refine HL.out.mono ?_
   rintro e w2 ⟨s, rfl, hs, o2, r2⟩
   have HO2 := GR (HO.out.trans o2)
   have HR2 := GR r2
   clear o2 r2
   go_wp2_with fail
   go_roundw
   case rel => exact ⟨j + 1, q + 1, _, by omega, by go_num, rfl, by rw [ByteArray.size_append]; omega, by omega, HR2.out, HO2.out⟩
   case measure => simp [intOf]; omega
  ·have HP := GR (kK R A len cap q 24 wr HRD.out (by omega) (by omega) (by omega))
   go_wp2_with fail
   refine HP.out.mono ?_
   rintro e w2 ⟨x, rfl, hx, o2, r2⟩
   have HO2 := GR (HO.out.trans o2)
   have HR2 := GR r2
   clear o2 r2
   by_cases h0 : x = 0
   ·have g0 : ((x : Int) == 0) = true := by rw [h0]; rfl
    have HL := GR (GH R A len cap (q + 1) w2 HR2.out (by omega))
    clear h0
    go_wp2_with fail
    refine HL.out.mono ?_
    rintro e w3 ⟨s, rfl, hs, o3, r3⟩
    have HO3 := GR (HO2.out.trans o3)
    have HR3 := GR r3
    clear o3 r3
    go_wp2_with fail
    go_ret
    exact ⟨_, q + 2, rfl, by rw [ByteArray.size_append]; omega, HO3.out, HR3.out, by omega⟩
   ·have g0 : ((x : Int) == 0) = false := by simp; omega
    by_cases h1 : x = 1
    ·have g1 : ((x : Int) == 1) = true := by rw [h1]; rfl
     have HN := GR (Gi R A len cap (q + 1) w2 HR2.out (by omega))
     clear h0 h1
     go_wp2_with fail
     refine HN.out.mono ?_
     rintro e w3 ⟨m, rfl, hm, o3, r3⟩
     have HO3 := GR (HO2.out.trans o3)
     have HR3 := GR r3
     clear o3 r3
     go_wp2_with fail
     refine (CU ⟨#[108]⟩ m w3 rfl (by omega)).mono ?_
     rintro e w4 ⟨s, rfl, hs, rfl⟩
     go_wp2_with fail
     go_ret
     exact ⟨_, q + 2, rfl, hs, HO3.out, HR3.out, by omega⟩
    ·have g1 : ((x : Int) == 1) = false := by simp; omega
     clear h0 h1
     go_wp2_with fail
     go_ret
     exact ⟨_, q + 1, rfl, by omega, HO2.out, HR2.out, by omega⟩
end Go.Proofs.YtlkfakdghjaoaaaGreatDoor

namespace Go.Proofs.YtlkfakdghjaoaaaGreatDoor
open Go.RowKit Go.Sort
def ROut.code : ROut → Nat
 | .next _ => 0
 | .leave _ _ => 0
 | .fin k _ _ => k
def ROut.trace : ROut → List UInt8
 | .next s => s.trace
 | .leave _ s => s.trace
 | .fin _ t _ => t
def ROut.num : ROut → Nat
 | .next s => s.num
 | .leave _ s => s.num
 | .fin _ _ m => m
def nc (c : List UInt8) : RSt := ⟨c, [], 0, 0⟩
theorem FT (c : List UInt8) : (nc c).ok := ⟨Nat.zero_le _, Nat.zero_le _⟩
def RanT (s c : List UInt8) : Option ROut → Prop
 | some o => ∃ l, bh s l ∧ bT (tb c) = true ∧ Runs (.l l) (nc c) o
 | none => (∀ l, ¬ bh s l) ∨ bT (tb c) = false
theorem RanT.uniq {s c : List UInt8} {o o' : Option ROut} (h : RanT s c o) (h' : RanT s c o') : o = o' := by
 match o, o', h, h' with
 | none, none, _, _ => rfl
 | some _, some _, ⟨l, h1, _, h3⟩, ⟨l', h1', _, h3'⟩ =>
  have := lu h1 h1'
  subst this
  rw [h3.uniq h3']
 | some _, none, ⟨l, h1, h2, _⟩, h' =>
  rcases h' with h' | h'
  ·exact absurd h1 (h' l)
  ·rw [h2] at h'; cases h'
 | none, some _, h, ⟨l, h1, h2, _⟩ =>
  rcases h with h | h
  ·exact absurd h1 (h l)
  ·rw [h2] at h; cases h
def n7 : Option ROut → Value
 | some o => .tuple #[.string (tb o.trace), .int .i64 (o.code : Nat), .bool true]
 | none => .tuple #[.string (tb []), .int .i64 0, .bool false]
def wl : Option ROut → Bool
 | some o => decide (o.code = 2) && decide (o.trace.length < 60)
 | none => false
end Go.Proofs.YtlkfakdghjaoaaaGreatDoor

set_option maxRecDepth 100000
set_option maxHeartbeats 1600000
namespace Go.Proofs.YtlkfakdghjaoaaaGreatDoor
open Go.RowKit Go.Sort
def dn : It → UInt8
 | .blk _ => 88
 | .ask .. => 63
 | .stop => 46
 | .frame b _ => eG b
 | .leave _ => 94
 | .set _ => 61
 | .pick _ => 35
def et : It → List UInt8
 | .blk c => [c]
 | .ask c _ _ => [c]
 | _ => []
def fJ : It → Nat
 | .leave n => n
 | .set n => n
 | _ => 0
def aM : It → List (List It)
 | .ask _ l r => [l, r]
 | .frame _ l => [l]
 | .pick bs => bs
 | _ => []
def gi (i : It) (vb : Value) : List Value := [.int .u8 (dn i).toNat, .string (tb (et i)), .int .i64 (fJ i), vb]
def Reads4 (w : World) (P : Nat → Prop) (v : Value) (n : Nat) (vs : List Value) : Prop :=
 ∃ A cap, v = .slice A n cap ∧ vs.length = n * 4 ∧ (0 < n → ∃ b off, A = some ⟨b, off, none⟩ ∧ b < w.heap.size ∧ P b ∧ ∀ k (h : k < vs.length), w.cell? ⟨b, off + k, none⟩ = some vs[k])
mutual
def MBodAt (w : World) (P : Nat → Prop) : It → Value → Prop
 | .blk _, v => Reads w P v []
 | .ask _ l r, v => ∃ x y xs ys, Reads w P v [x, y] ∧ Reads4 w P x l.length xs ∧ MAllAt w P l xs ∧ Reads4 w P y r.length ys ∧ MAllAt w P r ys
 | .stop, v => Reads w P v []
 | .frame _ l, v => ∃ x xs, Reads w P v [x] ∧ Reads4 w P x l.length xs ∧ MAllAt w P l xs
 | .leave _, v => Reads w P v []
 | .set _, v => Reads w P v []
 | .pick bs, v => ∃ xs, Reads w P v xs ∧ MAllRows w P bs xs
def MAllAt (w : World) (P : Nat → Prop) : List It → List Value → Prop
 | [], vs => vs = []
 | i :: l, vs => ∃ vb t, vs = gi i vb ++ t ∧ MBodAt w P i vb ∧ MAllAt w P l t
def MAllRows (w : World) (P : Nat → Prop) : List (List It) → List Value → Prop
 | [], vs => vs = []
 | b :: bs, vs => ∃ v t xs, vs = v :: t ∧ Reads4 w P v b.length xs ∧ MAllAt w P b xs ∧ MAllRows w P bs t
end
def MRowAt (w : World) (P : Nat → Prop) (l : List It) (v : Value) : Prop := ∃ xs, Reads4 w P v l.length xs ∧ MAllAt w P l xs
def MRowsAt (w : World) (P : Nat → Prop) (bs : List (List It)) (v : Value) : Prop := ∃ xs, Reads w P v xs ∧ MAllRows w P bs xs
theorem pZ {w : World} {P : Nat → Prop} {i : It} {v : Value} : MBodAt w P i v ↔ MRowsAt w P (aM i) v := by
 cases i with
 | ask c l r =>
  rw [MBodAt]
  constructor
  ·rintro ⟨x, y, xs, ys, h1, h2, h3, h4, h5⟩
   refine ⟨[x, y], h1, ?_⟩
   show MAllRows w P [l, r] [x, y]
   rw [MAllRows]
   refine ⟨x, [y], xs, rfl, h2, h3, ?_⟩
   rw [MAllRows]
   refine ⟨y, [], ys, rfl, h4, h5, ?_⟩
   rw [MAllRows]
  ·rintro ⟨vs, h1, h2⟩
   change MAllRows w P [l, r] vs at h2
   rw [MAllRows] at h2
   obtain ⟨x, t, xs, rfl, h3, h4, h5⟩ := h2
   rw [MAllRows] at h5
   obtain ⟨y, u, ys, rfl, h6, h7, h8⟩ := h5
   rw [MAllRows] at h8
   subst h8
   exact ⟨x, y, xs, ys, h1, h3, h4, h6, h7⟩
 | frame b l =>
  rw [MBodAt]
  constructor
  ·rintro ⟨x, xs, h1, h2, h3⟩
   refine ⟨[x], h1, ?_⟩
   show MAllRows w P [l] [x]
   rw [MAllRows]
   refine ⟨x, [], xs, rfl, h2, h3, ?_⟩
   rw [MAllRows]
  ·rintro ⟨vs, h1, h2⟩
   change MAllRows w P [l] vs at h2
   rw [MAllRows] at h2
   obtain ⟨x, t, xs, rfl, h3, h4, h5⟩ := h2
   rw [MAllRows] at h5
   subst h5
   exact ⟨x, xs, h1, h3, h4⟩
 | pick bs => rw [MBodAt]; exact Iff.rfl
 | _ =>
  rw [MBodAt]
  constructor
  ·intro h
   refine ⟨[], h, ?_⟩
   show MAllRows w P [] []
   rw [MAllRows]
  ·rintro ⟨vs, h1, h2⟩
   change MAllRows w P [] vs at h2
   rw [MAllRows] at h2
   subst h2
   exact h1
theorem Reads4.stay {w w' : World} {P P' : Nat → Prop} {v : Value} {n : Nat} {vs : List Value} (h : Reads4 w P v n vs) (k : Stay w P w' P') : Reads4 w' P' v n vs := by
 obtain ⟨A, cap, e, hl, hc⟩ := h
 refine ⟨A, cap, e, hl, fun hpos => ?_⟩
 obtain ⟨b, off, e2, hb, hp, hcell⟩ := hc hpos
 obtain ⟨hp', hs⟩ := k.same b hb hp
 exact ⟨b, off, e2, Nat.lt_of_lt_of_le hb k.size, hp', fun j hj => (dG hs _).trans (hcell j hj)⟩
mutual
theorem MBodAt.stay {w w' : World} {P P' : Nat → Prop} (k : Stay w P w' P') : ∀ (i : It) (v : Value), MBodAt w P i v → MBodAt w' P' i v
 | .blk c, v, h => by rw [MBodAt] at h ⊢; exact h.stay k
 | .ask c l r, v, h => by
  rw [MBodAt] at h ⊢
  obtain ⟨x, y, xs, ys, h1, h2, h3, h4, h5⟩ := h
  exact ⟨x, y, xs, ys, h1.stay k, h2.stay k, MAllAt.stay k l xs h3, h4.stay k, MAllAt.stay k r ys h5⟩
 | .stop, v, h => by rw [MBodAt] at h ⊢; exact h.stay k
 | .frame b l, v, h => by
  rw [MBodAt] at h ⊢
  obtain ⟨x, xs, h1, h2, h3⟩ := h
  exact ⟨x, xs, h1.stay k, h2.stay k, MAllAt.stay k l xs h3⟩
 | .leave n, v, h => by rw [MBodAt] at h ⊢; exact h.stay k
 | .set n, v, h => by rw [MBodAt] at h ⊢; exact h.stay k
 | .pick bs, v, h => by
  rw [MBodAt] at h ⊢
  obtain ⟨xs, h1, h2⟩ := h
  exact ⟨xs, h1.stay k, MAllRows.stay k bs xs h2⟩
theorem MAllAt.stay {w w' : World} {P P' : Nat → Prop} (k : Stay w P w' P') : ∀ (l : List It) (vs : List Value), MAllAt w P l vs → MAllAt w' P' l vs
 | [], vs, h => by rw [MAllAt] at h ⊢; exact h
 | i :: l, vs, h => by
  rw [MAllAt] at h ⊢
  obtain ⟨vb, t, e, h1, h2⟩ := h
  exact ⟨vb, t, e, MBodAt.stay k i vb h1, MAllAt.stay k l t h2⟩
theorem MAllRows.stay {w w' : World} {P P' : Nat → Prop} (k : Stay w P w' P') : ∀ (bs : List (List It)) (vs : List Value), MAllRows w P bs vs → MAllRows w' P' bs vs
 | [], vs, h => by rw [MAllRows] at h ⊢; exact h
 | b :: bs, vs, h => by
  rw [MAllRows] at h ⊢
  obtain ⟨v, t, xs, e, h1, h2, h3⟩ := h
  exact ⟨v, t, xs, e, h1.stay k, MAllAt.stay k b xs h2, MAllRows.stay k bs t h3⟩
end
theorem MRowAt.stay {w w' : World} {P P' : Nat → Prop} {l : List It} {v : Value} (h : MRowAt w P l v) (k : Stay w P w' P') : MRowAt w' P' l v := by
 obtain ⟨xs, h1, h2⟩ := h
 exact ⟨xs, h1.stay k, MAllAt.stay k l xs h2⟩
theorem MRowsAt.stay {w w' : World} {P P' : Nat → Prop} {bs : List (List It)} {v : Value} (h : MRowsAt w P bs v) (k : Stay w P w' P') : MRowsAt w' P' bs v := by
 obtain ⟨xs, h1, h2⟩ := h
 exact ⟨xs, h1.stay k, MAllRows.stay k bs xs h2⟩
theorem MAllAt.len {w : World} {P : Nat → Prop} : ∀ {l : List It} {vs : List Value}, MAllAt w P l vs → vs.length = l.length * 4
 | [], vs, h => by rw [MAllAt] at h; rw [h]; rfl
 | i :: l, vs, h => by rw [MAllAt] at h; obtain ⟨vb, t, e, _, h2⟩ := h; rw [e, List.length_append, List.length_cons, h2.len]; simp [gi]; omega
theorem MAllAt.nil (w : World) (P : Nat → Prop) : MAllAt w P [] [] := by rw [MAllAt]
theorem MAllAt.snoc {w : World} {P : Nat → Prop} {i : It} {vb : Value} (hi : MBodAt w P i vb) : ∀ {l : List It} {vs : List Value}, MAllAt w P l vs → MAllAt w P (l ++ [i]) (vs ++ gi i vb)
 | [], vs, h => by rw [MAllAt] at h; rw [h, List.nil_append, List.nil_append, MAllAt]; exact ⟨vb, [], by simp, hi, MAllAt.nil w P⟩
 | j :: l, vs, h => by
  rw [MAllAt] at h
  obtain ⟨u, t, e, h1, h2⟩ := h
  rw [e, List.cons_append, List.append_assoc, MAllAt]
  exact ⟨u, t ++ gi i vb, rfl, h1, MAllAt.snoc hi h2⟩
theorem MAllRows.nil (w : World) (P : Nat → Prop) : MAllRows w P [] [] := by rw [MAllRows]
theorem MAllRows.len {w : World} {P : Nat → Prop} : ∀ {l : List (List It)} {vs : List Value}, MAllRows w P l vs → vs.length = l.length
 | [], vs, h => by rw [MAllRows] at h; rw [h]; rfl
 | i :: l, vs, h => by rw [MAllRows] at h; obtain ⟨v, t, xs, e, _, _, h2⟩ := h; rw [e, List.length_cons, List.length_cons, h2.len]
theorem MAllRows.snoc {w : World} {P : Nat → Prop} {b : List It} {v : Value} (hb : MRowAt w P b v) : ∀ {l : List (List It)} {vs : List Value}, MAllRows w P l vs → MAllRows w P (l ++ [b]) (vs ++ [v])
 | [], vs, h => by
  obtain ⟨xs, h1, h2⟩ := hb
  rw [MAllRows] at h; rw [h, List.nil_append, List.nil_append, MAllRows]; exact ⟨v, [], xs, rfl, h1, h2, MAllRows.nil w P⟩
 | j :: l, vs, h => by
  rw [MAllRows] at h
  obtain ⟨u, t, xs, e, h1, h2, h3⟩ := h
  rw [e, List.cons_append, List.cons_append, MAllRows]
  exact ⟨u, t ++ [v], xs, rfl, h1, h2, MAllRows.snoc hb h3⟩
theorem rq {w : World} {base : Nat} {e : TypeId} {v : Value} {n : Nat} {xs : List Value} (h : w.ownsRow base e 4 v n xs) (hn : xs.length = n * 4) : Reads4 w (fun b => base ≤ b) v n xs := by
 rcases h.2 with ⟨rfl, h0⟩ | ⟨gb, cap, cur, hv, hb, hg, _⟩
 ·exact ⟨none, 0, by rw [h0], hn, fun hpos => absurd hpos (by omega)⟩
 ·subst hv
  refine ⟨_, _, rfl, hn, fun _ => ⟨gb, 0, rfl, ?_, hb, fun j hj => ?_⟩⟩
  ·rcases Nat.lt_or_ge gb w.heap.size with h' | h'
   ·exact h'
   ·rw [Array.getElem?_eq_none h'] at hg; cases hg
  ·have hc := h.cellAt j (by omega)
   rw [List.getElem?_eq_getElem hj] at hc
   rw [Nat.zero_add]; exact hc
theorem MAllAt.at_ {w : World} {P : Nat → Prop} : ∀ {l : List It} {vs : List Value} (_ : MAllAt w P l vs) (k : Nat) (hk : k < l.length), ∃ vb, MBodAt w P l[k] vb ∧ vs[k * 4]? = some (.int .u8 (dn l[k]).toNat) ∧ vs[k * 4 + 1]? = some (.string (tb (et l[k]))) ∧ vs[k * 4 + 2]? = some (.int .i64 (fJ l[k])) ∧ vs[k * 4 + 3]? = some vb
 | i :: l, vs, h, 0, _ => by
  rw [MAllAt] at h
  obtain ⟨vb, t, rfl, h1, _⟩ := h
  exact ⟨vb, h1, rfl, rfl, rfl, rfl⟩
 | i :: l, vs, h, k + 1, hk => by
  rw [MAllAt] at h
  obtain ⟨vb, t, rfl, _, h2⟩ := h
  obtain ⟨u, h3, a, b, c, d⟩ := MAllAt.at_ h2 k (by simpa using hk)
  have e : ∀ j, (gi i vb ++ t)[(k + 1) * 4 + j]? = t[k * 4 + j]? := fun j => by
   rw [List.getElem?_append_right (by simp [gi]; omega)]
   congr 1
   simp [gi]; omega
  exact ⟨u, h3, (e 0).trans a, (e 1).trans b, (e 2).trans c, (e 3).trans d⟩
theorem MAllRows.at_ {w : World} {P : Nat → Prop} : ∀ {l : List (List It)} {vs : List Value} (_ : MAllRows w P l vs) (k : Nat) (hk : k < l.length), ∃ v, vs[k]? = some v ∧ MRowAt w P l[k] v
 | b :: l, vs, h, 0, _ => by
  rw [MAllRows] at h
  obtain ⟨v, t, xs, rfl, h1, h2, _⟩ := h
  exact ⟨v, rfl, xs, h1, h2⟩
 | b :: l, vs, h, k + 1, hk => by
  rw [MAllRows] at h
  obtain ⟨v, t, xs, rfl, _, _, h3⟩ := h
  obtain ⟨u, h4, h5⟩ := MAllRows.at_ h3 k (by simpa using hk)
  exact ⟨u, by simpa using h4, h5⟩
def EndAt (e : UInt8) (r : List UInt8) : Prop := r = [] ∨ (e = 41 ∨ e = 125 ∨ e = 93) ∧ ∃ t, r = e :: t
def rr (e : UInt8) (r : List UInt8) : Prop := r = [] ∨ ∃ t, r = e :: t
def DU (e : UInt8) (f : Nat) (s : List UInt8) : Prop := ∀ l r, az l f → EndAt e r → s ≠ aH l ++ r
theorem EndAt.ends {e : UInt8} {r : List UInt8} (h : EndAt e r) : Ends r := by
 rcases h with h | ⟨h | h | h, t, ht⟩
 ·exact .inl h
 ·subst h; exact .inr ⟨t, .inl ht⟩
 ·subst h; exact .inr ⟨t, .inr (.inl ht)⟩
 ·subst h; exact .inr ⟨t, .inr (.inr ht)⟩
theorem Fd {e : UInt8} {f : Nat} {s t : List UInt8} {l : List It} (h : tX f s l t) (he : ¬ EndAt e t) (hi : dB f t) : DU e f s := by
 intro l' q hl hq es
 obtain ⟨k, hk, _, e2⟩ := h.2.2 l' q ⟨hl, hq.ends, es⟩
 cases k with
 | nil => rw [aH, List.nil_append] at e2; exact he (e2 ▸ hq)
 | cons j k =>
  rw [az] at hk
  rw [aH, List.append_assoc] at e2
  exact hi j _ hk.1 (ku hk.2 hq.ends.noBr) e2
theorem ba {s : List UInt8} {p : Nat} {c : UInt8} {t : List UInt8} (h : s.drop p = c :: t) : p < s.length ∧ s.drop (p + 1) = t ∧ s[p]? = some c := by
 have hp : p < s.length := by
  rcases Nat.lt_or_ge p s.length with h' | h'
  ·exact h'
  ·rw [List.drop_eq_nil_of_le h'] at h; cases h
 rw [List.drop_eq_getElem_cons hp] at h
 obtain ⟨h1, h2⟩ := List.cons.inj h
 exact ⟨hp, h2, by rw [List.getElem?_eq_getElem hp, h1]⟩
theorem aR {s : List UInt8} {p : Nat} {c : UInt8} (h : s[p]? = some c) : s.drop p = c :: s.drop (p + 1) := by
 have hp : p < s.length := by
  rcases Nat.lt_or_ge p s.length with h' | h'
  ·exact h'
  ·rw [List.getElem?_eq_none h'] at h; cases h
 rw [List.getElem?_eq_getElem hp] at h
 rw [List.drop_eq_getElem_cons hp, Option.some.inj h]
end Go.Proofs.YtlkfakdghjaoaaaGreatDoor
namespace Go.Proofs.YtlkfakdghjaoaaaGreatDoor
open Go.RowKit Go.Sort
def Mrd (w : World) (R : Nat) (tx : List UInt8) (p : Nat) (bad : Bool) (f : Nat) : Prop := Blk w R 225 #[.string (tb tx), .int .i64 p, .bool bad, .int .i64 f]
theorem Mrd.lt {w : World} {R : Nat} {tx : List UInt8} {p : Nat} {bad : Bool} {f : Nat} (h : Mrd w R tx p bad f) : R < w.heap.size := Blk.lt h
def fO (tx : List UInt8) (p : Nat) (c : UInt8) : Bool := decide (tx[p]? = some c)
theorem wI (R p f : Nat) (tx : List UInt8) (bad : Bool) (c : UInt8) (w : World) (h : Mrd w R tx p bad f) :
  Calls Tryz.prog 219 #[.pointer (some ⟨R, 0, none⟩), .int .u8 c.toNat] w fun e w' => e = .returned (.bool (fO tx p c)) ∧ ∃ m, w' = w.drewN m := by
 have c0 := Blk.cell h 0
 have c1 := Blk.cell h 1
 obtain ⟨x, hx⟩ : ∃ x, x = tb tx := ⟨_, rfl⟩
 have hxz : x.size = tx.length := by rw [hx, aB]
 have hxd : x.data.toList = tx := by rw [hx, aI]
 have d0 : w.cell? ⟨R, 0, none⟩ = some (.string x) := by rw [hx]; exact c0
 have d1 : w.cell? ⟨R, 1, none⟩ = some (.int .i64 p) := c1
 clear c0 c1 h
 by_cases hp : p < x.size
 ·have hb := aF x p hp
  have q1 : decide ((p : Int) < (x.size : Int)) = true := decide_eq_true (by omega)
  have hget : tx[p]? = some x[p] := by rw [← hxd]; exact hb
  obtain ⟨b, hbb⟩ : ∃ b, b = x[p] := ⟨_, rfl⟩
  rw [← hbb] at hb hget
  cases hs : fO tx p c with
  | true =>
   have hbc : b = c := by have := of_decide_eq_true hs; rw [hget] at this; exact Option.some.inj this
   have q2 : ((x[p].toNat : Int) == (c.toNat : Int)) = true := by rw [← hbb, hbc]; simp
   clear hs hget hx hb hbb hbc hxz hxd
   go_enter Tryz.func219, Tryz.ntmps219
   go_wp2_with fail
   go_quiet (fail)
   go_wp2_with fail
   go_ret
   exact ⟨rfl, _, rfl⟩
  | false =>
   have hbc : b ≠ c := fun e => by have := of_decide_eq_false hs; rw [hget, e] at this; exact this rfl
   have q2 : ((x[p].toNat : Int) == (c.toNat : Int)) = false := by rw [← hbb]; exact dI hbc
   clear hs hget hx hb hbb hbc hxz hxd
   go_enter Tryz.func219, Tryz.ntmps219
   go_wp2_with fail
   go_quiet (fail)
   go_wp2_with fail
   go_ret
   exact ⟨rfl, _, rfl⟩
 ·have q1 : decide ((p : Int) < (x.size : Int)) = false := decide_eq_false (by omega)
  have hs : fO tx p c = false := decide_eq_false (by rw [List.getElem?_eq_none (by omega)]; simp)
  rw [hs]
  clear hx hs hxz hxd
  go_enter Tryz.func219, Tryz.ntmps219
  go_wp2_with fail
  go_quiet (fail)
  go_wp2_with fail
  go_ret
  exact ⟨rfl, _, rfl⟩
theorem Mrd.drewN {w : World} {R : Nat} {tx : List UInt8} {p : Nat} {bad : Bool} {f : Nat} (h : Mrd w R tx p bad f) (m : Nat) : Mrd (w.drewN m) R tx p bad f := h
theorem c8 (R : Nat) (w : World) (m : Nat) : Only R w (w.drewN m) := ⟨rfl, rfl, rfl, Nat.le_refl _, fun _ _ _ => rfl⟩
theorem oh (R p f : Nat) (tx : List UInt8) (bad : Bool) (c : UInt8) (w : World) (hp : p ≤ 8388608) (h : Mrd w R tx p bad f) :
  Calls Tryz.prog 243 #[.pointer (some ⟨R, 0, none⟩), .int .u8 c.toNat] w fun e w' => e = .returned (.tuple #[]) ∧ Mrd w' R tx (p + 1) (bad || !fO tx p c) f ∧ Only R w w' := by
 have d1 : w.cell? ⟨R, 1, none⟩ = some (.int .i64 p) := Blk.cell h 1
 have d2 : w.cell? ⟨R, 2, none⟩ = some (.bool bad) := Blk.cell h 2
 have f1 := Blk.frozen h 1
 have f2 := Blk.frozen h 2
 have e1 : ((p + 1 : Nat) : Int) = (p : Int) + 1 := by omega
 cases bad with
 | true =>
  have k1 := Blk.set_ h 2 (.bool true)
  have g1 : (w.setCell ⟨R, 2, none⟩ (.bool true)).cell? ⟨R, 1, none⟩ = some (.int .i64 p) := k1.cell 1
  have n1 := k1.frozen 1
  have HK := GR (k1.set_ 1 (.int .i64 ((p : Int) + 1)))
  clear h k1
  go_enter Tryz.func243, Tryz.ntmps243
  go_wp2_with fail
  go_end0
  refine ⟨rfl, ?_, (Only.set R w 2 _).trans (Only.set R _ 1 _)⟩
  unfold Mrd
  rw [e1]; exact HK.out
 | false =>
  have HS := GR (wI R p f tx false c w h)
  obtain ⟨sb, hsb⟩ : ∃ sb, sb = fO tx p c := ⟨_, rfl⟩
  rw [← hsb] at HS ⊢
  have H := GR h
  clear h hsb d1 d2 f1 f2
  have d2 : w.cell? ⟨R, 2, none⟩ = some (.bool false) := Blk.cell H.out 2
  go_enter Tryz.func243, Tryz.ntmps243
  go_wp2_with fail
  refine HS.out.mono ?_
  rintro e w1 ⟨rfl, m, rfl⟩
  have h1 := H.out.drewN m
  have f2 : (w.drewN m).frozen? ⟨R, 2, none⟩ = false := Blk.frozen h1 2
  have c2 : (w.drewN m).cell? ⟨R, 2, none⟩ = some (.bool false) := Blk.cell h1 2
  have k1 := Blk.set_ h1 2 (.bool (!sb))
  have g1 : ((w.drewN m).setCell ⟨R, 2, none⟩ (.bool (!sb))).cell? ⟨R, 1, none⟩ = some (.int .i64 p) := k1.cell 1
  have n1 := k1.frozen 1
  have HK := GR (k1.set_ 1 (.int .i64 ((p : Int) + 1)))
  have HO := GR (((c8 R w m).trans (Only.set R _ 2 (.bool (!sb)))).trans (Only.set R _ 1 (.int .i64 ((p : Int) + 1))))
  clear h1 k1
  go_wp2_with fail
  go_end0
  refine ⟨rfl, ?_, HO.out⟩
  unfold Mrd
  rw [e1]; exact HK.out
def gw (tx : List UInt8) (p : Nat) : Option Nat := match tx[p]? with | some c => if 48 ≤ c.toNat ∧ c.toNat ≤ 57 then some (c.toNat - 48) else none | none => none
theorem rt (R p f : Nat) (tx : List UInt8) (w : World) (hp : p ≤ 1048576) (h : Mrd w R tx p false f) :
  Calls Tryz.prog 218 #[.pointer (some ⟨R, 0, none⟩)] w fun e w' => Only R w w' ∧
   match gw tx p with
   | some n => e = .returned (.int .i64 n) ∧ Mrd w' R tx (p + 1) false f
   | none => e = .returned (.int .i64 0) ∧ Mrd w' R tx p true f := by
 have c0 := Blk.cell h 0
 obtain ⟨x, hx⟩ : ∃ x, x = tb tx := ⟨_, rfl⟩
 have hxz : x.size = tx.length := by rw [hx, aB]
 have hxd : x.data.toList = tx := by rw [hx, aI]
 have d0 : w.cell? ⟨R, 0, none⟩ = some (.string x) := by rw [hx]; exact c0
 have d1 : w.cell? ⟨R, 1, none⟩ = some (.int .i64 p) := Blk.cell h 1
 have d2 : w.cell? ⟨R, 2, none⟩ = some (.bool false) := Blk.cell h 2
 have f2 := Blk.frozen h 2
 have H := GR h
 clear c0 h
 by_cases hlt : p < x.size
 ·have hb := aF x p hlt
  have hget : tx[p]? = some x[p] := by rw [← hxd]; exact hb
  have q0 : ¬ x.size ≤ p := by omega
  have q1 : decide ((x.size : Int) ≤ (p : Int)) = false := decide_eq_false (by omega)
  have s0 : IntKind.i64.wrap (x[p].toNat : Int) = (x[p].toNat : Int) := IntWalk.i64_in _ (by have := UInt8.toNat_lt x[p]; omega)
  have tC := fun n => Calls.quiet_of_same ((qe (x[p].toNat : Int) 48 57 (w.drewN n)).mono fun _ _ ⟨a, b⟩ => ⟨a, b.symm⟩)
  obtain ⟨ib, hib⟩ : ∃ ib, ib = lA (x[p].toNat : Int) 48 57 := ⟨_, rfl⟩
  rw [← hib] at tC
  cases ib with
  | false =>
   have hd : gw tx p = none := by
    unfold gw
    rw [hget]
    show (if 48 ≤ (x[p]).toNat ∧ (x[p]).toNat ≤ 57 then some ((x[p]).toNat - 48) else none) = none
    rw [if_neg]
    intro q
    unfold lA at hib
    rw [decide_eq_true (by omega : (48 : Int) ≤ (x[p].toNat : Int)), decide_eq_true (by omega : (x[p].toNat : Int) ≤ 57)] at hib
    cases hib
   rw [hd]
   have HK := GR (fun m => Blk.set_ (H.out.drewN m) 2 (.bool true))
   have HF := GR (fun m => Blk.frozen (H.out.drewN m) 2)
   clear hb hget hib hxz hxd hd hx
   go_enter Tryz.func218, Tryz.ntmps218
   go_wp2_with fail
   go_quiet (with_reducible exact tC _)
   have f9 := HF.out nq
   clear tC
   go_wp2_with fail
   go_ret
   exact ⟨(c8 R w nq).trans (Only.set R _ 2 _), rfl, HK.out nq⟩
  | true =>
   have hr : 48 ≤ (x[p]).toNat ∧ (x[p]).toNat ≤ 57 := by
    have h9 := hib.symm
    unfold lA at h9
    have := Bool.and_eq_true_iff.1 h9
    have a := of_decide_eq_true this.1
    have b := of_decide_eq_true this.2
    omega
   have hd : gw tx p = some ((x[p]).toNat - 48) := by
    unfold gw
    rw [hget]
    show (if 48 ≤ (x[p]).toNat ∧ (x[p]).toNat ≤ 57 then some ((x[p]).toNat - 48) else none) = _
    rw [if_pos hr]
   rw [hd]
   have e1 : ((p + 1 : Nat) : Int) = (p : Int) + 1 := by omega
   have s1 : IntKind.i64.wrap ((p : Int) + 1 - 1) = (p : Int) := by rw [show (p : Int) + 1 - 1 = (p : Int) by omega]; exact IntWalk.i64_in _ (by omega)
   have s2 : (p : Int) + 1 - 1 = (p : Int) := by omega
   have HR := GR (show (x[p].toNat : Int) - 48 = ((x[p].toNat - 48 : Nat) : Int) by omega)
   have s3 : IntKind.i64.wrap ((x[p].toNat : Int) - 48) = (x[p].toNat : Int) - 48 := IntWalk.i64_in _ (by omega)
   have HK := GR (fun m => Blk.set_ (H.out.drewN m) 1 (.int .i64 ((p : Int) + 1)))
   have HF := GR (fun m => Blk.frozen (H.out.drewN m) 1)
   clear hb hget hib hxz hxd hd hx f2
   go_enter Tryz.func218, Tryz.ntmps218
   go_wp2_with fail
   go_quiet (with_reducible exact tC _)
   have f9 := HF.out nq
   have k9 := HK.out nq
   have c90 : ((w.drewN nq).setCell ⟨R, 1, none⟩ (.int .i64 ((p : Int) + 1))).cell? ⟨R, 0, none⟩ = some (.string x) := by
    have := (World.cell?_setCell_other (w.drewN nq) ⟨R, 1, none⟩ ⟨R, 0, none⟩ (.int .i64 ((p : Int) + 1)) (fun e => by injection e with _ e2 _; exact absurd e2 (by decide)))
    rw [this]; exact d0
   have c91 : ((w.drewN nq).setCell ⟨R, 1, none⟩ (.int .i64 ((p : Int) + 1))).cell? ⟨R, 1, none⟩ = some (.int .i64 ((p : Int) + 1)) := k9.cell 1
   have HK9 := GR k9
   clear tC k9
   go_wp2_with fail
   have HO9 := GR ((c8 R w nq).trans (Only.set R (w.drewN nq) 1 (.int .i64 ((p : Int) + 1))))
   generalize hw9 : (w.drewN nq).setCell ⟨R, 1, none⟩ (.int .i64 ((p : Int) + 1)) = w9 at *
   clear d0 d1 d2 f9 hw9
   go_quiet (fail)
   go_wp2_with fail
   go_ret
   refine ⟨HO9.out.trans (c8 R w9 _), bz HR.out, ?_⟩
   unfold Mrd
   rw [e1]; exact HK9.out
 ·have hd : gw tx p = none := by unfold gw; rw [List.getElem?_eq_none (by omega)]
  rw [hd]
  have HK := GR (fun m => Blk.set_ (H.out.drewN m) 2 (.bool true))
  have HF := GR (fun m => Blk.frozen (H.out.drewN m) 2)
  have q0 : x.size ≤ p := by omega
  have q1 : decide ((x.size : Int) ≤ (p : Int)) = true := decide_eq_true (by omega)
  clear hxz hxd hd hx
  go_enter Tryz.func218, Tryz.ntmps218
  go_wp2_with fail
  go_quiet (fail)
  have f9 := HF.out nq
  go_wp2_with fail
  go_ret
  exact ⟨(c8 R w nq).trans (Only.set R _ 2 _), rfl, HK.out nq⟩
end Go.Proofs.YtlkfakdghjaoaaaGreatDoor

namespace Go.Proofs.YtlkfakdghjaoaaaGreatDoor
open Go.RowKit Go.Sort
def Gz (k : Nat) : ByteArray := strOfNums [48 + (k : Int) % 10]
def GD : Nat → Nat → ByteArray → ByteArray
 | 0, _, o => o
 | f + 1, k, o => if k = 0 then o else GD f (k / 10) (Gz k ++ o)
def mT (n : Nat) : ByteArray := ⟨#[109]⟩ ++ GD 7 n ⟨#[]⟩
def Marked (cs : Array Value) (n m k : Nat) : Prop := m ≤ cs.size ∧ ∀ j, j < k → cs[j]? = some (.string (mT (n + j)))
theorem Marked.step {cs : Array Value} {n m k : Nat} (h : Marked cs n m k) (hk : k < m) : Marked (cs.setIfInBounds k (.string (mT (n + k)))) n m (k + 1) := by
 refine ⟨by simpa using h.1, fun j hj => ?_⟩
 have hsz := h.1
 rw [Array.getElem?_setIfInBounds]
 by_cases e : k = j
 ·subst e; rw [if_pos rfl, if_pos (by omega)]
 ·rw [if_neg e]; exact h.2 j (by omega)
theorem Only.setCell {R : Nat} {a w : World} (h : Only R a w) (j : Nat) (v : Value) : Only R a (w.setCell ⟨R, j, none⟩ v) :=
 h.trans ⟨rfl, rfl, rfl, by simp, fun k hk _ => Below.heap_setCell w ⟨R, j, none⟩ v k hk⟩
def MarkedV (w : World) (v : Value) (n : Nat) : Prop := (v = .slice none 0 0 ∧ n = 0) ∨ ∃ B cap cs t, v = .slice (some ⟨B, 0, none⟩) n cap ∧ Blk w B t cs ∧ Marked cs 1 n n
theorem MarkedV.below {w w' : World} {v : Value} {n : Nat} (h : MarkedV w v n) (hb : Below w.heap.size w w') : MarkedV w' v n := by
 rcases h with h | ⟨B, cap, cs, t, e, hk, hm⟩
 ·exact .inl h
 ·exact .inr ⟨B, cap, cs, t, e, hk.below hb hk.lt, hm⟩
end Go.Proofs.YtlkfakdghjaoaaaGreatDoor
