import Derived.Test.YtgebedbankibmaaGreatDoorNextOf
import Derived.Test.YtgebedbankibmaaGreatDoorBase
import Derived.Test.YtgebedbankibmaaGreatDoorOnly
import Derived.Test.YtgebedbankibmaaGreatDoorOwnStr
import Derived.Laws.BytesArg
import Derived.Lib.QuietBelow
import Derived.Laws.Bits64
import Derived.ProofKit
import Derived.ChangeSlices
import Derived.Deep.SlicePairs
import Derived.OwnWalk
import Derived.Deep.AppendLies
import Derived.Deep.RegionLaw
import Derived.Test.YtgebedbankibmaaGreatDoorValids
/-
  Texts of graphs, some theorems more.
-/
namespace Go.Proofs.YtgebedbankibmaaGreatDoor
open Go.RowKit Go.Sort

open Go.RowKit Go.Sort


theorem mark_size (next : ByteArray) : (mark next).size = 1 := by
  unfold mark; split
  · rfl
  · split <;> rfl

theorem part_size (b : Bl) : (part b).size = b.1.size + 1 + b.2.size := by
  unfold part; rw [ByteArray.size_append, ByteArray.size_append, mark_size]

/-- What FormatGraph returns of a graph. -/
def fmtG (g : List Bl) : ByteArray := ⟨(Lib.join (g.map fun b => (part b).data.toList) [44]).toArray⟩

def fmtVal (g : List Bl) : ByteArray := if validB g then fmtG g else ⟨#[]⟩
theorem fmtVal_yes {g : List Bl} (h : validB g = true) : fmtVal g = fmtG g := by unfold fmtVal; rw [if_pos h]
theorem fmtVal_no {g : List Bl} (h : validB g = false) : fmtVal g = ⟨#[]⟩ := by unfold fmtVal; rw [h]; rfl

theorem lens_parts (g : List Bl) : Lib.lens (g.map fun b => (part b).data.toList) = tot g + g.length := by
  induction g with
  | nil => rfl
  | cons b g ih =>
    have e : Lib.lens ((b :: g).map fun b => (part b).data.toList) = (part b).data.toList.length + Lib.lens (g.map fun b => (part b).data.toList) := by simp [Lib.lens]
    have e2 : (part b).data.toList.length = (part b).size := by rw [Array.length_toList]; rfl
    rw [e, ih, e2, part_size]; simp [tot]; omega

theorem join_le (l : List (List UInt8)) : (Lib.join l [44]).length ≤ Lib.lens l + l.length := by
  cases l with
  | nil => exact Nat.zero_le _
  | cons x r => rw [Lib.join_length]; simp; omega



theorem fmtG_toList (g : List Bl) : (fmtG g).data.toList = Lib.join (g.map fun b => (part b).data.toList) [44] := by simp [fmtG]

theorem fmtG_one (b : Bl) : fmtG [b] = part b := by
  apply ba_ext; rw [fmtG_toList]; exact Lib.join_one _ _

theorem fmtG_snoc {g : List Bl} (h : 0 < g.length) (b : Bl) : fmtG (g ++ [b]) = fmtG g ++ ⟨#[44]⟩ ++ part b := by
  apply ba_ext
  rw [ba_append_toList, ba_append_toList, fmtG_toList, fmtG_toList]
  cases g with
  | nil => simp at h
  | cons x r =>
    simp only [List.cons_append, List.map_cons, List.map_append, List.map_nil, Lib.join_cons]
    unfold Lib.joinTail
    simp

theorem fmtG_nil : fmtG [] = ⟨#[]⟩ := rfl

theorem fmtG_size_le (g : List Bl) : (fmtG g).size ≤ tot g + 2 * g.length := by
  have h := join_le (g.map fun b => (part b).data.toList)
  rw [lens_parts, List.length_map] at h
  have h2 : (fmtG g).size = (Lib.join (g.map fun b => (part b).data.toList) [44]).length := by rw [← fmtG_toList, Array.length_toList]; rfl
  omega

theorem mark_slice (t : ByteArray) (h : t.size ≤ 2) : (⟨#[46, 62, 63]⟩ : ByteArray).extract t.size (t.size + 1) = mark t := by
  have : t.size = 0 ∨ t.size = 1 ∨ t.size = 2 := by omega
  unfold mark
  rcases this with h | h | h <;> rw [h] <;> rfl

set_option maxHeartbeats 800000 in
theorem specFormat_any (A : Option Addr) (cap : Nat) (g : List Bl) (w : World) (hg : Gr w A g) (hn : g.length + tot g ≤ 1048576) (hcap : g.length ≤ cap) :
    Calls Tryz.prog 124 #[.slice A g.length cap] w fun e w' => e = .returned (.string (fmtVal g)) ∧ Below w.heap.size w w' := by
  have hc := specValid_any A cap g w hg hn hcap
  by_cases hv : validB g = true
  · have HV := Lib.hid (fmtVal_yes hv)
    rw [hv] at hc
    have HC := Lib.hid hc
    have HT := Lib.hid hv
    clear hv hc
    go_enter Tryz.func124, Tryz.ntmps124
    go_wp2_with fail
    refine HC.out.mono ?_
    rintro e w1 ⟨rfl, b1⟩
    go_wp2_with fail
    go_loopw [3, 11] (fun s i wr => ∃ k : Nat, k ≤ g.length ∧ i = .int .i64 k ∧ s = .string (fmtG (g.take k)) ∧ Below w.heap.size w wr) (fun _ i _ => g.length - (intOf i).toNat)
    case atStart => exact ⟨0, Nat.zero_le _, rfl, rfl, b1⟩
    case round =>
      obtain ⟨k, hk, rfl, rfl, hB⟩ := hrel
      have hm1 := fmtG_size_le (g.take k)
      have hm2 := tot_take_le g k
      have hm3 : (g.take k).length ≤ g.length := by simp; omega
      obtain ⟨m, hm⟩ : ∃ m, m = fmtG (g.take k) := ⟨_, rfl⟩
      have HM := Lib.hid hm
      rw [← hm] at hm1 ⊢
      have hms : m.size ≤ 3145728 := by omega
      clear hm hm1 hm2 hm3
      by_cases hlt : k < g.length
      · obtain ⟨b, off, s, t, rfl, hb, hc0, hc1, he, he2⟩ := gr_at (hg.below hB) hlt
        have hs3 := tot_get g k hlt
        rw [he, he2] at hs3
        have hs2 := (nextB_iff.1 (nextsB_iff.1 (valid_iff.1 HT.out).2.2.2 k hlt)).1
        rw [he2] at hs2
        have hss : s.size ≤ 1048576 := by omega
        have HP := Lib.hid (show part g[k] = s ++ mark t ++ t by unfold part; rw [he, he2])
        have HMS := Lib.hid (mark_slice t hs2)
        have hm1 := mark_size t
        have hsl : ∀ w, (Instr.slice 9 (.string ⟨#[46, 62, 63]⟩) (some (.int .i64 t.size)) (some (.int .i64 (t.size + 1))) none).run Tryz.prog w = .ok (.string (mark t)) w := fun w => by
          have h3 : (⟨#[46, 62, 63]⟩ : ByteArray).size = 3 := rfl
          have := run_slice_string (P := Tryz.prog) w 9 ⟨#[46, 62, 63]⟩ .i64 .i64 (t.size : Int) (t.size + 1 : Int) Tryz.underlying9 (by omega) (by omega) (by rw [h3]; omega)
          rw [this]
          have e1 : ((t.size : Int)).toNat = t.size := by omega
          have e2 : ((t.size : Int) + 1).toNat = t.size + 1 := by omega
          rw [e1, e2, mark_slice t hs2]
        have HTK := Lib.hid (take_snoc' g k hlt)
        clear he he2 hs3
        by_cases h0 : 0 < k
        · have HF : Hid (fmtG (g.take (k + 1)) = m ++ ⟨#[44]⟩ ++ (s ++ mark t ++ t)) := by
            show fmtG (g.take (k + 1)) = m ++ ⟨#[44]⟩ ++ (s ++ mark t ++ t)
            rw [HTK.out, fmtG_snoc (by simp; omega), HP.out, HM.out]
          go_wp2_with fail
          go_quiet (fail)
          go_wp2_with fail
          go_roundw
          case rel => exact ⟨k + 1, by omega, by go_num, by rw [HF.out, ← ba_append_assoc, ← ba_append_assoc], below_trans_self (hB.alloc hB.size _) (below_drewN _ nq)⟩
          case measure => simp [intOf]; omega
        · have HF : Hid (fmtG (g.take (k + 1)) = m ++ (s ++ mark t ++ t)) := by
            show fmtG (g.take (k + 1)) = m ++ (s ++ mark t ++ t)
            have hk0 : k = 0 := by omega
            rw [HTK.out, HM.out]
            subst hk0
            rw [List.take_zero, List.nil_append, fmtG_one, HP.out, fmtG_nil, ba_empty_append]
          go_wp2_with fail
          go_quiet (fail)
          go_wp2_with fail
          go_roundw
          case rel => exact ⟨k + 1, by omega, by go_num, by rw [HF.out, ← ba_append_assoc, ← ba_append_assoc], below_trans_self (hB.alloc hB.size _) (below_drewN _ nq)⟩
          case measure => simp [intOf]; omega
      · have HE := Lib.hid (show m = fmtVal g by rw [HV.out, HM.out, List.take_of_length_le (by omega)])
        go_wp2_with fail
        go_ret
        exact ⟨ret_string HE.out, hB⟩
  · have hv' : validB g = false := by simpa using hv
    have HV := Lib.hid (fmtVal_no hv')
    rw [hv'] at hc
    have HC := Lib.hid hc
    clear hv hv' hc
    go_enter Tryz.func124, Tryz.ntmps124
    go_wp2_with fail
    refine HC.out.mono ?_
    rintro e w1 ⟨rfl, b1⟩
    go_wp2_with fail
    go_ret
    exact ⟨ret_string HV.out.symm, b1⟩
end Go.Proofs.YtgebedbankibmaaGreatDoor

/-
  Lists of strings as they lie; the laws' markText, eqStringS, markStringS and heldStringS; lists of strings of a call's own.
-/
namespace Go.Proofs.YtgebedbankibmaaGreatDoor
open Go.RowKit Go.Sort

def digit (k : Nat) : ByteArray := strOfNums [48 + (k : Int) % 10]

/-- The digits of a number, before a text. -/
def mkF : Nat → Nat → ByteArray → ByteArray
  | 0, _, o => o
  | f + 1, k, o => if k = 0 then o else mkF f (k / 10) (digit k ++ o)

/-- The mark of a number. -/
def mT (n : Nat) : ByteArray := ⟨#[109]⟩ ++ mkF 7 n ⟨#[]⟩

/-- A row of cells that holds marks: the first k cells. -/
def Marked (cs : Array Value) (n m k : Nat) : Prop := m ≤ cs.size ∧ ∀ j, j < k → cs[j]? = some (.string (mT (n + j)))

theorem Marked.step {cs : Array Value} {n m k : Nat} (h : Marked cs n m k) (hk : k < m) : Marked (cs.setIfInBounds k (.string (mT (n + k)))) n m (k + 1) := by
  refine ⟨by simpa using h.1, fun j hj => ?_⟩
  have hsz := h.1
  rw [Array.getElem?_setIfInBounds]
  by_cases e : k = j
  · subst e; rw [if_pos rfl, if_pos (by omega)]
  · rw [if_neg e]; exact h.2 j (by omega)

theorem Only.setCell {R : Nat} {a w : World} (h : Only R a w) (j : Nat) (v : Value) : Only R a (w.setCell ⟨R, j, none⟩ v) :=
  h.trans ⟨rfl, rfl, rfl, by simp, fun k hk _ => Below.heap_setCell w ⟨R, j, none⟩ v k hk⟩

/-- A list that holds marks. -/
def MarkedV (w : World) (v : Value) (n : Nat) : Prop := (v = .slice none 0 0 ∧ n = 0) ∨ ∃ B cap cs t, v = .slice (some ⟨B, 0, none⟩) n cap ∧ Blk w B t cs ∧ Marked cs 1 n n
theorem MarkedV.below {w w' : World} {v : Value} {n : Nat} (h : MarkedV w v n) (hb : Below w.heap.size w w') : MarkedV w' v n := by
  rcases h with h | ⟨B, cap, cs, t, e, hk, hm⟩
  · exact .inl h
  · exact .inr ⟨B, cap, cs, t, e, hk.below hb hk.lt, hm⟩

end Go.Proofs.YtgebedbankibmaaGreatDoor


/-
  The model's reader of drawn bytes: what it is in memory, and its contract: a number within its bounds.
-/
namespace Go.Proofs.YtgebedbankibmaaGreatDoor
open Go.RowKit Go.Sort

theorem xor_i64 (a b : Nat) (ha : a < 4611686018427387904) (hb : b < 4611686018427387904) : bits .xor .i64 (a : Int) (b : Int) = ((a ^^^ b : Nat) : Int) := by
  have hx : a ^^^ b < 2 ^ 62 := Nat.xor_lt_two_pow (by omega) (by omega)
  have h1 : (BitVec.ofInt 64 (a : Int)).toNat = a := by
    rw [BitVec.ofInt_natCast, BitVec.toNat_ofNat]; exact Nat.mod_eq_of_lt (by omega)
  have h2 : (BitVec.ofInt 64 (b : Int)).toNat = b := by
    rw [BitVec.ofInt_natCast, BitVec.toNat_ofNat]; exact Nat.mod_eq_of_lt (by omega)
  show IntKind.i64.wrap ((BitVec.ofInt 64 (a : Int) ^^^ BitVec.ofInt 64 (b : Int)).toNat : Int) = _
  rw [BitVec.toNat_xor, h1, h2, IntKind.wrap_i64]
  omega

theorem xor_i64_int (x y : Int) (h1 : 0 ≤ x) (h2 : x < 4611686018427387904) (h3 : 0 ≤ y) (h4 : y < 4611686018427387904) : ∃ z : Nat, bits .xor .i64 x y = (z : Int) ∧ z < 4611686018427387904 := by
  obtain ⟨a, rfl⟩ := Int.eq_ofNat_of_zero_le h1
  obtain ⟨b, rfl⟩ := Int.eq_ofNat_of_zero_le h3
  refine ⟨a ^^^ b, xor_i64 a b (by omega) (by omega), ?_⟩
  have hx : a ^^^ b < 2 ^ 62 := Nat.xor_lt_two_pow (by omega) (by omega)
  omega

/-- A reader in block R: its bytes at A, and how far it has come. -/
structure Rd (w : World) (R : Nat) (A : Option Addr) (len cap p : Nat) : Prop where
  blk : Blk w R 93 #[.slice A len cap, .int .i64 p]
  bytes : 0 < len → ∃ b off, A = some ⟨b, off, none⟩ ∧ b < w.heap.size ∧ b ≠ R ∧ ∀ k, k < len → ∃ c : UInt8, w.cell? ⟨b, off + k, none⟩ = some (.int .u8 c.toNat)
  small : len ≤ 2000

/-- The reader goes on by one. -/
theorem Rd.next {w : World} {R : Nat} {A : Option Addr} {len cap p : Nat} (h : Rd w R A len cap p) (m : Nat) : Rd ((w.setCell ⟨R, 1, none⟩ (.int .i64 ((p : Int) + 1))).drewN m) R A len cap (p + 1) := by
  refine ⟨?_, fun hl => ?_, h.small⟩
  · have h1 := h.blk.set_ 1 (.int .i64 ((p : Int) + 1))
    have e : ((p + 1 : Nat) : Int) = (p : Int) + 1 := by omega
    rw [e]; exact h1
  obtain ⟨b, off, rfl, hlt, hne, hc⟩ := h.bytes hl
  refine ⟨b, off, rfl, by simpa using hlt, hne, fun k hk => ?_⟩
  obtain ⟨c, hcc⟩ := hc k hk
  exact ⟨c, (World.cell?_setCell_other w ⟨R, 1, none⟩ ⟨b, off + k, none⟩ _ (fun e => hne (by injection e with e1 _; exact e1.symm))).trans hcc⟩

def PickPost (R : Nat) (p : Nat) (n : Int) (w : World) (e : Ending) (w' : World) : Prop :=
  ∃ (x : Nat) (m : Nat), e = .returned (.int .i64 x) ∧ (x : Int) < n ∧ w' = (w.setCell ⟨R, 1, none⟩ (.int .i64 ((p : Int) + 1))).drewN m

set_option maxHeartbeats 1600000 in
set_option maxRecDepth 100000 in
theorem pick_any (R : Nat) (A : Option Addr) (len cap p : Nat) (n : Nat) (w : World) (h : Rd w R A len cap p) (hn : 1 ≤ n) (hn2 : n ≤ 1000) (hp : p ≤ 1048576) :
    Calls Tryz.prog 51 #[.pointer (some ⟨R, 0, none⟩), .int .i64 n] w (PickPost R p n w) := by
  have c0 := h.blk.cell 0
  have c1 := h.blk.cell 1
  have f1 := h.blk.frozen 1
  have g1 : decide ((n : Int) < 1) = false := by simp; omega
  by_cases h0 : len = 0
  · have g2 : ((len : Int) == 0) = true := by rw [h0]; rfl
    clear h0
    go_enter Tryz.func51, Tryz.ntmps51
    go_wp2_with fail
    go_ret
    exact ⟨0, 0, rfl, by omega, rfl⟩
  · have g2 : ((len : Int) == 0) = false := by simpa using h0
    have hl : 0 < len := by omega
    obtain ⟨b, off, rfl, hlt, hne, hc⟩ := h.bytes hl
    have hsm := h.small
    clear h0
    by_cases hk : p < len
    · obtain ⟨c, hcc⟩ := hc p hk
      have hcl : c.toNat < 256 := UInt8.toNat_lt c
      go_enter Tryz.func51, Tryz.ntmps51
      have HX : Hid ((c.toNat : Int) % (n : Int) = ((c.toNat % n : Nat) : Int)) := (Int.natCast_emod _ _).symm
      have HM : Hid (c.toNat % n < n) := Nat.mod_lt _ (by omega)
      go_wp2_with fail
      go_ret
      exact ⟨c.toNat % n, 0, ret_int HX.out, by have := HM.out; omega, rfl⟩
    · obtain ⟨c, hcc⟩ := hc (p % len) (Nat.mod_lt _ hl)
      obtain ⟨d, hdd⟩ := hc ((p * 7 + 3) % len) (Nat.mod_lt _ hl)
      have hcl : c.toNat < 256 := UInt8.toNat_lt c
      have hdl : d.toNat < 256 := UInt8.toNat_lt d
      have m1 : p % len < len := Nat.mod_lt _ hl
      have m2 : (p * 7 + 3) % len < len := Nat.mod_lt _ hl
      have q1 : p / len ≤ p := Nat.div_le_self _ _
      have z1 : ¬ (len : Int) = 0 := by omega
      have z2 : (1 : Int) ≤ len := by omega
      have z0 : ¬ len = 0 := by omega
      have e1 : ((p : Int) % (len : Int)).toNat = p % len := by omega
      have e2 : (((p : Int) * 7 + 3) % (len : Int)).toNat = (p * 7 + 3) % len := by
        have e3 : (p : Int) * 7 + 3 = ((p * 7 + 3 : Nat) : Int) := by omega
        rw [e3, ← Int.natCast_emod, Int.toNat_natCast]
      have j1 : 0 ≤ (p : Int) / (len : Int) := Int.ediv_nonneg (by omega) (by omega)
      have j2 : (p : Int) / (len : Int) ≤ (p : Int) := by rw [← Int.natCast_ediv]; omega
      have i1 : 0 ≤ (p : Int) % (len : Int) := Int.emod_nonneg _ (by omega)
      have i2 : (p : Int) % (len : Int) < (len : Int) := Int.emod_lt_of_pos _ (by omega)
      have i3 : 0 ≤ ((p : Int) * 7 + 3) % (len : Int) := Int.emod_nonneg _ (by omega)
      have i4 : ((p : Int) * 7 + 3) % (len : Int) < (len : Int) := Int.emod_lt_of_pos _ (by omega)
      go_enter Tryz.func51, Tryz.ntmps51
      go_wp2_with fail
      go_quiet (fail)
      have hX : 0 ≤ (c.toNat : Int) * 131 + (d.toNat : Int) * 1117 + (p : Int) * 29 + (p : Int) / (len : Int) * 53 ∧ (c.toNat : Int) * 131 + (d.toNat : Int) * 1117 + (p : Int) * 29 + (p : Int) / (len : Int) * 53 < 1000000000 := by omega
      generalize (c.toNat : Int) * 131 + (d.toNat : Int) * 1117 + (p : Int) * 29 + (p : Int) / (len : Int) * 53 = X at hX ⊢
      obtain ⟨hX1, hX2⟩ := hX
      have hX3 : 0 ≤ X / 64 := by omega
      obtain ⟨z, hz, hzb⟩ := xor_i64_int X (X / 64) hX1 (by omega) hX3 (by omega)
      have HX : Hid ((z : Int) % (n : Int) = ((z % n : Nat) : Int)) := (Int.natCast_emod _ _).symm
      have HM : Hid (z % n < n) := Nat.mod_lt _ (by omega)
      clear e1 e2 i1 i2 i3 i4 j1 j2 m1 m2 q1
      go_wp2_with fail
      go_ret
      exact ⟨z % n, nq, ret_int HX.out, by have := HM.out; omega, rfl⟩

def OfPost (R : Nat) (p : Nat) (ls : List ByteArray) (w : World) (e : Ending) (w' : World) : Prop :=
  ∃ (x : Nat) (h : x < ls.length) (m : Nat), e = .returned (.string (ls[x]'h)) ∧ w' = (w.setCell ⟨R, 1, none⟩ (.int .i64 ((p : Int) + 1))).drewN m

theorem of_any (R : Nat) (A : Option Addr) (len cap p L : Nat) (ls : List ByteArray) (w : World) (h : Rd w R A len cap p) (hL : L ≠ R) (hc : ∀ j (h : j < ls.length), w.cell? ⟨L, j, none⟩ = some (.string ls[j])) (h1 : 1 ≤ ls.length) (h2 : ls.length ≤ 1000) (hp : p ≤ 1048576) :
    Calls Tryz.prog 80 #[.pointer (some ⟨R, 0, none⟩), .slice (some ⟨L, 0, none⟩) ls.length ls.length] w (OfPost R p ls w) := by
  have HC := Lib.hid (pick_any R A len cap p ls.length w h h1 h2 hp)
  have HCC := Lib.hid hc
  clear hc h
  go_enter Tryz.func80, Tryz.ntmps80
  go_wp2_with fail
  refine HC.out.mono ?_
  rintro e w1 ⟨x, m, rfl, hx, rfl⟩
  have hx' : x < ls.length := by omega
  have c0 : ((w.setCell ⟨R, 1, none⟩ (.int .i64 ((p : Int) + 1))).drewN m).cell? ⟨L, x, none⟩ = some (.string (ls[x]'hx')) :=
    (World.cell?_setCell_other w ⟨R, 1, none⟩ ⟨L, x, none⟩ _ (fun e => hL (by injection e with e1 _; exact e1.symm))).trans (HCC.out x hx')
  go_wp2_with fail
  go_ret
  exact ⟨x, hx', m, rfl, rfl⟩

def NumPost (R : Nat) (p : Nat) (ls : List Int) (w : World) (e : Ending) (w' : World) : Prop :=
  ∃ (x : Nat) (h : x < ls.length) (m : Nat), e = .returned (.int .i64 (ls[x]'h)) ∧ w' = (w.setCell ⟨R, 1, none⟩ (.int .i64 ((p : Int) + 1))).drewN m

theorem num_any (R : Nat) (A : Option Addr) (len cap p L : Nat) (ls : List Int) (w : World) (h : Rd w R A len cap p) (hL : L ≠ R) (hc : ∀ j (h : j < ls.length), w.cell? ⟨L, j, none⟩ = some (.int .i64 ls[j])) (h1 : 1 ≤ ls.length) (h2 : ls.length ≤ 1000) (hp : p ≤ 1048576) :
    Calls Tryz.prog 53 #[.pointer (some ⟨R, 0, none⟩), .slice (some ⟨L, 0, none⟩) ls.length ls.length] w (NumPost R p ls w) := by
  have HC := Lib.hid (pick_any R A len cap p ls.length w h h1 h2 hp)
  have HCC := Lib.hid hc
  clear hc h
  go_enter Tryz.func53, Tryz.ntmps53
  go_wp2_with fail
  refine HC.out.mono ?_
  rintro e w1 ⟨x, m, rfl, hx, rfl⟩
  have hx' : x < ls.length := by omega
  have c0 : ((w.setCell ⟨R, 1, none⟩ (.int .i64 ((p : Int) + 1))).drewN m).cell? ⟨L, x, none⟩ = some (.int .i64 (ls[x]'hx')) :=
    (World.cell?_setCell_other w ⟨R, 1, none⟩ ⟨L, x, none⟩ _ (fun e => hL (by injection e with e1 _; exact e1.symm))).trans (HCC.out x hx')
  go_wp2_with fail
  go_ret
  exact ⟨x, hx', m, rfl, rfl⟩

/-- Opening a reader over bytes that came in. -/
def OpenPost (w : World) (e : Ending) (w' : World) : Prop :=
  ∃ A len cap, e = .returned (.pointer (some ⟨w.heap.size, 0, none⟩)) ∧ Rd w' w.heap.size A len cap 0 ∧ Below w.heap.size w w'

/-- A slice of bytes that reads. -/
def Bytes (w : World) (A : Option Addr) (len : Nat) : Prop :=
  0 < len → ∃ b off, A = some ⟨b, off, none⟩ ∧ b < w.heap.size ∧ ∀ k, k < len → ∃ c : UInt8, w.cell? ⟨b, off + k, none⟩ = some (.int .u8 c.toNat)

theorem rd_new (w : World) (A : Option Addr) (len cap : Nat) (hb : Bytes w A len) (hl : len ≤ 2000) : Rd (w.alloc (.cells #[.slice A len cap, .int .i64 0] 93)) w.heap.size A len cap 0 := by
  refine ⟨Blk.new _ _ _, fun hpos => ?_, hl⟩
  obtain ⟨b, off, rfl, hlt, hc⟩ := hb hpos
  refine ⟨b, off, rfl, by simp; omega, by omega, fun k hk => ?_⟩
  obtain ⟨c, hcc⟩ := hc k hk
  exact ⟨c, (World.cell?_alloc_lt w _ ⟨b, off + k, none⟩ hlt).trans hcc⟩

theorem open_any (A : Option Addr) (len cap : Nat) (w : World) (hb : Bytes w A len) (hlc : len ≤ cap) (hl : cap ≤ 9223372036854775807) :
    Calls Tryz.prog 33 #[.slice A len cap] w (OpenPost w) := by
  by_cases h : (2000 : Int) < len
  · obtain ⟨b, off, rfl, hlt, hc⟩ := hb (by omega)
    have HC := Lib.hid hc
    have h2 : (2000 : Int) ≤ cap := by omega
    clear hc hb
    go_enter Tryz.func33, Tryz.ntmps33
    go_wp2_with fail
    exact bodyPost_ret (v := .pointer (some ⟨w.heap.size, 0, none⟩)) (by simp [results, Tryz.results33, go_sem]) rfl
      ⟨_, 2000, cap, rfl, rd_new w _ 2000 cap (fun _ => ⟨b, off, rfl, hlt, fun k hk => HC.out k (by omega)⟩) (Nat.le_refl _), (Below.refl _ _).alloc (Nat.le_refl _) _⟩
  · have HB := Lib.hid hb
    clear hb
    go_enter Tryz.func33, Tryz.ntmps33
    go_wp2_with fail
    exact bodyPost_ret (v := .pointer (some ⟨w.heap.size, 0, none⟩)) (by simp [results, Tryz.results33, go_sem]) rfl
      ⟨A, len, cap, rfl, rd_new w A len cap HB.out (by omega), (Below.refl _ _).alloc (Nat.le_refl _) _⟩
end Go.Proofs.YtgebedbankibmaaGreatDoor

/-
  A draw of a number, of an element of a list of numbers or texts, told without the world's own letters.
-/
namespace Go.Proofs.YtgebedbankibmaaGreatDoor
open Go.RowKit Go.Sort

theorem Rd.below {w w' : World} {R : Nat} {A : Option Addr} {len cap p : Nat} (h : Rd w R A len cap p) (hb : Below w.heap.size w w') : Rd w' R A len cap p := by
  refine ⟨h.blk.below hb h.blk.lt, fun hl => ?_, h.small⟩
  obtain ⟨b, off, rfl, hlt, hne, hc⟩ := h.bytes hl
  have := hb.size
  refine ⟨b, off, rfl, by omega, hne, fun k hk => ?_⟩
  obtain ⟨c, hcc⟩ := hc k hk
  exact ⟨c, (hb.cell (p := ⟨b, off + k, none⟩) hlt).trans hcc⟩

/-- A draw, told without the world's own letters. -/
def Pick2 (R : Nat) (A : Option Addr) (len cap p n : Nat) (w : World) (e : Ending) (w' : World) : Prop :=
  ∃ x : Nat, e = .returned (.int .i64 x) ∧ x < n ∧ Only R w w' ∧ Rd w' R A len cap (p + 1)

theorem pick2 (R : Nat) (A : Option Addr) (len cap p : Nat) (n : Nat) (w : World) (h : Rd w R A len cap p) (hn : 1 ≤ n) (hn2 : n ≤ 1000) (hp : p ≤ 1048576) :
    Calls Tryz.prog 51 #[.pointer (some ⟨R, 0, none⟩), .int .i64 n] w (Pick2 R A len cap p n w) := by
  refine (pick_any R A len cap p n w h hn hn2 hp).mono ?_
  rintro e w' ⟨x, m, rfl, hx, rfl⟩
  exact ⟨x, rfl, by omega, Only.step _ _ _ _, h.next m⟩

def Num2 (R : Nat) (A : Option Addr) (len cap p : Nat) (ls : List Int) (w : World) (e : Ending) (w' : World) : Prop :=
  ∃ z : Int, e = .returned (.int .i64 z) ∧ z ∈ ls ∧ Only R w w' ∧ Rd w' R A len cap (p + 1)

theorem num2 (R : Nat) (A : Option Addr) (len cap p : Nat) (ls : List Int) (w : World) (h : Rd w R A len cap p) (h1 : 1 ≤ ls.length) (h2 : ls.length ≤ 1000) (hp : p ≤ 1048576) :
    Calls Tryz.prog 53 #[.pointer (some ⟨R, 0, none⟩), .slice (some ⟨w.heap.size, 0, none⟩) ls.length ls.length] (w.alloc (.cells (ls.map (Value.int .i64)).toArray 3)) (Num2 R A len cap p ls w) := by
  have hR := h.blk.lt
  have hr := h.below ((Below.refl w.heap.size w).alloc (Nat.le_refl _) (.cells (ls.map (Value.int .i64)).toArray 3))
  refine (num_any R A len cap p w.heap.size ls _ hr (by omega) (fun j hj => ?_) h1 h2 hp).mono ?_
  · rw [(Blk.new w 3 (ls.map (Value.int .i64)).toArray).cell j]
    simp [hj]
  · rintro e w' ⟨x, hx, m, rfl, rfl⟩
    exact ⟨_, rfl, List.getElem_mem hx, ((Only.refl R w).alloc _).trans (Only.step _ _ _ _), hr.next m⟩

def Of2 (R : Nat) (A : Option Addr) (len cap p : Nat) (ls : List ByteArray) (w : World) (e : Ending) (w' : World) : Prop :=
  ∃ s : ByteArray, e = .returned (.string s) ∧ s ∈ ls ∧ Only R w w' ∧ Rd w' R A len cap (p + 1)

theorem of2 (R : Nat) (A : Option Addr) (len cap p : Nat) (ls : List ByteArray) (w : World) (h : Rd w R A len cap p) (h1 : 1 ≤ ls.length) (h2 : ls.length ≤ 1000) (hp : p ≤ 1048576) :
    Calls Tryz.prog 80 #[.pointer (some ⟨R, 0, none⟩), .slice (some ⟨w.heap.size, 0, none⟩) ls.length ls.length] (w.alloc (.cells (ls.map Value.string).toArray 9)) (Of2 R A len cap p ls w) := by
  have hR := h.blk.lt
  have hr := h.below ((Below.refl w.heap.size w).alloc (Nat.le_refl _) (.cells (ls.map Value.string).toArray 9))
  refine (of_any R A len cap p w.heap.size ls _ hr (by omega) (fun j hj => ?_) h1 h2 hp).mono ?_
  · rw [(Blk.new w 9 (ls.map Value.string).toArray).cell j]
    simp [hj]
  · rintro e w' ⟨x, hx, m, rfl, rfl⟩
    exact ⟨_, rfl, List.getElem_mem hx, ((Only.refl R w).alloc _).trans (Only.step _ _ _ _), hr.next m⟩
end Go.Proofs.YtgebedbankibmaaGreatDoor

/-
  For the laws: bytes that came in, opened; a letter looked for.
-/
namespace Go.Proofs.YtgebedbankibmaaGreatDoor
open Go.ChangeShapes Go.WideShapes Go.ChangeAt Go.RowKit Go.Deep Go.Sort

theorem cellsByte : Tryz.prog.cellsOf 5 = 1 := by kernel_rfl

set_option maxRecDepth 100000 in
/-- A slice-of-bytes argument. -/
theorem open_bytes {H : Type} {enc : TypeId × Value → H} {W : World} {r : Reach} {b0 : Nat} {v : Value} {d : DataW H} {ps : List MemPlace}
    (hval : Value.okWide Tryz.prog W r b0 22 v) (h : DataW.Trod enc Tryz.prog W 0 (fun _ => true) true 22 v d ps) (hlt : ∀ x ∈ ps, x.block < W.heap.size) :
    ∃ (A : Option Addr) (len cap : Nat), v = .slice A len cap ∧ len ≤ cap ∧ cap ≤ 9223372036854775807 ∧ Bytes W A len := by
  obtain ⟨a0, len, cap, rfl⟩ := okWide_slice Tryz.underlying22 hval
  obtain ⟨fuel, hf⟩ := h
  rcases open_ints Tryz.underlying22 Tryz.underlying5 cellsByte hf with ⟨hcs, _⟩ | ⟨a, len', cap', zs, hcs, _, hl, hm, hz, hx, hc, hw⟩
  · simp [Value.cells] at hcs
    obtain ⟨rfl, rfl, rfl⟩ := hcs
    exact ⟨none, 0, 0, rfl, Nat.le_refl _, Nat.zero_le _, fun h => absurd h (by omega)⟩
  · simp [Value.cells] at hcs
    obtain ⟨rfl, rfl, rfl⟩ := hcs
    simp only [if_true] at hz
    refine ⟨some a, len, cap, rfl, hl, by simpa [maxLen] using hm, fun hn => ?_⟩
    have h0 := hc 0 (by omega)
    obtain ⟨b, off, spot⟩ := a
    have hspot : spot = none := by simpa [Addr.add] using World.cell?_spot h0
    subst hspot
    have hbW : b < W.heap.size := by
      have hx2 := (Prod.mk.inj hx).2
      have : MemPlace.cell b off ∈ ps := by
        rw [hx2]
        exact MemPlace.mem_row.2 ⟨0, by omega, by simp⟩
      exact hlt _ this
    refine ⟨b, off, rfl, hbW, fun k hk => ?_⟩
    have hck := hc k (by omega)
    rw [add_plain] at hck
    have hwf := hw (zs.getD k 0) (by rw [List.getD_eq_getElem?_getD, List.getElem?_eq_getElem (by omega)]; exact List.getElem_mem _)
    have hb : IntKind.u8.min ≤ zs.getD k 0 ∧ zs.getD k 0 ≤ IntKind.u8.max := by simpa [Lit.wf] using hwf
    have e0 : IntKind.u8.min = 0 := rfl
    have e1 : IntKind.u8.max = 255 := rfl
    rw [e0, e1] at hb
    refine ⟨UInt8.ofNat (zs.getD k 0).toNat, hck.trans ?_⟩
    congr 2
    rw [UInt8.toNat_ofNat']
    omega

theorem Bytes.below {w w' : World} {A : Option Addr} {len : Nat} (h : Bytes w A len) (hb : Below w.heap.size w w') : Bytes w' A len := by
  intro hn
  obtain ⟨b, off, rfl, hlt, hc⟩ := h hn
  have := hb.size
  exact ⟨b, off, rfl, by omega, fun k hk => by obtain ⟨c, e⟩ := hc k hk; exact ⟨c, (hb.cell (p := ⟨b, off + k, none⟩) hlt).trans e⟩⟩
end Go.Proofs.YtgebedbankibmaaGreatDoor

/-
  Contract of the model's l16Cut: a text, cut at each byte of one kind.
-/
namespace Go.Proofs.YtgebedbankibmaaGreatDoor
open Go.RowKit Go.Sort

/-- The pieces between the bytes c. -/
def cutL (c : UInt8) : List UInt8 → List (List UInt8)
  | [] => [[]]
  | b :: l => if b = c then [] :: cutL c l else match cutL c l with | p :: ps => (b :: p) :: ps | [] => [[b]]

theorem cutL_no {c : UInt8} : ∀ {l : List UInt8}, (∀ x ∈ l, x ≠ c) → cutL c l = [l]
  | [], _ => rfl
  | b :: l, h => by
    have hb : b ≠ c := h b (by simp)
    have ih := cutL_no (l := l) fun x hx => h x (List.mem_cons_of_mem _ hx)
    simp [cutL, hb, ih]

theorem cutL_at {c : UInt8} : ∀ {l : List UInt8} {r : List UInt8}, (∀ x ∈ l, x ≠ c) → cutL c (l ++ c :: r) = l :: cutL c r
  | [], r, _ => by simp [cutL]
  | b :: l, r, h => by
    have hb : b ≠ c := h b (by simp)
    have ih := cutL_at (l := l) (r := r) fun x hx => h x (List.mem_cons_of_mem _ hx)
    simp [cutL, hb, ih]

def mk (l : List UInt8) : ByteArray := ⟨l.toArray⟩
def pieces (c : UInt8) (s : ByteArray) : List ByteArray := (cutL c s.data.toList).map mk

/-- What is known when the byte k is asked and the piece at hand begins at f. -/
def CutInv (c : UInt8) (s : ByteArray) (f k : Nat) (ps : List ByteArray) : Prop :=
  (f ≤ k ∧ k ≤ s.size ∧ (∀ j (h : j < s.size), f ≤ j → j < k → s[j] ≠ c) ∧ pieces c s = ps ++ (cutL c (s.data.toList.drop f)).map mk) ∨ (k = s.size + 1 ∧ ps = pieces c s)

theorem ex_toList (s : ByteArray) (f k : Nat) : (s.extract f k).data.toList = (s.data.toList.drop f).take (k - f) := by
  rw [← Lib.toList_data, Lib.extract_toList]

theorem mk_extract (s : ByteArray) (f k : Nat) : mk ((s.data.toList.drop f).take (k - f)) = s.extract f k := by
  apply ba_ext; rw [ex_toList]; simp [mk]

theorem part_free {c : UInt8} {s : ByteArray} {f k : Nat} (h : ∀ j (h : j < s.size), f ≤ j → j < k → s[j] ≠ c) : ∀ x ∈ (s.data.toList.drop f).take (k - f), x ≠ c := by
  intro x hx
  obtain ⟨i, hi, rfl⟩ := List.getElem_of_mem hx
  have hi1 : i < k - f := by simp at hi; omega
  have hi2 : f + i < s.size := by simp at hi; omega
  rw [List.getElem_take, List.getElem_drop]
  have := byte_at s (f + i) hi2
  rw [List.getElem?_eq_getElem (by simp; omega)] at this
  rw [Option.some.inj this]
  exact h _ hi2 (by omega) (by omega)

theorem CutInv.start (c : UInt8) (s : ByteArray) : CutInv c s 0 0 [] :=
  .inl ⟨Nat.le_refl _, Nat.zero_le _, fun j _ _ h => absurd h (by omega), by simp [pieces]⟩

theorem CutInv.last {c : UInt8} {s : ByteArray} {f : Nat} {ps : List ByteArray} (h : CutInv c s f s.size ps) : CutInv c s (s.size + 1) (s.size + 1) (ps ++ [s.extract f s.size]) := by
  rcases h with ⟨hf, _, hno, he⟩ | ⟨h, _⟩
  · refine .inr ⟨rfl, ?_⟩
    have hl : s.data.toList.length = s.size := by rw [Array.length_toList]; rfl
    have h1 : (s.data.toList.drop f).take (s.size - f) = s.data.toList.drop f := List.take_of_length_le (by rw [List.length_drop, hl]; exact Nat.le_refl _)
    have h2 := part_free hno
    have h3 := mk_extract s f s.size
    rw [h1] at h2 h3
    rw [he, cutL_no h2, List.map_cons, List.map_nil, h3]
  · omega

theorem CutInv.hit {c : UInt8} {s : ByteArray} {f k : Nat} {ps : List ByteArray} (h : CutInv c s f k ps) (hk : k < s.size) (hc : s[k] = c) : CutInv c s (k + 1) (k + 1) (ps ++ [s.extract f k]) := by
  rcases h with ⟨hf, _, hno, he⟩ | ⟨h, _⟩
  · refine .inl ⟨Nat.le_refl _, hk, fun j _ h1 h2 => absurd h2 (by omega), ?_⟩
    have hl : s.data.toList.length = s.size := by rw [Array.length_toList]; rfl
    have h2 := part_free hno
    have h3 := mk_extract s f k
    have h4 : s.data.toList.drop f = (s.data.toList.drop f).take (k - f) ++ c :: s.data.toList.drop (k + 1) := by
      have e1 := List.take_append_drop (k - f) (s.data.toList.drop f)
      have e2 : (s.data.toList.drop f).drop (k - f) = s.data.toList.drop k := by rw [List.drop_drop]; congr 1; omega
      have e3 : s.data.toList.drop k = c :: s.data.toList.drop (k + 1) := by
        rw [List.drop_eq_getElem_cons (by omega)]
        have := byte_at s k hk
        rw [List.getElem?_eq_getElem (by omega)] at this
        rw [Option.some.inj this, hc]
      rw [e2, e3] at e1
      exact e1.symm
    rw [he, h4, cutL_at h2, List.map_cons, h3, List.append_assoc, List.singleton_append]
  · omega

theorem CutInv.miss {c : UInt8} {s : ByteArray} {f k : Nat} {ps : List ByteArray} (h : CutInv c s f k ps) (hk : k < s.size) (hc : s[k] ≠ c) : CutInv c s f (k + 1) ps := by
  rcases h with ⟨hf, _, hno, he⟩ | ⟨h, _⟩
  · refine .inl ⟨by omega, hk, fun j hj h1 h2 => ?_, he⟩
    rcases Nat.lt_succ_iff_lt_or_eq.1 h2 with h3 | rfl
    · exact hno j hj h1 h3
    · exact hc
  · omega

theorem CutInv.done {c : UInt8} {s : ByteArray} {f k : Nat} {ps : List ByteArray} (h : CutInv c s f k ps) (hk : ¬ k ≤ s.size) : ps = pieces c s := by
  rcases h with ⟨_, h, _⟩ | ⟨_, h⟩
  · omega
  · exact h

theorem CutInv.le {c : UInt8} {s : ByteArray} {f k : Nat} {ps : List ByteArray} (h : CutInv c s f k ps) (hk : k ≤ s.size) : f ≤ k := by
  rcases h with ⟨h, _⟩ | ⟨h, _⟩ <;> omega

theorem owns_ne {w : World} {b1 b2 n1 n2 s1 s2 : Nat} {e1 e2 : TypeId} {v1 v2 : Value} {x1 x2 : List Value} (h1 : w.ownsRow b1 e1 s1 v1 n1 x1) (h2 : w.ownsRow b2 e2 s2 v2 n2 x2) (hne : e1 ≠ e2) : v1.ownBlock = none ∨ v1.ownBlock ≠ v2.ownBlock := by
  rcases h1.2 with ⟨rfl, _⟩ | ⟨g1, c1, u1, rfl, _, hg1, _⟩
  · exact .inl rfl
  · rcases h2.2 with ⟨rfl, _⟩ | ⟨g2, c2, u2, rfl, _, hg2, _⟩
    · exact .inr (by simp [Value.ownBlock])
    · refine .inr fun e => ?_
      have hgg : g1 = g2 := by simpa [Value.ownBlock] using e
      subst hgg
      rw [hg1] at hg2
      injection hg2 with hg2
      injection hg2 with _ ht
      exact hne ht

def CutPost (c : UInt8) (s : ByteArray) (w : World) (e : Ending) (w' : World) : Prop :=
  ∃ A cap, e = .returned (.slice A (pieces c s).length cap) ∧ OwnStr w' w.heap.size (.slice A (pieces c s).length cap) (pieces c s) ∧ Below w.heap.size w w'

set_option maxHeartbeats 1600000 in
theorem cut_any (s : ByteArray) (c : UInt8) (w : World) (hs : s.size ≤ 1048576) :
    Calls Tryz.prog 123 #[.string s, .int .u8 c.toNat] w (CutPost c s w) := by
  obtain ⟨i0, hi, hz0, hz1, hz2⟩ := info_parts info_str
  go_enter Tryz.func123, Tryz.ntmps123
  go_wp2_with fail
  have HO0 := Lib.hid (World.ownsRow_made (base := w.heap.size) (e := 9) (size := 1) w #[] 0 (Nat.le_refl _) (Nat.zero_le _) rfl)
  go_loopw [5, 6, 7] (fun v f i wr => ∃ (a k : Nat) (ps : List ByteArray), k ≤ s.size + 1 ∧ i = .int .i64 k ∧ f = .int .i64 a ∧ ps.length ≤ k ∧ Hid (CutInv c s a k ps) ∧ wr.ownsRow w.heap.size 9 1 v ps.length (ps.map Value.string) ∧ Below w.heap.size w wr) (fun _ _ i _ => s.size + 1 - (intOf i).toNat)
  case atStart => exact ⟨0, 0, [], Nat.zero_le _, rfl, rfl, Nat.le_refl _, CutInv.start c s, HO0.out, (Below.refl _ _).alloc (Nat.le_refl _) _⟩
  case round =>
    obtain ⟨a, k, ps, hk, rfl, rfl, hlen, HI, hown, hB⟩ := hrel
    by_cases hle : k ≤ s.size
    · have hak := HI.out.le hle
      have HOWN := Lib.hid hown
      have hBs := hB.size
      by_cases hcut : k = s.size ∨ ∃ h : k < s.size, s[k] = c
      · have HNEXT : Hid (CutInv c s (k + 1) (k + 1) (ps ++ [s.extract a k])) := by
          rcases hcut with rfl | ⟨h, hc⟩
          · exact HI.out.last
          · exact HI.out.hit h hc
        have hsplit : ((k : Int) == (s.size : Int)) = true ∨ (((k : Int) == (s.size : Int)) = false ∧ ∃ h : k < s.size, ((s[k].toNat : Int) == (c.toNat : Int)) = true) := by
          by_cases he : k = s.size
          · exact .inl (by rw [he]; simp)
          · rcases hcut with h | ⟨h, hc⟩
            · exact absurd h he
            · exact .inr ⟨by simp; omega, h, by rw [hc]; simp⟩
        clear hcut hown
        rcases hsplit with g1 | ⟨g1, hlt, g2⟩
        all_goals
          go_wp2_with (at_builtin; refine wpList_append_own _ rfl _ _ 82 rfl w.heap.size 9 i0 (.string ⟨#[]⟩) 1 16 Tryz.underlying82 hi hz0 hz1 hz2 rfl (by decide) _ _ _ rfl (HOWN.out.alloc _) ⟨wr.heap.size, 0, none⟩ 1 1 [.string (s.extract a k)] rfl rfl ?c1 ?c2 ?c3 ?c4 ?c5 ?_)
          case c1 =>
            intro j u hj
            match j, hj with
            | 0, hj =>
              have hu : Value.string (s.extract a k) = u := by simpa using hj
              rw [← hu]
              simp [Addr.add]
          case c2 => intro u hu; have hu' : u = .string (s.extract a k) := by simpa using hu
                     subst hu'; rfl
          case c3 => unfold maxLen; omega
          case c4 => omega
          case c5 => simp; omega
          intro v' w5 hown' hgrow _
          have hsz := (HOWN.out.alloc (.cells #[.string (s.extract a k)] 9)).lt
          have hB5 := (hB.alloc hBs (.cells #[.string (s.extract a k)] 9)).grown hgrow (by simp; omega) (fun j hj => (hsz j hj).1)
          have HO5 : Hid (w5.ownsRow w.heap.size 9 1 v' (ps ++ [s.extract a k]).length ((ps ++ [s.extract a k]).map Value.string)) := by
            show w5.ownsRow w.heap.size 9 1 v' (ps ++ [s.extract a k]).length ((ps ++ [s.extract a k]).map Value.string)
            rw [List.length_append, List.map_append]; exact hown'
          clear hown' hsz hgrow
          go_wp2_with fail
          go_roundw
          case rel => exact ⟨k + 1, k + 1, ps ++ [s.extract a k], by omega, by go_num, by go_num, by simp; omega, HNEXT.out, HO5.out, hB5⟩
          case measure => simp [intOf]; omega
      · have hlt : k < s.size := by
          rcases Nat.lt_or_ge k s.size with h | h
          · exact h
          · exact absurd (.inl (by omega)) hcut
        have g1 : ((k : Int) == (s.size : Int)) = false := by simp; omega
        have hne : s[k] ≠ c := fun e => hcut (.inr ⟨hlt, e⟩)
        have g2 := byte_ne hne
        have HNEXT := Lib.hid (HI.out.miss hlt hne)
        clear hcut hne hown
        go_wp2_with fail
        go_roundw
        case rel => exact ⟨a, k + 1, ps, by omega, by go_num, rfl, by omega, HNEXT.out, HOWN.out, hB⟩
        case measure => simp [intOf]; omega
    · obtain ⟨A, cap, hv, _⟩ := own_strs hown
      have hps := HI.out.done hle
      rw [hps] at hv hown
      rw [hv] at hown ⊢
      have HST := Lib.hid hown
      clear hv hown hps
      go_wp2_with fail
      exact bodyPost_ret (v := .slice A (pieces c s).length cap) (by simp [results, Tryz.results123, go_sem]) rfl ⟨A, cap, rfl, HST.out, hB⟩
end Go.Proofs.YtgebedbankibmaaGreatDoor

/-
  Contract of the model's ParseGraph.
-/
namespace Go.Proofs.YtgebedbankibmaaGreatDoor
open Go.RowKit Go.Sort

def blkOf (p : ByteArray) : Bl := (p.extract 0 1, p.extract 2 p.size)

def longB (ps : List ByteArray) : Bool := ps.all fun p => decide (2 ≤ p.size)
def parsed (s : ByteArray) : List Bl := (pieces 44 s).map blkOf
def parseOk (s : ByteArray) : Bool := longB (pieces 44 s) && decide (fmtVal (parsed s) = s)
def parseVal (s : ByteArray) : List Bl := if parseOk s then parsed s else []

theorem longB_iff {ps : List ByteArray} : longB ps = true ↔ ∀ k (h : k < ps.length), 2 ≤ ps[k].size := by
  unfold longB
  rw [List.all_eq_true]
  constructor
  · intro h k hk; simpa using h _ (List.getElem_mem hk)
  · intro h p hp
    obtain ⟨k, hk, rfl⟩ := List.getElem_of_mem hp
    simpa using h k hk

/-- The lengths of the pieces. -/
def lensOf (ps : List ByteArray) : Nat := (ps.map ByteArray.size).sum

theorem cutL_lens (c : UInt8) : ∀ l : List UInt8, ((cutL c l).map List.length).sum + (cutL c l).length = l.length + 1
  | [] => rfl
  | b :: l => by
    have ih := cutL_lens c l
    by_cases hb : b = c
    · simp [cutL, hb]; omega
    · cases h : cutL c l with
      | nil => rw [h] at ih; simp at ih
      | cons p ps => rw [h] at ih; simp [cutL, hb, h] at ih ⊢; omega

theorem pieces_lens (c : UInt8) (s : ByteArray) : lensOf (pieces c s) + (pieces c s).length = s.size + 1 := by
  have h := cutL_lens c s.data.toList
  have e : lensOf (pieces c s) = ((cutL c s.data.toList).map List.length).sum := by
    unfold lensOf pieces
    rw [List.map_map]
    congr 1
  rw [e]
  have e2 : (pieces c s).length = (cutL c s.data.toList).length := by simp [pieces]
  have e3 : s.data.toList.length = s.size := by rw [Array.length_toList]; rfl
  omega

theorem blkOf_size (p : ByteArray) (h : 2 ≤ p.size) : (blkOf p).1.size + (blkOf p).2.size + 1 = p.size := by
  unfold blkOf
  simp only [ByteArray.size_extract]
  omega

theorem tot_parsed : ∀ {ps : List ByteArray}, longB ps = true → (ps.map blkOf).length + tot (ps.map blkOf) = lensOf ps
  | [], _ => rfl
  | p :: ps, h => by
    have h1 : decide (2 ≤ p.size) = true ∧ longB ps = true := by simpa [longB] using h
    have ih := tot_parsed h1.2
    have h2 := blkOf_size p (by simpa using h1.1)
    have e : lensOf (p :: ps) = p.size + lensOf ps := by simp [lensOf]
    rw [e]
    simp only [List.map_cons, List.length_cons, tot] at ih ⊢
    omega

/-- The cells of blocks. -/
def cells2 (g : List Bl) : List Value := g.flatMap fun b => [.string b.1, .string b.2]

theorem cells2_append (g h : List Bl) : cells2 (g ++ h) = cells2 g ++ cells2 h := by simp [cells2]
theorem cells2_length (g : List Bl) : (cells2 g).length = g.length * 2 := by
  induction g with
  | nil => rfl
  | cons b g ih => simp only [cells2, List.flatMap_cons, List.length_append, List.length_cons, List.length_nil] at ih ⊢; omega
theorem cells2_at : ∀ {g : List Bl} {k : Nat} (h : k < g.length), (cells2 g)[k * 2]? = some (.string g[k].1) ∧ (cells2 g)[k * 2 + 1]? = some (.string g[k].2)
  | b :: g, 0, _ => by simp [cells2]
  | b :: g, k + 1, h => by
    have ih := cells2_at (g := g) (k := k) (by simpa using h)
    have e : cells2 (b :: g) = .string b.1 :: .string b.2 :: cells2 g := rfl
    have e1 : (k + 1) * 2 = k * 2 + 1 + 1 := by omega
    rw [e, e1]
    simpa using ih

/-- A slice of the call's own that holds blocks. -/
abbrev OwnBl (w : World) (base : Nat) (v : Value) (g : List Bl) : Prop := w.ownsRow base 56 2 v g.length (cells2 g)

theorem own_gr {w : World} {base : Nat} {v : Value} {g : List Bl} (h : OwnBl w base v g) : ∃ A cap, v = .slice A g.length cap ∧ g.length ≤ cap ∧ Gr w A g := by
  rcases h.2 with ⟨rfl, hn⟩ | ⟨gb, cap, cur, hv, _, hg, hnc, _⟩
  · exact ⟨none, 0, by rw [hn], by omega, fun hpos => absurd hpos (by omega)⟩
  · subst hv
    refine ⟨_, _, rfl, hnc, fun _ => ⟨gb, 0, rfl, ?_, fun j hj => ?_⟩⟩
    · rcases Nat.lt_or_ge gb w.heap.size with h' | h'
      · exact h'
      · rw [Array.getElem?_eq_none h'] at hg; cases hg
    · have c0 := h.cellAt (j * 2) (by omega)
      have c1 := h.cellAt (j * 2 + 1) (by omega)
      rw [(cells2_at hj).1] at c0
      rw [(cells2_at hj).2] at c1
      rw [Nat.zero_add]
      exact ⟨c0, c1⟩

def ParsePost (s : ByteArray) (w : World) (e : Ending) (w' : World) : Prop :=
  ∃ v, e = .returned (.tuple #[v, .bool (parseOk s)]) ∧ OwnBl w' w.heap.size v (parseVal s) ∧ Below w.heap.size w w'

theorem parsed_take {s : ByteArray} {k : Nat} (h : k < (pieces 44 s).length) : ((pieces 44 s).take (k + 1)).map blkOf = ((pieces 44 s).take k).map blkOf ++ [blkOf (pieces 44 s)[k]] := by
  rw [List.take_succ_eq_append_getElem h, List.map_append]; rfl

set_option maxHeartbeats 1600000 in
set_option maxRecDepth 100000 in
theorem specParse_any (s : ByteArray) (w : World) (hs : s.size ≤ 1048576) :
    Calls Tryz.prog 82 #[.string s] w (ParsePost s w) := by
  obtain ⟨i0, hi, hz0, hz1, hz2⟩ := info_parts info_block
  have HPL := Lib.hid (pieces_lens 44 s)
  have HC : Hid (∀ w, Calls Tryz.prog 123 #[.string s, .int .u8 44] w (CutPost 44 s w)) := fun w => cut_any s 44 w hs
  go_enter Tryz.func82, Tryz.ntmps82
  go_wp2_with fail
  have HO0 := Lib.hid (World.ownsRow_made (base := w.heap.size) (e := 56) (size := 2) w #[] 0 (Nat.le_refl _) (Nat.zero_le _) rfl)
  refine (HC.out _).mono ?_
  rintro e w1 ⟨A, cap, rfl, hst, b1⟩
  have HST := Lib.hid hst
  have HO1 : Hid (OwnBl w1 w.heap.size (.slice (some ⟨w.heap.size, 0, none⟩) 0 0) []) := ownRow_below HO0.out b1
  have hB1 := (Below.refl w.heap.size w).alloc (Nat.le_refl _) (.cells #[] 56)
  have hB1 := below_trans_self hB1 b1
  have hlen : (pieces 44 s).length ≤ 1048577 := by have := HPL.out; omega
  clear hst
  go_wp2_with fail
  go_loopw [4, 11] (fun v i wr => ∃ k : Nat, k ≤ (pieces 44 s).length ∧ i = .int .i64 k ∧ OwnBl wr w.heap.size v (((pieces 44 s).take k).map blkOf) ∧ OwnStr wr (w.alloc (.cells #[] 56)).heap.size (.slice A (pieces 44 s).length cap) (pieces 44 s) ∧ Hid (∀ j (h : j < (pieces 44 s).length), j < k → 2 ≤ (pieces 44 s)[j].size) ∧ Below w.heap.size w wr) (fun _ i _ => (pieces 44 s).length - (intOf i).toNat)
  case atStart => exact ⟨0, Nat.zero_le _, rfl, HO1.out, HST.out, fun j _ h => absurd h (by omega), hB1⟩
  case round =>
    obtain ⟨k, hk, rfl, hown, hstr, HK, hB⟩ := hrel
    by_cases hlt : k < (pieces 44 s).length
    · obtain ⟨b, off, rfl, hb, hc⟩ := hstr.strs (by omega)
      have x0 := hc k hlt
      obtain ⟨p, hp⟩ : ∃ p, p = (pieces 44 s)[k] := ⟨_, rfl⟩
      rw [← hp] at x0
      have HP := Lib.hid hp
      have HOWN := Lib.hid hown
      have HSTR := Lib.hid hstr
      have hBs := hB.size
      clear hp hc hown hstr
      by_cases hp2 : p.size < 2
      · have g1 : decide ((p.size : Int) < 2) = true := by simp; omega
        have HF := Lib.hid (show parseOk s = false by
          unfold parseOk
          have : longB (pieces 44 s) = false := Bool.eq_false_iff.2 fun e => by have := longB_iff.1 e k hlt; rw [← HP.out] at this; omega
          rw [this]; rfl)
        have HE := Lib.hid (show parseVal s = [] by unfold parseVal; rw [HF.out]; rfl)
        go_wp2_with fail
        refine bodyPost_ret (v := .tuple #[.slice (some ⟨wr.heap.size, 0, none⟩) 0 0, .bool false]) (by simp [results, Tryz.results82, go_sem]) rfl ⟨.slice (some ⟨wr.heap.size, 0, none⟩) 0 0, by rw [HF.out], ?_, hB.alloc hBs _⟩
        rw [HE.out]
        exact World.ownsRow_made wr #[] 0 hBs (Nat.zero_le _) rfl
      · have g1 : decide ((p.size : Int) < 2) = false := by simp; omega
        have l1 : 1 ≤ p.size := by omega
        have l2 : (1 : Int) ≤ p.size := by omega
        have l3 : (2 : Int) ≤ p.size := by omega
        have hlk : (((pieces 44 s).take k).map blkOf).length ≤ 1048577 := by simp; omega
        go_wp2_with fail
        go_region_law ((refine step_append_lies _ (by rfl) _ _ _ (by rfl) w.heap.size 56 i0 _ 2 32 Tryz.underlying23 hi hz0 hz1 hz2 rfl (by omega) _ _ _ (by rfl) ((HOWN.out.alloc _).drew) ⟨wr.heap.size, 0, none⟩ 1 1 [.string (p.extract 0 1), .string (p.extract 2 p.size)] (by rfl) (by rfl) (World.news_of_block (cs := #[.string (p.extract 0 1), .string (p.extract 2 p.size)]) (t := 56) (fr := (0, 0)) (heap_alloc_new wr _)) (by simp [Value.oneCell']) (by omega) (by unfold maxLen; omega) (by omega) (by simp; omega) (wr.heap.size + 1) (by simp) ?_; intro gg capg w5 hown5 hgrow hat hltg))
        have hsz := ((HOWN.out.alloc (.cells #[.string (p.extract 0 1), .string (p.extract 2 p.size)] 56)).drew).lt
        have hB5 := ((hB.alloc hBs (.cells #[.string (p.extract 0 1), .string (p.extract 2 p.size)] 56)).drew).grown hgrow (by simp; omega) (fun j hj => (hsz j hj).1)
        have hS5 : OwnStr w5 (w.alloc (.cells #[] 56)).heap.size (.slice (some ⟨b, off, none⟩) (pieces 44 s).length cap) (pieces 44 s) :=
          ((HSTR.out.alloc (.cells #[.string (p.extract 0 1), .string (p.extract 2 p.size)] 56)).drew).kept hgrow (owns_ne (((HSTR.out.alloc (.cells #[.string (p.extract 0 1), .string (p.extract 2 p.size)] 56)).drew)) (((HOWN.out.alloc (.cells #[.string (p.extract 0 1), .string (p.extract 2 p.size)] 56)).drew)) (by decide))
        have HS5 := Lib.hid hS5
        have hkl : (((pieces 44 s).take k).map blkOf).length = k := by simp; omega
        have HO5 : Hid (OwnBl w5 w.heap.size (.slice (some ⟨gg, 0, none⟩) (k + 1) capg) (((pieces 44 s).take (k + 1)).map blkOf)) := by
          show w5.ownsRow w.heap.size 56 2 (.slice (some ⟨gg, 0, none⟩) (k + 1) capg) (((pieces 44 s).take (k + 1)).map blkOf).length (cells2 (((pieces 44 s).take (k + 1)).map blkOf))
          rw [parsed_take hlt, List.length_append, cells2_append, hkl, ← HP.out]
          rw [hkl] at hown5
          exact hown5
        clear hown5 hsz hgrow hat hkl hS5 hlk
        go_wp2_with fail
        go_roundw
        case rel =>
          refine ⟨k + 1, by omega, by go_num, HO5.out, HS5.out, fun j h hj => ?_, hB5⟩
          rcases Nat.lt_succ_iff_lt_or_eq.1 hj with hj | rfl
          · exact HK.out j h hj
          · rw [← HP.out]; omega
        case measure => simp [intOf]; omega
    · have hkk : k = (pieces 44 s).length := by omega
      have hlong : longB (pieces 44 s) = true := longB_iff.2 fun j h => HK.out j h (by omega)
      rw [hkk, List.take_length] at hown
      obtain ⟨A5, cap5, hv5, hc5, hg5⟩ := own_gr hown
      have htot : (parsed s).length + tot (parsed s) ≤ 1048576 := by
        have h1 : (parsed s).length + tot (parsed s) = lensOf (pieces 44 s) := tot_parsed hlong
        have h2 := HPL.out
        have h3 : 0 < (pieces 44 s).length ∨ (pieces 44 s).length = 0 := by omega
        have h4 : (pieces 44 s).length ≠ 0 := by
          intro e
          have := cutL_lens 44 s.data.toList
          have e2 : (cutL 44 s.data.toList).length = 0 := by simpa [pieces] using e
          rw [List.eq_nil_of_length_eq_zero e2] at this
          simp at this
        omega
      have hf := specFormat_any A5 cap5 (parsed s) wr hg5 htot hc5
      have hpl : (parsed s).length = (pieces 44 s).length := by simp [parsed]
      rw [hpl] at hf
      rw [List.length_map] at hv5
      have HF := Lib.hid hf
      rw [hv5] at hown ⊢
      have HOWN := Lib.hid hown
      have HL := Lib.hid hlong
      have hBs := hB.size
      clear hf hv5 hown hlong hkk htot hpl
      by_cases he : fmtVal (parsed s) = s
      · have g1 : ((fmtVal (parsed s)).toList == s.toList) = true := beq_toList.2 he
        have HOK := Lib.hid (show parseOk s = true by unfold parseOk; rw [HL.out, he]; simp)
        have HV := Lib.hid (show parseVal s = parsed s by unfold parseVal; rw [HOK.out]; rfl)
        clear he
        go_wp2_with fail
        refine HF.out.mono ?_
        rintro e w6 ⟨rfl, b6⟩
        go_wp2_with fail
        refine bodyPost_ret (v := .tuple #[.slice A5 (pieces 44 s).length cap5, .bool true]) (by simp [results, Tryz.results82, go_sem]) rfl ⟨.slice A5 (pieces 44 s).length cap5, by rw [HOK.out], ?_, hB.trans (b6.mono hBs)⟩
        rw [HV.out]
        exact ownRow_below HOWN.out b6
      · have g1 : ((fmtVal (parsed s)).toList == s.toList) = false := Bool.eq_false_iff.2 fun e => he (beq_toList.1 e)
        have HOK := Lib.hid (show parseOk s = false by unfold parseOk; rw [HL.out]; simpa using he)
        have HV := Lib.hid (show parseVal s = [] by unfold parseVal; rw [HOK.out]; rfl)
        clear he
        go_wp2_with fail
        refine HF.out.mono ?_
        rintro e w6 ⟨rfl, b6⟩
        go_wp2_with fail
        have hs6 := b6.size
        refine bodyPost_ret (v := .tuple #[.slice (some ⟨w6.heap.size, 0, none⟩) 0 0, .bool false]) (by simp [results, Tryz.results82, go_sem]) rfl ⟨.slice (some ⟨w6.heap.size, 0, none⟩) 0 0, by rw [HOK.out], ?_, (hB.trans (b6.mono hBs)).alloc (by omega) _⟩
        rw [HV.out]
        exact World.ownsRow_made w6 #[] 0 (by omega) (Nat.zero_le _) rfl
end Go.Proofs.YtgebedbankibmaaGreatDoor


/-
  Contracts of the model's draws: what is drawn is some small list of blocks.
-/
namespace Go.Proofs.YtgebedbankibmaaGreatDoor
open Go.RowKit Go.Sort

theorem pieces_pos (c : UInt8) (s : ByteArray) : 0 < (pieces c s).length := by
  rcases Nat.eq_zero_or_pos (pieces c s).length with e | h
  · have h1 := pieces_lens c s
    have e2 : pieces c s = [] := List.eq_nil_of_length_eq_zero e
    rw [e2] at h1
    simp [lensOf] at h1
  · exact h

theorem parseVal_small (s : ByteArray) : (parseVal s).length + tot (parseVal s) ≤ s.size := by
  unfold parseVal
  split
  · rename_i h
    unfold parseOk at h
    have hl := (Bool.and_eq_true_iff.1 h).1
    have h1 : (parsed s).length + tot (parsed s) = lensOf (pieces 44 s) := tot_parsed hl
    have h2 := pieces_lens 44 s
    have h3 := pieces_pos 44 s
    omega
  · simp [tot]

/-- Some small list of blocks, in memory of the call's own. -/
def DrawPost (n : Nat) (w : World) (e : Ending) (w' : World) : Prop :=
  ∃ v g, e = .returned v ∧ OwnBl w' w.heap.size v g ∧ g.length + tot g ≤ n ∧ Below w.heap.size w w'

def knownTexts : List ByteArray := [⟨#[65, 63, 66, 67, 44, 66, 62, 68, 44, 67, 62, 68, 44, 68, 46]⟩, ⟨#[65, 62, 66, 44, 66, 63, 67, 68, 44, 67, 62, 66, 44, 68, 46]⟩, ⟨#[65, 63, 66, 67, 44, 66, 62, 67, 44, 67, 62, 66]⟩, ⟨#[65, 46]⟩, ⟨#[65, 62, 65]⟩,
  ⟨#[65, 63, 66, 67, 44, 66, 63, 68, 69, 44, 67, 62, 69, 44, 68, 62, 65, 44, 69, 63, 66, 70, 44, 70, 46]⟩, ⟨#[65, 62, 66, 44, 66, 63, 67, 70, 44, 67, 63, 68, 69, 44, 68, 62, 66, 44, 69, 62, 67, 44, 70, 46]⟩, ⟨#[65, 63, 66, 67, 44, 66, 63, 67, 68, 44, 67, 63, 66, 68, 44, 68, 46]⟩,
  ⟨#[65, 63, 65, 66, 44, 66, 46]⟩, ⟨#[65, 63, 66, 68, 44, 66, 62, 67, 44, 67, 46, 44, 68, 62, 67, 44, 69, 62, 65]⟩, ⟨#[65, 62, 66, 44, 66, 63, 66, 67, 44, 67, 63, 65, 68, 44, 68, 46]⟩]

theorem known_small : ∀ s ∈ knownTexts, s.size ≤ 25 := by decide

theorem ownRow_base {w : World} {b b' : Nat} {e : TypeId} {size : Nat} {v : Value} {n : Nat} {xs : List Value} (h : w.ownsRow b e size v n xs) (hb : b' ≤ b) : w.ownsRow b' e size v n xs := by
  refine ⟨h.1, ?_⟩
  rcases h.2 with hn | ⟨g, cap, cur, hv, hb2, rest⟩
  · exact .inl hn
  · exact .inr ⟨g, cap, cur, hv, Nat.le_trans hb hb2, rest⟩

set_option maxHeartbeats 1600000 in
set_option maxRecDepth 100000 in
theorem known_any (k : Nat) (w : World) (hk : k < 11) :
    Calls Tryz.prog 52 #[.int .i64 k] w (DrawPost 25 w) := by
  obtain ⟨s, hs⟩ : ∃ s, knownTexts[k]? = some s := ⟨_, List.getElem?_eq_getElem (by simpa [knownTexts] using hk)⟩
  have hsz := known_small s (List.mem_of_getElem? hs)
  have HP : Hid (∀ w, Calls Tryz.prog 82 #[.string s] w (ParsePost s w)) := fun w => specParse_any s w (by omega)
  have HB : Hid ((knownTexts.map Value.string)[k]? = some (.string s)) := by
    show (knownTexts.map Value.string)[k]? = some (.string s)
    rw [List.getElem?_map, hs]; rfl
  have HCELL : Hid (∀ w : World, (w.alloc (.cells (knownTexts.map Value.string).toArray 9)).cell? ⟨w.heap.size, k, none⟩ = some (.string s)) := fun w => by
    rw [(Blk.new w 9 (knownTexts.map Value.string).toArray).cell k]
    simpa using HB.out
  have hm : k % 11 = k := by omega
  have hkl : (k : Int) < 11 := by omega
  clear hs
  go_enter Tryz.func52, Tryz.ntmps52
  have hcell := HCELL.out w
  simp only [knownTexts, List.map_cons, List.map_nil] at hcell
  go_wp2_with fail
  clear hcell
  refine (HP.out _).mono ?_
  rintro e w2 ⟨v, rfl, hv, b2⟩
  have HV := Lib.hid (ownRow_base hv (show w.heap.size ≤ _ by simp))
  have hB := below_trans_self ((Below.refl w.heap.size w).alloc (Nat.le_refl _) _) b2
  have HS := Lib.hid (parseVal_small s)
  clear hv
  go_wp2_with fail
  exact bodyPost_ret (v := v) (by simp [results, Tryz.results52, go_sem]) rfl ⟨v, parseVal s, rfl, HV.out, by have := HS.out; omega, hB⟩

theorem ownRow_only {w w' : World} {R base : Nat} {e : TypeId} {size : Nat} {v : Value} {n : Nat} {xs : List Value} (h : w.ownsRow base e size v n xs) (hR : R < base) (ho : Only R w w') : w'.ownsRow base e size v n xs := by
  refine ⟨h.1, ?_⟩
  rcases h.2 with hn | ⟨g, cap, cur, hv, hb2, hg, rest⟩
  · exact .inl hn
  · refine .inr ⟨g, cap, cur, hv, hb2, ?_, rest⟩
    have hlt : g < w.heap.size := by
      rcases Nat.lt_or_ge g w.heap.size with h' | h'
      · exact h'
      · rw [Array.getElem?_eq_none h'] at hg; cases hg
    exact (ho.block g (by omega) hlt).trans hg

theorem Only.grown {R : Nat} {w a a' : World} {row : Option Nat} (h : Only R w a) (hg : a.grownBy a' row) (hr : ∀ k, row = some k → w.heap.size ≤ k) : Only R w a' :=
  ⟨hg.os.trans h.os, hg.tape.trans h.tape, hg.output.trans h.output, Nat.le_trans h.size hg.size, fun k hk hlt => (hg.block k (Nat.lt_of_lt_of_le hlt h.size) (fun e => by have := hr k e.symm; omega)).trans (h.block k hk hlt)⟩

theorem Rd.grown {w0 a a' : World} {R : Nat} {A : Option Addr} {len cap p p0 : Nat} {row : Option Nat} (h0 : Rd w0 R A len cap p0) (h : Rd a R A len cap p) (hg : a.grownBy a' row) (hr : ∀ k, row = some k → w0.heap.size ≤ k) : Rd a' R A len cap p := by
  have hR := h0.blk.lt
  refine ⟨(hg.block R h.blk.lt (fun e => by have := hr R e.symm; omega)).trans h.blk, fun hl => ?_, h.small⟩
  obtain ⟨b, off, rfl, hlt, hne, hc⟩ := h.bytes hl
  obtain ⟨b0, off0, e0, hlt0, _, _⟩ := h0.bytes hl
  injection e0 with e0
  injection e0 with e1 e2 _
  subst e1; subst e2
  refine ⟨b, off, rfl, Nat.lt_of_lt_of_le hlt hg.size, hne, fun k hk => ?_⟩
  obtain ⟨c, hcc⟩ := hc k hk
  exact ⟨c, hg.cell hcc (fun e => by have := hr b e.symm; omega)⟩
end Go.Proofs.YtgebedbankibmaaGreatDoor

/-
  Contract of the model's l1Good: a small list of blocks is drawn.
-/
namespace Go.Proofs.YtgebedbankibmaaGreatDoor
open Go.RowKit Go.Sort

/-- A small list of blocks is drawn by a reader. -/
def GoodPost (n c R : Nat) (A : Option Addr) (len cap p : Nat) (w : World) (e : Ending) (w' : World) : Prop :=
  ∃ v g q, e = .returned v ∧ OwnBl w' w.heap.size v g ∧ g.length + tot g ≤ n ∧ Only R w w' ∧ Rd w' R A len cap q ∧ q ≤ p + c

theorem num7 (R : Nat) (A : Option Addr) (len cap p : Nat) (w : World) (h : Rd w R A len cap p) (hp : p ≤ 1048576) :
    Calls Tryz.prog 53 #[.pointer (some ⟨R, 0, none⟩), .slice (some ⟨w.heap.size, 0, none⟩) 7 7] (w.alloc (.cells #[.int .i64 4, .int .i64 5, .int .i64 3, .int .i64 6, .int .i64 7, .int .i64 2, .int .i64 1] 3)) fun e w' => ∃ n : Nat, e = .returned (.int .i64 n) ∧ (1 ≤ n ∧ n ≤ 7) ∧ Only R w w' ∧ Rd w' R A len cap (p + 1) := by
  refine (num2 R A len cap p [4, 5, 3, 6, 7, 2, 1] w h (by decide) (by decide) hp).mono ?_
  rintro e w' ⟨z, rfl, hz, o, r⟩
  simp only [List.mem_cons, List.not_mem_nil, or_false] at hz
  refine ⟨z.toNat, ret_int (by omega), by omega, o, r⟩

theorem num5 (R : Nat) (A : Option Addr) (len cap p : Nat) (w : World) (h : Rd w R A len cap p) (hp : p ≤ 1048576) :
    Calls Tryz.prog 53 #[.pointer (some ⟨R, 0, none⟩), .slice (some ⟨w.heap.size, 0, none⟩) 5 5] (w.alloc (.cells #[.int .i64 2, .int .i64 1, .int .i64 2, .int .i64 1, .int .i64 0] 3)) fun e w' => ∃ n : Nat, e = .returned (.int .i64 n) ∧ n ≤ 2 ∧ Only R w w' ∧ Rd w' R A len cap (p + 1) := by
  refine (num2 R A len cap p [2, 1, 2, 1, 0] w h (by decide) (by decide) hp).mono ?_
  rintro e w' ⟨z, rfl, hz, o, r⟩
  simp only [List.mem_cons, List.not_mem_nil, or_false] at hz
  refine ⟨z.toNat, ret_int (by omega), by omega, o, r⟩

set_option maxHeartbeats 3200000 in
set_option maxRecDepth 100000 in
theorem good_any (R : Nat) (A : Option Addr) (len cap p : Nat) (w : World) (hr : Rd w R A len cap p) (hp : p ≤ 1000) :
    Calls Tryz.prog 79 #[.pointer (some ⟨R, 0, none⟩)] w (GoodPost 28 100 R A len cap p w) := by
  obtain ⟨i0, hi, hz0, hz1, hz2⟩ := info_parts info_block
  have hRlt := hr.blk.lt
  have HR := Lib.hid hr
  clear hr
  go_enter Tryz.func79, Tryz.ntmps79
  go_wp2_with fail
  refine (pick2 R A len cap p 3 w HR.out (by omega) (by omega) (by omega)).mono ?_
  rintro e w1 ⟨x, rfl, hx, o1, r1⟩
  by_cases h0 : x = 0
  · have g0 : ((x : Int) == 0) = true := by rw [h0]; rfl
    have HR1 := Lib.hid r1
    clear h0 r1
    go_wp2_with fail
    refine (pick2 R A len cap (p + 1) 11 w1 HR1.out (by omega) (by omega) (by omega)).mono ?_
    rintro e w2 ⟨y, rfl, hy, o2, r2⟩
    have HR2 := Lib.hid r2
    clear r2
    go_wp2_with fail
    refine (known_any y w2 hy).mono ?_
    rintro e w3 ⟨v, g, rfl, hv, hs, b3⟩
    have HV := Lib.hid (ownRow_base hv (Nat.le_trans o1.size o2.size))
    have hO := (o1.trans o2).trans (.of_below b3)
    clear hv
    go_wp2_with fail
    exact bodyPost_ret (v := v) (by simp [results, Tryz.results79, go_sem]) rfl ⟨v, g, p + 2, rfl, HV.out, by omega, hO, HR2.out.below b3, by omega⟩
  · have g0 : ((x : Int) == 0) = false := by simp; omega
    have HR1 := Lib.hid r1
    have hR1 := r1.blk.lt
    clear h0 r1
    go_wp2_with fail
    refine (num7 R A len cap (p + 1) w1 HR1.out (by omega)).mono ?_
    rintro e w2 ⟨n, rfl, ⟨hn1, hn7⟩, o2, r2⟩
    have HO2 := Lib.hid (o1.trans o2)
    have HR2 := Lib.hid r2
    have hR2 := r2.blk.lt
    have hs2 := (o1.trans o2).size
    clear o1 o2 r2 hR1
    go_wp2_with fail
    have HO0 := Lib.hid (World.ownsRow_made (base := w.heap.size) (e := 56) (size := 2) w2 #[] 0 hs2 (Nat.zero_le _) rfl)
    go_loopw [5, 20] (fun v i wr => ∃ (k q : Nat) (g : List Bl), k ≤ n ∧ i = .int .i64 k ∧ g.length = k ∧ tot g ≤ 3 * k ∧ q ≤ p + 2 + 7 * k ∧ OwnBl wr w.heap.size v g ∧ Rd wr R A len cap q ∧ Only R w wr) (fun _ i _ => n - (intOf i).toNat)
    case atStart => exact ⟨0, p + 2, [], Nat.zero_le _, rfl, rfl, Nat.zero_le _, by omega, HO0.out, HR2.out.below ((Below.refl _ _).alloc (Nat.le_refl _) _), HO2.out.alloc _⟩
    case round =>
      obtain ⟨k, q, g, hk, rfl, hgl, hgt, hq, hown, hrd, ho⟩ := hrel
      have HGL := Lib.hid hgl
      have HGT := Lib.hid hgt
      have HOWN := Lib.hid hown
      have HRD := Lib.hid hrd
      have HO := Lib.hid ho
      have hlt3 := hrd.blk.lt
      clear hgl hgt hown hrd ho
      by_cases hlt : k < n
      · go_wp2_with fail
        refine (num5 R A len cap q wr HRD.out (by omega)).mono ?_
        rintro e w3 ⟨t, rfl, ht, o3, r3⟩
        have HO3 := Lib.hid (HO.out.trans o3)
        have HR3 := Lib.hid r3
        have HOWN3 := Lib.hid (ownRow_only HOWN.out hRlt o3)
        clear o3 r3
        go_wp2_with fail
        obtain ⟨wo, hwo⟩ : ∃ wo : World, wo = wr := ⟨_, rfl⟩
        rw [← hwo] at hlt3
        clear hwo
        go_loopw [7, 26] (fun s c wr => ∃ (j q' : Nat) (next : ByteArray), j ≤ t ∧ c = .int .i64 j ∧ s = .string next ∧ next.size ≤ j ∧ q' ≤ q + 1 + 3 * j ∧ Rd wr R A len cap q' ∧ Only R w wr ∧ w3.heap.size ≤ wr.heap.size ∧ Only R w3 wr) (fun _ c _ => t - (intOf c).toNat)
        case atStart => exact ⟨0, q + 1, ⟨#[]⟩, Nat.zero_le _, rfl, rfl, Nat.zero_le _, by omega, HR3.out, HO3.out, Nat.le_refl _, Only.refl _ _⟩
        case round =>
          obtain ⟨j, q', next, hj, rfl, rfl, hnx, hq', hrd, ho, hsz, ho3⟩ := hrel
          have HRD' := Lib.hid hrd
          have HO' := Lib.hid ho
          have HO3' := Lib.hid ho3
          clear hrd ho ho3
          by_cases hjt : j < t
          · go_wp2_with fail
            refine (pick2 R A len cap q' n _ HRD'.out (by omega) (by omega) (by omega)).mono ?_
            rintro e w4 ⟨a, rfl, ha, o4, r4⟩
            have HR4 := Lib.hid r4
            have HO4 := Lib.hid o4
            clear r4 o4
            go_wp2_with fail
            refine (pick2 R A len cap (q' + 1) 3 _ HR4.out (by omega) (by omega) (by omega)).mono ?_
            rintro e w5 ⟨b, rfl, hb, o5, r5⟩
            have HR5 := Lib.hid r5
            have HO5 := Lib.hid o5
            clear r5 o5
            by_cases hb0 : 0 < b
            · have g1 : decide ((0 : Int) < b) = true := by simp; omega
              go_wp2_with fail
              refine (pick2 R A len cap (q' + 2) 2 _ HR5.out (by omega) (by omega) (by omega)).mono ?_
              rintro e w6 ⟨c, rfl, hc, o6, r6⟩
              have HR6 := Lib.hid r6
              have HO6 := Lib.hid o6
              clear r6 o6
              go_wp2_with fail
              refine (find_any next _ _ (by omega)).mono ?_
              rintro e w7 ⟨rfl, rfl⟩
              generalize Lib.indexByte next.data.toList _ = ix
              by_cases hix : ix < 0
              · go_wp2_with fail
                go_roundw
                case rel => exact ⟨j + 1, q' + 3, _, by omega, by go_num, rfl, by (rw [ByteArray.size_append, ByteArray.size_extract]; omega), by omega, HR6.out, ((HO'.out.trans HO4.out).trans HO5.out).trans HO6.out, Nat.le_trans hsz (((HO4.out.trans HO5.out).trans HO6.out).size), ((HO3'.out.trans HO4.out).trans HO5.out).trans HO6.out⟩
                case measure => simp [intOf]; omega
              · go_wp2_with fail
                go_roundw
                case rel => exact ⟨j + 1, q' + 3, next, by omega, by go_num, rfl, by omega, by omega, HR6.out, ((HO'.out.trans HO4.out).trans HO5.out).trans HO6.out, Nat.le_trans hsz (((HO4.out.trans HO5.out).trans HO6.out).size), ((HO3'.out.trans HO4.out).trans HO5.out).trans HO6.out⟩
                case measure => simp [intOf]; omega
            · have g1 : decide ((0 : Int) < b) = false := by simp; omega
              go_wp2_with fail
              refine (find_any next _ _ (by omega)).mono ?_
              rintro e w7 ⟨rfl, rfl⟩
              generalize Lib.indexByte next.data.toList _ = ix
              by_cases hix : ix < 0
              · go_wp2_with fail
                go_roundw
                case rel => exact ⟨j + 1, q' + 2, _, by omega, by go_num, rfl, by (rw [ByteArray.size_append, ByteArray.size_extract]; omega), by omega, HR5.out, (HO'.out.trans HO4.out).trans HO5.out, Nat.le_trans hsz ((HO4.out.trans HO5.out).size), (HO3'.out.trans HO4.out).trans HO5.out⟩
                case measure => simp [intOf]; omega
              · go_wp2_with fail
                go_roundw
                case rel => exact ⟨j + 1, q' + 2, next, by omega, by go_num, rfl, by omega, by omega, HR5.out, (HO'.out.trans HO4.out).trans HO5.out, Nat.le_trans hsz ((HO4.out.trans HO5.out).size), (HO3'.out.trans HO4.out).trans HO5.out⟩
                case measure => simp [intOf]; omega
          · have hown4 := ownRow_only HOWN3.out hRlt HO3'.out
            rw [HGL.out] at hown4
            have HOWN4 := Lib.hid hown4
            have hbs : w.heap.size ≤ wr.heap.size := HO'.out.size
            clear hown4
            obtain ⟨nm, hnm⟩ : ∃ nm, nm = (⟨#[65, 66, 67, 68, 69, 70, 71, 72, 73, 74]⟩ : ByteArray).extract k (k + 1) := ⟨_, rfl⟩
            have hnms : nm.size ≤ 1 := by rw [hnm, ByteArray.size_extract]; omega
            have HNM := Lib.hid hnm
            clear hnm
            go_wp2_with (at_builtin; refine wpList_append_own _ rfl _ _ 23 rfl w.heap.size 56 i0 _ 2 32 Tryz.underlying23 hi hz0 hz1 hz2 rfl (by decide) _ _ _ rfl (HOWN4.out.alloc _) ⟨wr.heap.size, 0, none⟩ 1 1 [.string ((⟨#[65, 66, 67, 68, 69, 70, 71, 72, 73, 74]⟩ : ByteArray).extract k (k + 1)), .string next] rfl rfl ?c1 ?c2 ?c3 ?c4 ?c5 ?_)
            case c1 =>
              exact World.news_of_block (cs := #[.string ((⟨#[65, 66, 67, 68, 69, 70, 71, 72, 73, 74]⟩ : ByteArray).extract k (k + 1)), .string next]) (t := 56) (fr := (0, 0)) (heap_alloc_new wr _)
            case c2 => simp [Value.oneCell']
            case c3 => unfold maxLen; omega
            case c4 => omega
            case c5 => simp; omega
            intro v' w8 hown' hgrow _
            have hrow := (HOWN4.out.alloc (.cells #[.string ((⟨#[65, 66, 67, 68, 69, 70, 71, 72, 73, 74]⟩ : ByteArray).extract k (k + 1)), .string next] 56)).lt
            have HO8 := Lib.hid ((HO'.out.alloc (.cells #[.string ((⟨#[65, 66, 67, 68, 69, 70, 71, 72, 73, 74]⟩ : ByteArray).extract k (k + 1)), .string next] 56)).grown hgrow (fun j hj => (hrow j hj).1))
            have HR8 := Lib.hid (HR.out.grown (HRD'.out.below ((Below.refl _ _).alloc (Nat.le_refl _) (.cells #[.string ((⟨#[65, 66, 67, 68, 69, 70, 71, 72, 73, 74]⟩ : ByteArray).extract k (k + 1)), .string next] 56))) hgrow (fun j hj => (hrow j hj).1))
            have HO9 : Hid (OwnBl w8 w.heap.size v' (g ++ [(nm, next)])) := by
              show w8.ownsRow w.heap.size 56 2 v' (g ++ [(nm, next)]).length (cells2 (g ++ [(nm, next)]))
              rw [List.length_append, cells2_append, HGL.out, HNM.out]
              exact hown'
            have HT9 : Hid (tot (g ++ [(nm, next)]) ≤ 3 * (k + 1)) := by
              show tot (g ++ [(nm, next)]) ≤ 3 * (k + 1)
              have := HGT.out
              simp only [tot_append, tot]
              omega
            clear hown' hgrow hrow
            go_wp2_with fail
            go_roundw
            case rel => exact ⟨k + 1, q', g ++ [(nm, next)], by omega, by go_num, by simp [HGL.out], HT9.out, by omega, HO9.out, HR8.out, HO8.out⟩
            case measure => simp [intOf]; omega
      · go_wp2_with fail
        refine bodyPost_ret (v := u5) (by simp [results, Tryz.results79, go_sem]) rfl ⟨u5, g, q, rfl, HOWN.out, ?_, HO.out, HRD.out, by omega⟩
        have h1 := HGL.out
        have h2 := HGT.out
        omega
end Go.Proofs.YtgebedbankibmaaGreatDoor

/-
  Contracts of the model's l1Some, l1Any, l1Place: a small list of blocks is drawn, and a text.
-/
namespace Go.Proofs.YtgebedbankibmaaGreatDoor
open Go.RowKit Go.Sort

theorem cells2_one (g : List Bl) : ∀ u ∈ cells2 g, u.oneCell' = true := by
  intro u hu
  unfold cells2 at hu
  obtain ⟨b, _, hb⟩ := List.mem_flatMap.1 hu
  simp only [List.mem_cons, List.not_mem_nil, or_false] at hb
  rcases hb with rfl | rfl <;> rfl

theorem of5a (R : Nat) (A : Option Addr) (len cap p : Nat) (w : World) (h : Rd w R A len cap p) (hp : p ≤ 1048576) :
    Calls Tryz.prog 80 #[.pointer (some ⟨R, 0, none⟩), .slice (some ⟨w.heap.size, 0, none⟩) 5 5] (w.alloc (.cells #[.string ⟨#[65]⟩, .string ⟨#[74]⟩, .string ⟨#[107]⟩, .string ⟨#[]⟩, .string ⟨#[65, 66]⟩] 9)) fun e w' => ∃ s : ByteArray, e = .returned (.string s) ∧ s.size ≤ 3 ∧ Only R w w' ∧ Rd w' R A len cap (p + 1) := by
  refine (of2 R A len cap p [⟨#[65]⟩, ⟨#[74]⟩, ⟨#[107]⟩, ⟨#[]⟩, ⟨#[65, 66]⟩] w h (by decide) (by decide) hp).mono ?_
  rintro e w' ⟨z, rfl, hz, o, r⟩
  refine ⟨z, rfl, ?_, o, r⟩
  revert z; decide

theorem of5b (R : Nat) (A : Option Addr) (len cap p : Nat) (w : World) (h : Rd w R A len cap p) (hp : p ≤ 1048576) :
    Calls Tryz.prog 80 #[.pointer (some ⟨R, 0, none⟩), .slice (some ⟨w.heap.size, 0, none⟩) 5 5] (w.alloc (.cells #[.string ⟨#[65]⟩, .string ⟨#[65, 65]⟩, .string ⟨#[89]⟩, .string ⟨#[65, 65, 65]⟩, .string ⟨#[]⟩] 9)) fun e w' => ∃ s : ByteArray, e = .returned (.string s) ∧ s.size ≤ 3 ∧ Only R w w' ∧ Rd w' R A len cap (p + 1) := by
  refine (of2 R A len cap p [⟨#[65]⟩, ⟨#[65, 65]⟩, ⟨#[89]⟩, ⟨#[65, 65, 65]⟩, ⟨#[]⟩] w h (by decide) (by decide) hp).mono ?_
  rintro e w' ⟨z, rfl, hz, o, r⟩
  refine ⟨z, rfl, ?_, o, r⟩
  revert z; decide

set_option maxHeartbeats 3200000 in
set_option maxRecDepth 100000 in
theorem some_any (R : Nat) (A : Option Addr) (len cap p : Nat) (w : World) (hr : Rd w R A len cap p) (hp : p ≤ 1000) :
    Calls Tryz.prog 49 #[.pointer (some ⟨R, 0, none⟩)] w (GoodPost 40 103 R A len cap p w) := by
  obtain ⟨i0, hi, hz0, hz1, hz2⟩ := info_parts info_block
  have hRlt := hr.blk.lt
  have HR := Lib.hid hr
  clear hr
  go_enter Tryz.func49, Tryz.ntmps49
  go_wp2_with fail
  refine (good_any R A len cap p w HR.out hp).mono ?_
  rintro e w1 ⟨v, g, q, rfl, hown, hg, ho1, r1, hq⟩
  have HOWN := Lib.hid hown
  have HO1 := Lib.hid ho1
  have HR1 := Lib.hid r1
  clear hown ho1 r1
  go_wp2_with fail
  refine (pick2 R A len cap q 30 w1 HR1.out (by omega) (by omega) (by omega)).mono ?_
  rintro e w2 ⟨x, rfl, hx, o2, r2⟩
  have HOWN2 := Lib.hid (ownRow_only HOWN.out hRlt o2)
  have HO2 := Lib.hid (HO1.out.trans o2)
  have HR2 := Lib.hid r2
  clear o2 r2
  by_cases h0 : x = 0
  · have g0 : ((x : Int) == 0) = true := by rw [h0]; rfl
    clear h0
    have hs2 := HO2.out.size
    have HOA := Lib.hid (World.ownsRow_made (base := w.heap.size) (e := 56) (size := 2) w2 #[] 0 hs2 (Nat.zero_le _) rfl)
    have hlen : g.length ≤ 28 := by omega
    rcases HOWN2.out.2 with ⟨rfl, hn⟩ | ⟨gb, gcap, cur, rfl, hb, hgb, hnc, hcm, hcs, hct⟩
    · go_wp2_with (at_builtin; refine wpList_append_own_none _ rfl _ _ 23 rfl w.heap.size 56 i0 2 Tryz.underlying23 hi _ _ _ rfl HOA.out rfl ?_)
      have hg0 : g = [] := List.eq_nil_of_length_eq_zero hn
      have HVX : Hid (OwnBl (w2.alloc (.cells #[] 56)) w.heap.size (.slice (some ⟨w2.heap.size, 0, none⟩) 0 0) g) := by rw [hg0]; exact HOA.out
      have HOX : Hid (Only R w (w2.alloc (.cells #[] 56))) := HO2.out.alloc _
      have HRX : Hid (Rd (w2.alloc (.cells #[] 56)) R A len cap (q + 1)) := HR2.out.below ((Below.refl _ _).alloc (Nat.le_refl _) _)
      have hS5 := of5a R A len cap (q + 1) _ HRX.out (by omega)
      rw [show (w2.alloc (.cells #[] 56)).heap.size = w2.heap.size + 1 from by simp] at hS5
      have HS5 := Lib.hid hS5
      clear hS5
      refine HS5.out.mono ?_
      rintro e w4 ⟨nm, rfl, hnm, o4, r4⟩
      have HV4 := Lib.hid (ownRow_only HVX.out hRlt o4)
      have HO4 := Lib.hid (HOX.out.trans o4)
      have HR4 := Lib.hid r4
      clear o4 r4
      have HS6 := Lib.hid (of5b R A len cap (q + 2) w4 HR4.out (by omega))
      go_wp2_with fail
      refine HS6.out.mono ?_
      rintro e w5 ⟨nx, rfl, hnx, o5, r5⟩
      have HV5 := Lib.hid (ownRow_only HV4.out hRlt o5)
      have HO5 := Lib.hid (HO4.out.trans o5)
      have HR5 := Lib.hid r5
      have hs5 := (HO4.out.trans o5).size
      clear o5 r5
      go_wp2_with (at_builtin; refine wpList_append_own _ rfl _ _ 23 rfl w.heap.size 56 i0 _ 2 32 Tryz.underlying23 hi hz0 hz1 hz2 rfl (by decide) _ _ _ rfl (HV5.out.alloc _) ⟨w5.heap.size, 0, none⟩ 1 1 [.string nm, .string nx] rfl rfl ?d1 ?d2 ?d3 ?d4 ?d5 ?_)
      case d1 => exact World.news_of_block (cs := #[.string nm, .string nx]) (t := 56) (fr := (0, 0)) (heap_alloc_new w5 _)
      case d2 => simp [Value.oneCell']
      case d3 => unfold maxLen; omega
      case d4 => omega
      case d5 => simp; omega
      intro v9 w9 hown9 hgrow9 _
      have hrow := (HV5.out.alloc (.cells #[.string nm, .string nx] 56)).lt
      have HO9 := Lib.hid ((HO5.out.alloc (.cells #[.string nm, .string nx] 56)).grown hgrow9 (fun j hj => (hrow j hj).1))
      have HR9 := Lib.hid (HR.out.grown (HR5.out.below ((Below.refl _ _).alloc (Nat.le_refl _) (.cells #[.string nm, .string nx] 56))) hgrow9 (fun j hj => (hrow j hj).1))
      have HV9 : Hid (OwnBl w9 w.heap.size v9 (g ++ [(nm, nx)])) := by
        show w9.ownsRow w.heap.size 56 2 v9 (g ++ [(nm, nx)]).length (cells2 (g ++ [(nm, nx)]))
        rw [List.length_append, cells2_append, hg0]
        exact hown9
      clear hown9 hgrow9 hrow
      go_wp2_with fail
      exact bodyPost_ret (v := v9) (by simp [results, Tryz.results49, go_sem]) rfl ⟨v9, g ++ [(nm, nx)], q + 3, rfl, HV9.out, by simp only [tot_append, tot, List.length_append, List.length_cons, List.length_nil]; omega, HO9.out, HR9.out, by omega⟩
    · go_wp2_with (at_builtin; refine wpList_append_own _ rfl _ _ 23 rfl w.heap.size 56 i0 _ 2 32 Tryz.underlying23 hi hz0 hz1 hz2 rfl (by decide) _ _ _ rfl HOA.out ⟨gb, 0, none⟩ g.length gcap (cells2 g) rfl (cells2_length g) ?c1 (cells2_one g) ?c3 ?c4 ?c5 ?_)
      case c1 => exact (HOWN2.out.alloc _).cells rfl
      case c3 => unfold maxLen; omega
      case c4 => omega
      case c5 => simp; omega
      intro v' w8 hown' hgrow _
      have HVX : Hid (OwnBl w8 w.heap.size v' g) := by
        show w8.ownsRow w.heap.size 56 2 v' g.length (cells2 g)
        exact hown'
      have HOX := Lib.hid ((HO2.out.alloc (.cells #[] 56)).grown hgrow (fun j hj => (HOA.out.lt j hj).1))
      have HRX := Lib.hid (HR.out.grown (HR2.out.below ((Below.refl _ _).alloc (Nat.le_refl _) (.cells #[] 56))) hgrow (fun j hj => (HOA.out.lt j hj).1))
      clear hown' hgrow hgb
      have HS5 := Lib.hid (of5a R A len cap (q + 1) w8 HRX.out (by omega))
      have hsX : w.heap.size ≤ w8.heap.size := HOX.out.size
      go_wp2_with fail
      refine HS5.out.mono ?_
      rintro e w4 ⟨nm, rfl, hnm, o4, r4⟩
      have HV4 := Lib.hid (ownRow_only HVX.out hRlt o4)
      have HO4 := Lib.hid (HOX.out.trans o4)
      have HR4 := Lib.hid r4
      clear o4 r4
      have HS6 := Lib.hid (of5b R A len cap (q + 2) w4 HR4.out (by omega))
      go_wp2_with fail
      refine HS6.out.mono ?_
      rintro e w5 ⟨nx, rfl, hnx, o5, r5⟩
      have HV5 := Lib.hid (ownRow_only HV4.out hRlt o5)
      have HO5 := Lib.hid (HO4.out.trans o5)
      have HR5 := Lib.hid r5
      have hs5 := (HO4.out.trans o5).size
      clear o5 r5
      go_wp2_with (at_builtin; refine wpList_append_own _ rfl _ _ 23 rfl w.heap.size 56 i0 _ 2 32 Tryz.underlying23 hi hz0 hz1 hz2 rfl (by decide) _ _ _ rfl (HV5.out.alloc _) ⟨w5.heap.size, 0, none⟩ 1 1 [.string nm, .string nx] rfl rfl ?e1 ?e2 ?e3 ?e4 ?e5 ?_)
      case e1 => exact World.news_of_block (cs := #[.string nm, .string nx]) (t := 56) (fr := (0, 0)) (heap_alloc_new w5 _)
      case e2 => simp [Value.oneCell']
      case e3 => unfold maxLen; omega
      case e4 => omega
      case e5 => simp; omega
      intro v9 w9 hown9 hgrow9 _
      have hrow := (HV5.out.alloc (.cells #[.string nm, .string nx] 56)).lt
      have HO9 := Lib.hid ((HO5.out.alloc (.cells #[.string nm, .string nx] 56)).grown hgrow9 (fun j hj => (hrow j hj).1))
      have HR9 := Lib.hid (HR.out.grown (HR5.out.below ((Below.refl _ _).alloc (Nat.le_refl _) (.cells #[.string nm, .string nx] 56))) hgrow9 (fun j hj => (hrow j hj).1))
      have HV9 : Hid (OwnBl w9 w.heap.size v9 (g ++ [(nm, nx)])) := by
        show w9.ownsRow w.heap.size 56 2 v9 (g ++ [(nm, nx)]).length (cells2 (g ++ [(nm, nx)]))
        rw [List.length_append, cells2_append]
        exact hown9
      clear hown9 hgrow9 hrow
      go_wp2_with fail
      exact bodyPost_ret (v := v9) (by simp [results, Tryz.results49, go_sem]) rfl ⟨v9, g ++ [(nm, nx)], q + 3, rfl, HV9.out, by simp only [tot_append, tot, List.length_append, List.length_cons, List.length_nil]; omega, HO9.out, HR9.out, by omega⟩
  · have g0 : ((x : Int) == 0) = false := by simp; omega
    by_cases h1 : x = 1
    · have g1 : ((x : Int) == 1) = true := by rw [h1]; rfl
      clear h0 h1
      rcases HOWN2.out.2 with ⟨rfl, hn⟩ | ⟨gb, gcap, cur, rfl, hb, hgb, hnc, hcm, hcs, hct⟩
      · go_wp2_with fail
        exact bodyPost_ret (v := .slice none 0 0) (by simp [results, Tryz.results49, go_sem]) rfl ⟨.slice none 0 0, [], q + 1, rfl, World.ownsRow_nil _ _ _ _, by simp [tot], HO2.out, HR2.out, by omega⟩
      · go_wp2_with fail
        exact bodyPost_ret (v := .slice (some ⟨gb, 0, none⟩) 0 gcap) (by simp [results, Tryz.results49, go_sem]) rfl ⟨.slice (some ⟨gb, 0, none⟩) 0 gcap, [], q + 1, rfl, ⟨by simp [cells2], .inr ⟨gb, gcap, cur, rfl, hb, hgb, Nat.zero_le _, hcm, hcs, by simp [cells2]⟩⟩, by simp [tot], HO2.out, HR2.out, by omega⟩
    · have g1 : ((x : Int) == 1) = false := by simp; omega
      clear h0 h1
      go_wp2_with fail
      exact bodyPost_ret (v := v) (by simp [results, Tryz.results49, go_sem]) rfl ⟨v, g, q + 1, rfl, HOWN2.out, by omega, HO2.out, HR2.out, by omega⟩
end Go.Proofs.YtgebedbankibmaaGreatDoor

/-
  Contracts of the model's l1Any, l1Place and its Draw functions.
-/
namespace Go.Proofs.YtgebedbankibmaaGreatDoor
open Go.RowKit Go.Sort

end Go.Proofs.YtgebedbankibmaaGreatDoor

/-
  For the laws: bytes that came in, opened; what was drawn, read; two lists of blocks compared; a letter looked for.
-/
namespace Go.Proofs.YtgebedbankibmaaGreatDoor
open Go.ChangeShapes Go.WideShapes Go.ChangeAt Go.RowKit Go.Deep Go.Sort

/-- What was drawn, as it reads. -/
def Drawn (n : Nat) (w : World) (e : Ending) (w' : World) : Prop :=
  ∃ A cap g, e = .returned (.slice A g.length cap) ∧ g.length ≤ cap ∧ Gr w' A g ∧ g.length + tot g ≤ n ∧ Below w.heap.size w w'

theorem drawn_of {n : Nat} {w : World} {e : Ending} {w' : World} (h : DrawPost n w e w') : Drawn n w e w' := by
  obtain ⟨v, g, rfl, ho, hn, hB⟩ := h
  obtain ⟨A, cap, rfl, hc, hg⟩ := own_gr ho
  exact ⟨A, cap, g, rfl, hc, hg, hn, hB⟩

end Go.Proofs.YtgebedbankibmaaGreatDoor
