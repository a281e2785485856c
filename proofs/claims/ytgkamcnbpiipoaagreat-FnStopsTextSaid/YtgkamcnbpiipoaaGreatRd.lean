/-
  The model's reader of drawn bytes: what it is in memory, and its contract: a number within its bounds.
-/
import Derived.Test.YtgkamcnbpiipoaaGreatBase
import Derived.Laws.Bits64
import Derived.Test.YtgkamcnbpiipoaaGreatOnly
namespace Go.Proofs.YtgkamcnbpiipoaaGreat
open Go.RowKit Go.Sort

theorem xor_i64 (a b : Nat) (ha : a < 4611686018427387904) (hb : b < 4611686018427387904) : bits .xor .i64 (a : Int) (b : Int) = ((a ^^^ b : Nat) : Int) := by
  have hx : a ^^^ b < 2 ^ 62 := Nat.xor_lt_two_pow (by omega) (by omega)
  have h1 : (BitVec.ofInt 64 (a : Int)).toNat = a := by
    rw [BitVec.ofInt_natCast, BitVec.toNat_ofNat]; exact Nat.mod_eq_of_lt (by omega)
  have h2 : (BitVec.ofInt 64 (b : Int)).toNat = b := by
    rw [BitVec.ofInt_natCast, BitVec.toNat_ofNat]; exact Nat.mod_eq_of_lt (by omega)
  show IntKind.i64.wrap ((BitVec.ofInt 64 (a : Int) ^^^ BitVec.ofInt 64 (b : Int)).toNat : Int) = _
  rw [BitVec.toNat_xor, h1, h2, IntKind.wrap_i64]
  omega

theorem xor_i64_int (x y : Int) (h1 : 0 ≤ x) (h2 : x < 4611686018427387904) (h3 : 0 ≤ y) (h4 : y < 4611686018427387904) : ∃ z : Nat, bits .xor .i64 x y = (z : Int) ∧ z < 4611686018427387904 := by
  obtain ⟨a, rfl⟩ := Int.eq_ofNat_of_zero_le h1
  obtain ⟨b, rfl⟩ := Int.eq_ofNat_of_zero_le h3
  refine ⟨a ^^^ b, xor_i64 a b (by omega) (by omega), ?_⟩
  have hx : a ^^^ b < 2 ^ 62 := Nat.xor_lt_two_pow (by omega) (by omega)
  omega

/-- A reader in block R: its bytes at A, and how far it has come. -/
structure Rd (w : World) (R : Nat) (A : Option Addr) (len cap p : Nat) : Prop where
  blk : Blk w R 77 #[.slice A len cap, .int .i64 p]
  bytes : 0 < len → ∃ b off, A = some ⟨b, off, none⟩ ∧ b < w.heap.size ∧ b ≠ R ∧ ∀ k, k < len → ∃ c : UInt8, w.cell? ⟨b, off + k, none⟩ = some (.int .u8 c.toNat)
  small : len ≤ 2000

/-- The reader goes on by one. -/
theorem Rd.next {w : World} {R : Nat} {A : Option Addr} {len cap p : Nat} (h : Rd w R A len cap p) (m : Nat) : Rd ((w.setCell ⟨R, 1, none⟩ (.int .i64 ((p : Int) + 1))).drewN m) R A len cap (p + 1) := by
  refine ⟨?_, fun hl => ?_, h.small⟩
  · have h1 := h.blk.set_ 1 (.int .i64 ((p : Int) + 1))
    have e : ((p + 1 : Nat) : Int) = (p : Int) + 1 := by omega
    rw [e]; exact h1
  obtain ⟨b, off, rfl, hlt, hne, hc⟩ := h.bytes hl
  refine ⟨b, off, rfl, by simpa using hlt, hne, fun k hk => ?_⟩
  obtain ⟨c, hcc⟩ := hc k hk
  exact ⟨c, (World.cell?_setCell_other w ⟨R, 1, none⟩ ⟨b, off + k, none⟩ _ (fun e => hne (by injection e with e1 _; exact e1.symm))).trans hcc⟩

def PickPost (R : Nat) (p : Nat) (n : Int) (w : World) (e : Ending) (w' : World) : Prop :=
  ∃ (x : Nat) (m : Nat), e = .returned (.int .i64 x) ∧ (x : Int) < n ∧ w' = (w.setCell ⟨R, 1, none⟩ (.int .i64 ((p : Int) + 1))).drewN m

set_option maxHeartbeats 1600000 in
set_option maxRecDepth 100000 in
theorem pick_any (R : Nat) (A : Option Addr) (len cap p : Nat) (n : Nat) (w : World) (h : Rd w R A len cap p) (hn : 1 ≤ n) (hn2 : n ≤ 1000) (hp : p ≤ 1048576) :
    Calls Tryz.prog 34 #[.pointer (some ⟨R, 0, none⟩), .int .i64 n] w (PickPost R p n w) := by
  have c0 := h.blk.cell 0
  have c1 := h.blk.cell 1
  have f1 := h.blk.frozen 1
  have g1 : decide ((n : Int) < 1) = false := by simp; omega
  by_cases h0 : len = 0
  · have g2 : ((len : Int) == 0) = true := by rw [h0]; rfl
    clear h0
    go_enter Tryz.func34, Tryz.ntmps34
    go_wp2_with fail
    go_ret
    exact ⟨0, 0, rfl, by omega, rfl⟩
  · have g2 : ((len : Int) == 0) = false := by simpa using h0
    have hl : 0 < len := by omega
    obtain ⟨b, off, rfl, hlt, hne, hc⟩ := h.bytes hl
    have hsm := h.small
    clear h0
    by_cases hk : p < len
    · obtain ⟨c, hcc⟩ := hc p hk
      have hcl : c.toNat < 256 := UInt8.toNat_lt c
      go_enter Tryz.func34, Tryz.ntmps34
      have HX : Hid ((c.toNat : Int) % (n : Int) = ((c.toNat % n : Nat) : Int)) := (Int.natCast_emod _ _).symm
      have HM : Hid (c.toNat % n < n) := Nat.mod_lt _ (by omega)
      go_wp2_with fail
      go_ret
      exact ⟨c.toNat % n, 0, ret_int HX.out, by have := HM.out; omega, rfl⟩
    · obtain ⟨c, hcc⟩ := hc (p % len) (Nat.mod_lt _ hl)
      obtain ⟨d, hdd⟩ := hc ((p * 7 + 3) % len) (Nat.mod_lt _ hl)
      have hcl : c.toNat < 256 := UInt8.toNat_lt c
      have hdl : d.toNat < 256 := UInt8.toNat_lt d
      have m1 : p % len < len := Nat.mod_lt _ hl
      have m2 : (p * 7 + 3) % len < len := Nat.mod_lt _ hl
      have q1 : p / len ≤ p := Nat.div_le_self _ _
      have z1 : ¬ (len : Int) = 0 := by omega
      have z2 : (1 : Int) ≤ len := by omega
      have z0 : ¬ len = 0 := by omega
      have e1 : ((p : Int) % (len : Int)).toNat = p % len := by omega
      have e2 : (((p : Int) * 7 + 3) % (len : Int)).toNat = (p * 7 + 3) % len := by
        have e3 : (p : Int) * 7 + 3 = ((p * 7 + 3 : Nat) : Int) := by omega
        rw [e3, ← Int.natCast_emod, Int.toNat_natCast]
      have j1 : 0 ≤ (p : Int) / (len : Int) := Int.ediv_nonneg (by omega) (by omega)
      have j2 : (p : Int) / (len : Int) ≤ (p : Int) := by rw [← Int.natCast_ediv]; omega
      have i1 : 0 ≤ (p : Int) % (len : Int) := Int.emod_nonneg _ (by omega)
      have i2 : (p : Int) % (len : Int) < (len : Int) := Int.emod_lt_of_pos _ (by omega)
      have i3 : 0 ≤ ((p : Int) * 7 + 3) % (len : Int) := Int.emod_nonneg _ (by omega)
      have i4 : ((p : Int) * 7 + 3) % (len : Int) < (len : Int) := Int.emod_lt_of_pos _ (by omega)
      go_enter Tryz.func34, Tryz.ntmps34
      go_wp2_with fail
      go_quiet (fail)
      have hX : 0 ≤ (c.toNat : Int) * 131 + (d.toNat : Int) * 1117 + (p : Int) * 29 + (p : Int) / (len : Int) * 53 ∧ (c.toNat : Int) * 131 + (d.toNat : Int) * 1117 + (p : Int) * 29 + (p : Int) / (len : Int) * 53 < 1000000000 := by omega
      generalize (c.toNat : Int) * 131 + (d.toNat : Int) * 1117 + (p : Int) * 29 + (p : Int) / (len : Int) * 53 = X at hX ⊢
      obtain ⟨hX1, hX2⟩ := hX
      have hX3 : 0 ≤ X / 64 := by omega
      obtain ⟨z, hz, hzb⟩ := xor_i64_int X (X / 64) hX1 (by omega) hX3 (by omega)
      have HX : Hid ((z : Int) % (n : Int) = ((z % n : Nat) : Int)) := (Int.natCast_emod _ _).symm
      have HM : Hid (z % n < n) := Nat.mod_lt _ (by omega)
      clear e1 e2 i1 i2 i3 i4 j1 j2 m1 m2 q1
      go_wp2_with fail
      go_ret
      exact ⟨z % n, nq, ret_int HX.out, by have := HM.out; omega, rfl⟩

def OfPost (R : Nat) (p : Nat) (ls : List ByteArray) (w : World) (e : Ending) (w' : World) : Prop :=
  ∃ (x : Nat) (h : x < ls.length) (m : Nat), e = .returned (.string (ls[x]'h)) ∧ w' = (w.setCell ⟨R, 1, none⟩ (.int .i64 ((p : Int) + 1))).drewN m

theorem of_any (R : Nat) (A : Option Addr) (len cap p L : Nat) (ls : List ByteArray) (w : World) (h : Rd w R A len cap p) (hL : L ≠ R) (hc : ∀ j (h : j < ls.length), w.cell? ⟨L, j, none⟩ = some (.string ls[j])) (h1 : 1 ≤ ls.length) (h2 : ls.length ≤ 1000) (hp : p ≤ 1048576) :
    Calls Tryz.prog 61 #[.pointer (some ⟨R, 0, none⟩), .slice (some ⟨L, 0, none⟩) ls.length ls.length] w (OfPost R p ls w) := by
  have HC := Lib.hid (pick_any R A len cap p ls.length w h h1 h2 hp)
  have HCC := Lib.hid hc
  clear hc h
  go_enter Tryz.func61, Tryz.ntmps61
  go_wp2_with fail
  refine HC.out.mono ?_
  rintro e w1 ⟨x, m, rfl, hx, rfl⟩
  have hx' : x < ls.length := by omega
  have c0 : ((w.setCell ⟨R, 1, none⟩ (.int .i64 ((p : Int) + 1))).drewN m).cell? ⟨L, x, none⟩ = some (.string (ls[x]'hx')) :=
    (World.cell?_setCell_other w ⟨R, 1, none⟩ ⟨L, x, none⟩ _ (fun e => hL (by injection e with e1 _; exact e1.symm))).trans (HCC.out x hx')
  go_wp2_with fail
  go_ret
  exact ⟨x, hx', m, rfl, rfl⟩

def NumPost (R : Nat) (p : Nat) (ls : List Int) (w : World) (e : Ending) (w' : World) : Prop :=
  ∃ (x : Nat) (h : x < ls.length) (m : Nat), e = .returned (.int .i64 (ls[x]'h)) ∧ w' = (w.setCell ⟨R, 1, none⟩ (.int .i64 ((p : Int) + 1))).drewN m

theorem num_any (R : Nat) (A : Option Addr) (len cap p L : Nat) (ls : List Int) (w : World) (h : Rd w R A len cap p) (hL : L ≠ R) (hc : ∀ j (h : j < ls.length), w.cell? ⟨L, j, none⟩ = some (.int .i64 ls[j])) (h1 : 1 ≤ ls.length) (h2 : ls.length ≤ 1000) (hp : p ≤ 1048576) :
    Calls Tryz.prog 75 #[.pointer (some ⟨R, 0, none⟩), .slice (some ⟨L, 0, none⟩) ls.length ls.length] w (NumPost R p ls w) := by
  have HC := Lib.hid (pick_any R A len cap p ls.length w h h1 h2 hp)
  have HCC := Lib.hid hc
  clear hc h
  go_enter Tryz.func75, Tryz.ntmps75
  go_wp2_with fail
  refine HC.out.mono ?_
  rintro e w1 ⟨x, m, rfl, hx, rfl⟩
  have hx' : x < ls.length := by omega
  have c0 : ((w.setCell ⟨R, 1, none⟩ (.int .i64 ((p : Int) + 1))).drewN m).cell? ⟨L, x, none⟩ = some (.int .i64 (ls[x]'hx')) :=
    (World.cell?_setCell_other w ⟨R, 1, none⟩ ⟨L, x, none⟩ _ (fun e => hL (by injection e with e1 _; exact e1.symm))).trans (HCC.out x hx')
  go_wp2_with fail
  go_ret
  exact ⟨x, hx', m, rfl, rfl⟩

/-- Opening a reader over bytes that came in. -/
def OpenPost (w : World) (e : Ending) (w' : World) : Prop :=
  ∃ A len cap, e = .returned (.pointer (some ⟨w.heap.size, 0, none⟩)) ∧ Rd w' w.heap.size A len cap 0 ∧ Below w.heap.size w w'

/-- A slice of bytes that reads. -/
def Bytes (w : World) (A : Option Addr) (len : Nat) : Prop :=
  0 < len → ∃ b off, A = some ⟨b, off, none⟩ ∧ b < w.heap.size ∧ ∀ k, k < len → ∃ c : UInt8, w.cell? ⟨b, off + k, none⟩ = some (.int .u8 c.toNat)

theorem rd_new (w : World) (A : Option Addr) (len cap : Nat) (hb : Bytes w A len) (hl : len ≤ 2000) : Rd (w.alloc (.cells #[.slice A len cap, .int .i64 0] 77)) w.heap.size A len cap 0 := by
  refine ⟨Blk.new _ _ _, fun hpos => ?_, hl⟩
  obtain ⟨b, off, rfl, hlt, hc⟩ := hb hpos
  refine ⟨b, off, rfl, by simp; omega, by omega, fun k hk => ?_⟩
  obtain ⟨c, hcc⟩ := hc k hk
  exact ⟨c, (World.cell?_alloc_lt w _ ⟨b, off + k, none⟩ hlt).trans hcc⟩

theorem open_any (A : Option Addr) (len cap : Nat) (w : World) (hb : Bytes w A len) (hlc : len ≤ cap) (hl : cap ≤ 9223372036854775807) :
    Calls Tryz.prog 17 #[.slice A len cap] w (OpenPost w) := by
  by_cases h : (2000 : Int) < len
  · obtain ⟨b, off, rfl, hlt, hc⟩ := hb (by omega)
    have HC := Lib.hid hc
    have h2 : (2000 : Int) ≤ cap := by omega
    clear hc hb
    go_enter Tryz.func17, Tryz.ntmps17
    go_wp2_with fail
    exact bodyPost_ret (v := .pointer (some ⟨w.heap.size, 0, none⟩)) (by simp [results, Tryz.results17, go_sem]) rfl
      ⟨_, 2000, cap, rfl, rd_new w _ 2000 cap (fun _ => ⟨b, off, rfl, hlt, fun k hk => HC.out k (by omega)⟩) (Nat.le_refl _), (Below.refl _ _).alloc (Nat.le_refl _) _⟩
  · have HB := Lib.hid hb
    clear hb
    go_enter Tryz.func17, Tryz.ntmps17
    go_wp2_with fail
    exact bodyPost_ret (v := .pointer (some ⟨w.heap.size, 0, none⟩)) (by simp [results, Tryz.results17, go_sem]) rfl
      ⟨A, len, cap, rfl, rd_new w A len cap HB.out (by omega), (Below.refl _ _).alloc (Nat.le_refl _) _⟩
end Go.Proofs.YtgkamcnbpiipoaaGreat

/-
  A draw of a number, of an element of a list of numbers or texts, told without the world's own letters.
-/
namespace Go.Proofs.YtgkamcnbpiipoaaGreat
open Go.RowKit Go.Sort

theorem Rd.below {w w' : World} {R : Nat} {A : Option Addr} {len cap p : Nat} (h : Rd w R A len cap p) (hb : Below w.heap.size w w') : Rd w' R A len cap p := by
  refine ⟨h.blk.below hb h.blk.lt, fun hl => ?_, h.small⟩
  obtain ⟨b, off, rfl, hlt, hne, hc⟩ := h.bytes hl
  have := hb.size
  refine ⟨b, off, rfl, by omega, hne, fun k hk => ?_⟩
  obtain ⟨c, hcc⟩ := hc k hk
  exact ⟨c, (hb.cell (p := ⟨b, off + k, none⟩) hlt).trans hcc⟩

/-- A draw, told without the world's own letters. -/
def Pick2 (R : Nat) (A : Option Addr) (len cap p n : Nat) (w : World) (e : Ending) (w' : World) : Prop :=
  ∃ x : Nat, e = .returned (.int .i64 x) ∧ x < n ∧ Only R w w' ∧ Rd w' R A len cap (p + 1)

theorem pick2 (R : Nat) (A : Option Addr) (len cap p : Nat) (n : Nat) (w : World) (h : Rd w R A len cap p) (hn : 1 ≤ n) (hn2 : n ≤ 1000) (hp : p ≤ 1048576) :
    Calls Tryz.prog 34 #[.pointer (some ⟨R, 0, none⟩), .int .i64 n] w (Pick2 R A len cap p n w) := by
  refine (pick_any R A len cap p n w h hn hn2 hp).mono ?_
  rintro e w' ⟨x, m, rfl, hx, rfl⟩
  exact ⟨x, rfl, by omega, Only.step _ _ _ _, h.next m⟩

def Num2 (R : Nat) (A : Option Addr) (len cap p : Nat) (ls : List Int) (w : World) (e : Ending) (w' : World) : Prop :=
  ∃ z : Int, e = .returned (.int .i64 z) ∧ z ∈ ls ∧ Only R w w' ∧ Rd w' R A len cap (p + 1)

theorem num2 (R : Nat) (A : Option Addr) (len cap p : Nat) (ls : List Int) (w : World) (h : Rd w R A len cap p) (h1 : 1 ≤ ls.length) (h2 : ls.length ≤ 1000) (hp : p ≤ 1048576) :
    Calls Tryz.prog 75 #[.pointer (some ⟨R, 0, none⟩), .slice (some ⟨w.heap.size, 0, none⟩) ls.length ls.length] (w.alloc (.cells (ls.map (Value.int .i64)).toArray 3)) (Num2 R A len cap p ls w) := by
  have hR := h.blk.lt
  have hr := h.below ((Below.refl w.heap.size w).alloc (Nat.le_refl _) (.cells (ls.map (Value.int .i64)).toArray 3))
  refine (num_any R A len cap p w.heap.size ls _ hr (by omega) (fun j hj => ?_) h1 h2 hp).mono ?_
  · rw [(Blk.new w 3 (ls.map (Value.int .i64)).toArray).cell j]
    simp [hj]
  · rintro e w' ⟨x, hx, m, rfl, rfl⟩
    exact ⟨_, rfl, List.getElem_mem hx, ((Only.refl R w).alloc _).trans (Only.step _ _ _ _), hr.next m⟩

def Of2 (R : Nat) (A : Option Addr) (len cap p : Nat) (ls : List ByteArray) (w : World) (e : Ending) (w' : World) : Prop :=
  ∃ s : ByteArray, e = .returned (.string s) ∧ s ∈ ls ∧ Only R w w' ∧ Rd w' R A len cap (p + 1)

theorem of2 (R : Nat) (A : Option Addr) (len cap p : Nat) (ls : List ByteArray) (w : World) (h : Rd w R A len cap p) (h1 : 1 ≤ ls.length) (h2 : ls.length ≤ 1000) (hp : p ≤ 1048576) :
    Calls Tryz.prog 61 #[.pointer (some ⟨R, 0, none⟩), .slice (some ⟨w.heap.size, 0, none⟩) ls.length ls.length] (w.alloc (.cells (ls.map Value.string).toArray 9)) (Of2 R A len cap p ls w) := by
  have hR := h.blk.lt
  have hr := h.below ((Below.refl w.heap.size w).alloc (Nat.le_refl _) (.cells (ls.map Value.string).toArray 9))
  refine (of_any R A len cap p w.heap.size ls _ hr (by omega) (fun j hj => ?_) h1 h2 hp).mono ?_
  · rw [(Blk.new w 9 (ls.map Value.string).toArray).cell j]
    simp [hj]
  · rintro e w' ⟨x, hx, m, rfl, rfl⟩
    exact ⟨_, rfl, List.getElem_mem hx, ((Only.refl R w).alloc _).trans (Only.step _ _ _ _), hr.next m⟩
end Go.Proofs.YtgkamcnbpiipoaaGreat
