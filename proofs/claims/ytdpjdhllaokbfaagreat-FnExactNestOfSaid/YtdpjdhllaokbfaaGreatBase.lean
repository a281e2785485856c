/-
  Plain facts on lists of bytes: where a byte stands first, what is joined of names.
-/
import Derived.Lib.Bytealg
import Derived.Below
import Derived.Laws.OwnMore
import Derived.Laws.MakeOwn
import Derived.Deep.Draws
import Derived.Laws.Rows
import Derived.Lib.QuietBelow
import Derived.Test.YtdpjdhllaokbfaaGreatProg
import Derived.WalkKit
import Derived.WalkSpells
import Derived.Lib.Hide
import Derived.Deep.QuietTactic
import Derived.BigQuiet
import Derived.Deep.LoopGhost
import Derived.KernelRfl
namespace Go.Proofs.YtdpjdhllaokbfaaGreat

theorem idx_found {l : List UInt8} {c : UInt8} : ∀ {k : Nat}, (∀ j, j < k → l[j]? ≠ some c) → l[k]? = some c → Lib.indexByte l c = k := by
  induction l with
  | nil => intro k _ h; simp at h
  | cons b l ih =>
    intro k hk h
    cases k with
    | zero =>
      have : b = c := by simpa using h
      subst this
      simp [Lib.indexByte]
    | succ k =>
      have hb : b ≠ c := fun e => hk 0 (by omega) (by simp [e])
      have h1 : l[k]? = some c := by simpa using h
      have h2 := ih (k := k) (fun j hj => by simpa using hk (j + 1) (by omega)) h1
      have h3 : (b == c) = false := by simpa using hb
      rw [Lib.indexByte, h3, h2]
      simp

theorem idx_none {l : List UInt8} {c : UInt8} (h : ∀ j, j < l.length → l[j]? ≠ some c) : Lib.indexByte l c = -1 := by
  induction l with
  | nil => rfl
  | cons b l ih =>
    have hb : b ≠ c := fun e => h 0 (by simp) (by simp [e])
    have h3 : (b == c) = false := by simpa using hb
    have h2 := ih (fun j hj => by simpa using h (j + 1) (by simpa using hj))
    rw [Lib.indexByte, h3, h2]
    rfl

theorem idx_mem {l : List UInt8} {c : UInt8} : 0 ≤ Lib.indexByte l c ↔ c ∈ l := by
  induction l with
  | nil => simp [Lib.indexByte]
  | cons b l ih =>
    by_cases hb : b = c
    · subst hb; simp [Lib.indexByte]
    · have h3 : (b == c) = false := by simpa using hb
      have hm := Lib.indexByte_ge l c
      rw [Lib.indexByte, h3]
      simp only [Bool.false_eq_true, if_false, List.mem_cons]
      by_cases h1 : Lib.indexByte l c = -1
      · rw [h1] at ih
        simp [h1, Ne.symm hb]
        have : ¬ c ∈ l := fun h => by have := ih.2 h; omega
        exact this
      · have h2 : (Lib.indexByte l c == -1) = false := by simpa using h1
        simp only [h2, Bool.false_eq_true, if_false, Ne.symm hb, false_or]
        rw [← ih]; omega

theorem idx_neg {l : List UInt8} {c : UInt8} : Lib.indexByte l c < 0 ↔ c ∉ l := by
  rw [← idx_mem]; omega

end Go.Proofs.YtdpjdhllaokbfaaGreat

/-
  A slice of blocks that reads as a list of pairs of strings; whole blocks of memory; sums of sizes.
-/
namespace Go.Proofs.YtdpjdhllaokbfaaGreat
open Go.RowKit

abbrev Bl := ByteArray × ByteArray

/-- The slice at A reads as the blocks g. -/
def Gr (w : World) (A : Option Addr) (g : List Bl) : Prop :=
  0 < g.length → ∃ b off, A = some ⟨b, off, none⟩ ∧ b < w.heap.size ∧ ∀ k (h : k < g.length), w.cell? ⟨b, off + k * 2, none⟩ = some (.string g[k].1) ∧ w.cell? ⟨b, off + k * 2 + 1, none⟩ = some (.string g[k].2)

theorem Gr.keep {w w' : World} {A : Option Addr} {g : List Bl} (h : Gr w A g) (hs : w.heap.size ≤ w'.heap.size) (hk : ∀ b o, b < w.heap.size → w'.cell? ⟨b, o, none⟩ = w.cell? ⟨b, o, none⟩) : Gr w' A g := by
  intro hn
  obtain ⟨b, off, rfl, hb, hc⟩ := h hn
  exact ⟨b, off, rfl, by omega, fun k hkk => ⟨(hk _ _ hb).trans (hc k hkk).1, (hk _ _ hb).trans (hc k hkk).2⟩⟩

theorem Gr.below {w w' : World} {A : Option Addr} {g : List Bl} (h : Gr w A g) (hb : Below w.heap.size w w') : Gr w' A g :=
  h.keep hb.size fun b o hlt => hb.cell (p := ⟨b, o, none⟩) hlt

theorem Gr.nil (w : World) (A : Option Addr) : Gr w A [] := fun h => absurd h (by simp)

theorem Gr.take {w : World} {A : Option Addr} {g : List Bl} (h : Gr w A g) (k : Nat) : Gr w A (g.take k) := by
  intro hn
  have hl : (g.take k).length ≤ g.length := by simp; omega
  obtain ⟨b, off, rfl, hb, hc⟩ := h (by omega)
  refine ⟨b, off, rfl, hb, fun j hj => ?_⟩
  have hj' : j < g.length := by omega
  have := hc j hj'
  simpa using this

/-- What the strings of a graph add up to. -/
def tot : List Bl → Nat
  | [] => 0
  | b :: g => b.1.size + b.2.size + tot g

theorem tot_append (g h : List Bl) : tot (g ++ h) = tot g + tot h := by
  induction g with
  | nil => simp [tot]
  | cons b g ih => simp [tot, ih]; omega

theorem take_snoc' (g : List Bl) (k : Nat) (h : k < g.length) : g.take (k + 1) = g.take k ++ [g[k]] := by
  rw [List.take_succ_eq_append_getElem h]

theorem tot_take (g : List Bl) (k : Nat) (h : k < g.length) : tot (g.take (k + 1)) = tot (g.take k) + (g[k].1.size + g[k].2.size) := by
  rw [take_snoc' g k h, tot_append]; simp [tot]

theorem tot_take_le (g : List Bl) (k : Nat) : tot (g.take k) ≤ tot g := by
  have := tot_append (g.take k) (g.drop k)
  rw [List.take_append_drop] at this
  omega

theorem tot_get (g : List Bl) (k : Nat) (h : k < g.length) : g[k].1.size + g[k].2.size ≤ tot g := by
  have := tot_take g k h
  have := tot_take_le g (k + 1)
  omega

/-- The names, one behind the other. -/
def names : List Bl → ByteArray
  | [] => ⟨#[]⟩
  | b :: g => b.1 ++ names g

theorem ba_ext {a b : ByteArray} (h : a.data.toList = b.data.toList) : a = b := by
  cases a; cases b; simp at h; simpa using h
theorem ba_append_toList (a b : ByteArray) : (a ++ b).data.toList = a.data.toList ++ b.data.toList := by simp
theorem ba_append_assoc (a b c : ByteArray) : a ++ b ++ c = a ++ (b ++ c) := by
  apply ba_ext; simp
theorem ba_empty_append (a : ByteArray) : (⟨#[]⟩ : ByteArray) ++ a = a := by apply ba_ext; simp
theorem ba_append_empty (a : ByteArray) : a ++ (⟨#[]⟩ : ByteArray) = a := by apply ba_ext; simp

theorem names_append (g h : List Bl) : names (g ++ h) = names g ++ names h := by
  induction g with
  | nil => exact (ba_empty_append _).symm
  | cons b g ih => simp only [List.cons_append, names, ih, ba_append_assoc]

theorem names_take (g : List Bl) (k : Nat) (h : k < g.length) : names (g.take (k + 1)) = names (g.take k) ++ g[k].1 := by
  rw [take_snoc' g k h, names_append]; simp only [names, ba_append_empty]

theorem names_size_le (g : List Bl) : (names g).size ≤ tot g := by
  induction g with
  | nil => exact Nat.le_refl 0
  | cons b g ih => simp [names, tot, ByteArray.size_append]; omega

/-- A block that is known whole, none of it frozen. -/
def Blk (w : World) (g : Nat) (t : TypeId) (cs : Array Value) : Prop := w.heap[g]? = some (.cells cs t (0, 0))

section
variable {w w' : World} {g : Nat} {t : TypeId} {cs : Array Value}
theorem Blk.lt (h : Blk w g t cs) : g < w.heap.size := by
  rcases Nat.lt_or_ge g w.heap.size with hlt | hge
  · exact hlt
  · unfold Blk at h; rw [Array.getElem?_eq_none hge] at h; cases h
theorem Blk.cell (h : Blk w g t cs) (i : Nat) : w.cell? ⟨g, i, none⟩ = cs[i]? := cell_of_row w g i cs t (0, 0) h
theorem Blk.some_cell (h : Blk w g t cs) {i : Nat} (hi : i < cs.size) : ∃ v, w.cell? ⟨g, i, none⟩ = some v := ⟨cs[i], by rw [h.cell, Array.getElem?_eq_getElem hi]⟩
theorem Blk.frozen (h : Blk w g t cs) (i : Nat) : w.frozen? ⟨g, i, none⟩ = false := by
  unfold Blk at h
  simp [World.frozen?, h]
theorem Blk.new (w : World) (t : TypeId) (cs : Array Value) : Blk (w.alloc (.cells cs t)) w.heap.size t cs := heap_alloc_new w _
theorem Blk.drew (h : Blk w g t cs) : Blk w.drew g t cs := h
theorem Blk.alloc (h : Blk w g t cs) (o : Obj) : Blk (w.alloc o) g t cs := (Below.heap_alloc w o g h.lt).trans h
theorem Blk.set_ (h : Blk w g t cs) (i : Nat) (u : Value) : Blk (w.setCell ⟨g, i, none⟩ u) g t (cs.setIfInBounds i u) := by
  unfold Blk at h ⊢
  simp [World.setCell, Array.getElem?_modify, h]
theorem Blk.below {B : Nat} (h : Blk w g t cs) (hb : Below B w w') (hg : g < B) : Blk w' g t cs := (hb.block g hg).trans h
end

/-- A slice of the call's own that reads as blocks: it lies at the head of one block. -/
def OwnGr (w : World) (B : Nat) (g : List Bl) : Prop := ∃ cs t, Blk w B t cs ∧ ∀ k (h : k < g.length), cs[k * 2]? = some (.string g[k].1) ∧ cs[k * 2 + 1]? = some (.string g[k].2)

theorem OwnGr.gr {w : World} {B : Nat} {g : List Bl} (h : OwnGr w B g) : Gr w (some ⟨B, 0, none⟩) g := by
  obtain ⟨cs, t, hb, hc⟩ := h
  intro _
  refine ⟨B, 0, rfl, hb.lt, fun k hk => ?_⟩
  rw [hb.cell, hb.cell, Nat.zero_add]
  exact hc k hk

end Go.Proofs.YtdpjdhllaokbfaaGreat

/-
  Contracts of the small functions: a byte's place in a string, a letter, a name; the sizes, copies and comparison of blocks.
-/
namespace Go.Proofs.YtdpjdhllaokbfaaGreat
open Go.RowKit

theorem ret_int {k : IntKind} {a b : Int} (h : a = b) : Ending.returned (.int k a) = .returned (.int k b) := by rw [h]
theorem ret_bool {a b : Bool} (h : a = b) : Ending.returned (.bool a) = .returned (.bool b) := by rw [h]

theorem byte_ne {a b : UInt8} (h : a ≠ b) : ((a.toNat : Int) == (b.toNat : Int)) = false := by
  have : a.toNat ≠ b.toNat := fun e => h (UInt8.toNat_inj.1 e)
  simp; omega

theorem byte_at (s : ByteArray) (k : Nat) (h : k < s.size) : s.data.toList[k]? = some s[k] := by
  have h' : k < s.data.toList.length := by simpa using h
  rw [List.getElem?_eq_getElem h']; rfl

set_option maxHeartbeats 400000 in
theorem find_any (s : ByteArray) (c : UInt8) (w : World) (hs : s.size ≤ 4611686018427387904) :
    Calls Tryz.prog 60 #[.string s, .int .u8 c.toNat] w fun e w' => e = .returned (.int .i64 (Lib.indexByte s.data.toList c)) ∧ w = w' := by
  go_enter Tryz.func60, Tryz.ntmps60
  go_wp2
  go_loop [5] (fun i => ∃ k : Nat, k ≤ s.size ∧ i = .int .i64 k ∧ Hid (∀ j, j < k → s.data.toList[j]? ≠ some c)) (fun i => s.size - (intOf i).toNat)
  case atStart => exact ⟨0, Nat.zero_le _, rfl, fun j hj => absurd hj (by omega)⟩
  case round =>
    obtain ⟨k, hk, rfl, HK⟩ := hrel
    by_cases hlt : k < s.size
    · by_cases hc : s[k] = c
      · have hcc : (s[k].toNat : Int) = (c.toNat : Int) := by rw [hc]
        have HH := Lib.hid hc
        clear hc
        go_wp2
        go_ret
        exact ⟨ret_int (idx_found HK.out (by rw [byte_at s k hlt, HH.out])).symm, rfl⟩
      · have hcc := byte_ne hc
        have HH := Lib.hid hc
        clear hc
        go_wp2
        go_round
        case rel =>
          refine ⟨k + 1, by omega, by go_num, fun j hj => ?_⟩
          rcases Nat.lt_succ_iff_lt_or_eq.1 hj with h | rfl
          · exact HK.out j h
          · rw [byte_at s j hlt]; exact fun e => HH.out (Option.some.inj e)
        case measure => simp [intOf]; omega
    · go_wp2
      go_ret
      exact ⟨ret_int (idx_none fun j hj => HK.out j (by have : j < s.size := by simpa using hj
                                                        omega)).symm, rfl⟩

def inB (n lo hi : Int) : Bool := decide (lo ≤ n) && decide (n ≤ hi)

theorem in_any (n lo hi : Int) (w : World) :
    Calls Tryz.prog 61 #[.int .i64 n, .int .i64 lo, .int .i64 hi] w fun e w' => e = .returned (.bool (inB n lo hi)) ∧ w = w' := by
  by_cases h1 : lo ≤ n <;> by_cases h2 : n ≤ hi
  all_goals
    have b1 : inB n lo hi = inB n lo hi := rfl
    conv at b1 => rhs; unfold inB; simp only [h1, h2]
    have HH := Lib.hid b1
    clear b1
    go_enter Tryz.func61, Tryz.ntmps61
    go_wp2
    go_ret
    exact ⟨ret_bool (by rw [HH.out]; first | rfl | simp [h1, h2]), rfl⟩

def letB (c : UInt8) : Bool := decide (65 ≤ c.toNat) && decide (c.toNat ≤ 90)

theorem letter_any (c : UInt8) (w : World) :
    Calls Tryz.prog 59 #[.int .u8 c.toNat] w fun e w' => e = .returned (.bool (letB c)) ∧ w = w' := by
  have hc : c.toNat < 256 := UInt8.toNat_lt c
  go_enter Tryz.func59, Tryz.ntmps59
  go_wp2_with (go_at_call 61; refine (in_any _ _ _ _).mono ?_; rintro e w' ⟨rfl, rfl⟩)
  go_ret
  refine ⟨ret_bool ?_, rfl⟩
  unfold inB letB
  congr 1 <;> (apply decide_eq_decide.2; omega)

/-- A name: one capital letter. -/
def nameB (s : ByteArray) : Bool := s.size == 1 && letB (s.data.toList.getD 0 0)

theorem isName_any (s : ByteArray) (w : World) :
    Calls Tryz.prog 96 #[.string s] w fun e w' => e = .returned (.bool (nameB s)) ∧ w = w' := by
  by_cases h1 : s.size = 1
  · have h4 : 0 < s.size := by omega
    have hb : nameB s = letB (s[0]'h4) := by
      unfold nameB
      have := byte_at s 0 (by omega)
      rw [List.getD_eq_getElem?_getD, this]
      simp [h1]
    have h1' : ((s.size : Int) == 1) = true := by rw [h1]; rfl
    have HB := Lib.hid hb
    have H1 := Lib.hid h1
    clear hb h1
    have e1 : decide (65 ≤ (s[0]'h4).toNat) = decide (65 ≤ ((s[0]'h4).toNat : Int)) := by apply decide_eq_decide.2; omega
    have e2 : decide ((s[0]'h4).toNat ≤ 90) = decide (((s[0]'h4).toNat : Int) ≤ 90) := by apply decide_eq_decide.2; omega
    have E1 := Lib.hid e1
    have E2 := Lib.hid e2
    clear e1 e2
    have h5 : (65 ≤ ((s[0]'h4).toNat : Int) ∧ ((s[0]'h4).toNat : Int) ≤ 90) ∨ (65 ≤ ((s[0]'h4).toNat : Int) ∧ ¬ ((s[0]'h4).toNat : Int) ≤ 90) ∨ (¬ 65 ≤ ((s[0]'h4).toNat : Int) ∧ ((s[0]'h4).toNat : Int) ≤ 90) := by omega
    rcases h5 with ⟨h2, h3⟩ | ⟨h2, h3⟩ | ⟨h2, h3⟩
    all_goals
      go_enter Tryz.func96, Tryz.ntmps96
      go_wp2
      go_ret
      refine ⟨ret_bool ?_, rfl⟩
      have e3 : letB (s[0]'h4) = (decide (65 ≤ ((s[0]'h4).toNat : Int)) && decide (((s[0]'h4).toNat : Int) ≤ 90)) := by
        rw [← E1.out, ← E2.out]; rfl
      rw [HB.out, e3]
      simp_all
  · have hb : nameB s = false := by unfold nameB; simp [h1]
    have h1' : ((s.size : Int) == 1) = false := by simp; omega
    have HB := Lib.hid hb
    clear hb h1
    go_enter Tryz.func96, Tryz.ntmps96
    go_wp2
    go_ret
    exact ⟨ret_bool HB.out.symm, rfl⟩

/-- Two one-cell fields by value. -/
abbrev blk (s t : ByteArray) : Value := .agg #[.string s, .string t]

def szL (s t : ByteArray) (l : Int) : Int := if l - s.size - t.size < 0 then -1 else l - s.size - t.size

theorem szBlock_any (s t : ByteArray) (l : Int) (w : World) (hs : s.size ≤ 9223372036854775807) (ht : t.size ≤ 9223372036854775807) (h0 : 0 ≤ l) (h1 : l ≤ 1048576) :
    Calls Tryz.prog 34 #[blk s t, .int .i64 l] w fun e w' => (e = .returned (.int .i64 (szL s t l))) ∧ Below w.heap.size w w' := by
  by_cases hA : l - s.size < 0
  · have HB := Lib.hid (show szL s t l = -1 by unfold szL; rw [if_pos (by omega)])
    go_enter Tryz.func34, Tryz.ntmps34
    go_wp2
    go_ret
    exact ⟨ret_int HB.out.symm, (Below.refl _ _).alloc (Nat.le_refl _) _⟩
  · by_cases hB : l - s.size - t.size < 0
    · have HB := Lib.hid (show szL s t l = -1 by unfold szL; rw [if_pos (by omega)])
      go_enter Tryz.func34, Tryz.ntmps34
      go_wp2
      go_ret
      exact ⟨ret_int HB.out.symm, (Below.refl _ _).alloc (Nat.le_refl _) _⟩
    · have HB := Lib.hid (show szL s t l = l - s.size - t.size by unfold szL; rw [if_neg (by omega)])
      go_enter Tryz.func34, Tryz.ntmps34
      go_wp2
      go_ret
      exact ⟨ret_int HB.out.symm, (Below.refl _ _).alloc (Nat.le_refl _) _⟩

theorem toBlock_any (s t : ByteArray) (w : World) :
    Calls Tryz.prog 38 #[blk s t] w fun e w' => e = .returned (blk s t) ∧ Below w.heap.size w w' := by
  go_enter Tryz.func38, Tryz.ntmps38
  go_wp2
  exact bodyPost_ret (v := blk s t) (by simp [results, Tryz.results38, go_sem]) rfl ⟨rfl, (((Below.refl _ _).alloc (Nat.le_refl _) _).alloc (by simp) _).alloc (by simp; omega) _⟩

def eqB (s t s' t' : ByteArray) : Bool := s.toList == s'.toList && t.toList == t'.toList

theorem eqBlock_any (s t s' t' : ByteArray) (w : World) :
    Calls Tryz.prog 42 #[blk s t, blk s' t'] w fun e w' => e = .returned (.bool (eqB s t s' t')) ∧ Below w.heap.size w w' := by
  by_cases h1 : (s.toList == s'.toList) = true
  · by_cases h2 : (t.toList == t'.toList) = true
    · have HB := Lib.hid (show eqB s t s' t' = true by unfold eqB; rw [h1, h2]; rfl)
      go_enter Tryz.func42, Tryz.ntmps42
      go_wp2
      go_ret
      exact ⟨ret_bool HB.out.symm, ((Below.refl _ _).alloc (Nat.le_refl _) _).alloc (by simp) _⟩
    · have h2' : (t.toList == t'.toList) = false := by simpa using h2
      clear h2
      have HB := Lib.hid (show eqB s t s' t' = false by unfold eqB; rw [h1, h2']; rfl)
      go_enter Tryz.func42, Tryz.ntmps42
      go_wp2
      go_ret
      exact ⟨ret_bool HB.out.symm, ((Below.refl _ _).alloc (Nat.le_refl _) _).alloc (by simp) _⟩
  · have h1' : (s.toList == s'.toList) = false := by simpa using h1
    clear h1
    have HB := Lib.hid (show eqB s t s' t' = false by unfold eqB; rw [h1']; rfl)
    go_enter Tryz.func42, Tryz.ntmps42
    go_wp2
    go_ret
    exact ⟨ret_bool HB.out.symm, ((Below.refl _ _).alloc (Nat.le_refl _) _).alloc (by simp) _⟩
end Go.Proofs.YtdpjdhllaokbfaaGreat

/-
  Contracts of the functions that go over slices of blocks: sizes, copies, comparison, names.
-/
namespace Go.Proofs.YtdpjdhllaokbfaaGreat
open Go.RowKit Go.Sort

theorem bcell {W w1 : World} (hb : Below W.heap.size W w1) : (∀ b o, b < W.heap.size → w1.cell? ⟨b, o, none⟩ = W.cell? ⟨b, o, none⟩) ∧ (∀ b o, b < W.heap.size → w1.frozen? ⟨b, o, none⟩ = W.frozen? ⟨b, o, none⟩) :=
  ⟨fun b o h => hb.cell (p := ⟨b, o, none⟩) h, fun b o h => hb.frozen (p := ⟨b, o, none⟩) h⟩

theorem below_trans_self {w w1 w2 : World} (h : Below w.heap.size w w1) (h2 : Below w1.heap.size w1 w2) : Below w.heap.size w w2 :=
  h.trans (h2.mono h.size)

theorem ret_string {a b : ByteArray} (h : a = b) : Ending.returned (.string a) = .returned (.string b) := by rw [h]

/-- What a round over blocks knows of its block. -/
theorem gr_at {w : World} {A : Option Addr} {g : List Bl} (hg : Gr w A g) {k : Nat} (h : k < g.length) :
    ∃ b off s t, A = some ⟨b, off, none⟩ ∧ b < w.heap.size ∧ w.cell? ⟨b, off + k * 2, none⟩ = some (.string s) ∧ w.cell? ⟨b, off + k * 2 + 1, none⟩ = some (.string t) ∧ g[k].1 = s ∧ g[k].2 = t := by
  obtain ⟨b, off, e, hb, hc⟩ := hg (by omega)
  exact ⟨b, off, g[k].1, g[k].2, e, hb, (hc k h).1, (hc k h).2, rfl, rfl⟩

theorem names_any (A : Option Addr) (cap : Nat) (g : List Bl) (w : World) (hg : Gr w A g) (hn : g.length ≤ 1048576) (ht : tot g ≤ 1048576) :
    Calls Tryz.prog 58 #[.slice A g.length cap] w fun e w' => e = .returned (.string (names g)) ∧ Below w.heap.size w w' := by
  go_enter Tryz.func58, Tryz.ntmps58
  go_wp2
  go_loopw [3, 8] (fun s i wr => ∃ k : Nat, k ≤ g.length ∧ i = .int .i64 k ∧ s = .string (names (g.take k)) ∧ Below w.heap.size w wr) (fun _ i _ => g.length - (intOf i).toNat)
  case atStart => exact ⟨0, Nat.zero_le _, rfl, rfl, Below.refl _ _⟩
  case round =>
    obtain ⟨k, hk, rfl, rfl, hB⟩ := hrel
    have hs := names_size_le (g.take k)
    have hs2 := tot_take_le g k
    obtain ⟨m, hm⟩ : ∃ m, m = names (g.take k) := ⟨_, rfl⟩
    have HM := Lib.hid hm
    rw [← hm] at hs ⊢
    clear hm
    by_cases hlt : k < g.length
    · obtain ⟨b, off, s, t, rfl, hb, hc0, hc1, he, he2⟩ := gr_at (hg.below hB) hlt
      have hs3 := tot_get g k hlt
      rw [he, he2] at hs3
      have HN := Lib.hid (names_take g k hlt)
      have HE := Lib.hid he
      clear he he2
      go_wp2
      go_roundw
      case rel => exact ⟨k + 1, by omega, by go_num, by rw [HN.out, HE.out, ← HM.out], hB.alloc hB.size _⟩
      case measure => simp [intOf]; omega
    · go_wp2
      go_ret
      exact ⟨ret_string (by rw [HM.out, List.take_of_length_le (by omega)]), hB⟩

set_option maxHeartbeats 400000 in
theorem szS_small (A : Option Addr) (cap : Nat) (g : List Bl) (w : World) (hg : Gr w A g) (hn : g.length + tot g ≤ 1048576) :
    Calls Tryz.prog 11 #[.slice A g.length cap, .int .i64 1048576] w fun e w' => e = .returned (.int .i64 (1048576 - g.length - tot g)) ∧ Below w.heap.size w w' := by
  go_enter Tryz.func11, Tryz.ntmps11
  go_wp2
  go_loopw [1, 5] (fun l i wr => ∃ k : Nat, k ≤ g.length ∧ i = .int .i64 k ∧ l = .int .i64 (1048576 - g.length - tot (g.take k)) ∧ Below w.heap.size w wr) (fun _ i _ => g.length - (intOf i).toNat)
  case atStart => exact ⟨0, Nat.zero_le _, rfl, by simp [tot], Below.refl _ _⟩
  case round =>
    obtain ⟨k, hk, rfl, rfl, hB⟩ := hrel
    have hs2 := tot_take_le g k
    obtain ⟨m, hm⟩ : ∃ m, m = tot (g.take k) := ⟨_, rfl⟩
    have HM := Lib.hid hm
    rw [← hm] at hs2 ⊢
    clear hm
    by_cases hlt : k < g.length
    · obtain ⟨b, off, s, t, rfl, hb, hc0, hc1, he, he2⟩ := gr_at (hg.below hB) hlt
      have hs3 := tot_get g k hlt
      have hs4 := tot_take g k hlt
      have hs5 := tot_take_le g (k + 1)
      rw [he, he2] at hs3 hs4
      rw [← HM.out] at hs4
      have hs6 : m + (s.size + t.size) ≤ tot g := by omega
      have HN := Lib.hid hs4
      have HZ := Lib.hid (show szL s t (1048576 - g.length - m) = 1048576 - g.length - m - s.size - t.size by unfold szL; rw [if_neg (by omega)])
      clear he he2 hs4 hs5
      go_wp2_with fail
      refine (szBlock_any s t _ _ (by omega) (by omega) (by omega) (by omega)).mono ?_
      rintro e w1 ⟨rfl, hb1⟩
      rw [HZ.out]
      go_wp2
      go_roundw
      case rel => exact ⟨k + 1, by omega, by go_num, by rw [HN.out]; congr 1; omega, below_trans_self hB hb1⟩
      case measure => simp [intOf]; omega
    · go_wp2
      go_ret
      refine ⟨ret_int ?_, hB⟩
      have : m = tot g := by rw [HM.out, List.take_of_length_le (by omega)]
      omega

set_option maxHeartbeats 400000 in
theorem szS_big (A : Option Addr) (cap : Nat) (g : List Bl) (w : World) (hg : Gr w A g) (hn : ¬ g.length + tot g ≤ 1048576) (hl : g.length ≤ 9223372036854775807) (hz : ∀ b ∈ g, b.1.size ≤ 9223372036854775807 ∧ b.2.size ≤ 9223372036854775807) :
    Calls Tryz.prog 11 #[.slice A g.length cap, .int .i64 1048576] w fun e w' => e = .returned (.int .i64 (-1)) ∧ Below w.heap.size w w' := by
  by_cases h0 : (1048576 : Int) - g.length < 0
  · go_enter Tryz.func11, Tryz.ntmps11
    go_wp2
    go_ret
    exact ⟨rfl, Below.refl _ _⟩
  · go_enter Tryz.func11, Tryz.ntmps11
    go_wp2
    go_loopw [1, 5] (fun l i wr => ∃ k : Nat, k ≤ g.length ∧ i = .int .i64 k ∧ l = .int .i64 (1048576 - g.length - tot (g.take k)) ∧ g.length + tot (g.take k) ≤ 1048576 ∧ Below w.heap.size w wr) (fun _ i _ => g.length - (intOf i).toNat)
    case atStart => exact ⟨0, Nat.zero_le _, rfl, by simp [tot], by simp [tot]; omega, Below.refl _ _⟩
    case round =>
      obtain ⟨k, hk, rfl, rfl, hle, hB⟩ := hrel
      obtain ⟨m, hm⟩ : ∃ m, m = tot (g.take k) := ⟨_, rfl⟩
      have HM := Lib.hid hm
      rw [← hm] at hle ⊢
      clear hm
      by_cases hlt : k < g.length
      · obtain ⟨b, off, s, t, rfl, hb, hc0, hc1, he, he2⟩ := gr_at (hg.below hB) hlt
        have hs4 := tot_take g k hlt
        have hz1 := hz g[k] (List.getElem_mem _)
        rw [he, he2] at hs4 hz1
        obtain ⟨hz1, hz2⟩ := hz1
        rw [← HM.out] at hs4
        have HN := Lib.hid hs4
        clear he he2 hs4
        by_cases hlast : (1048576 : Int) - g.length - m - s.size - t.size < 0
        · have HZ := Lib.hid (show szL s t (1048576 - g.length - m) = -1 by unfold szL; rw [if_pos hlast])
          go_wp2_with fail
          refine (szBlock_any s t _ _ (by omega) (by omega) (by omega) (by omega)).mono ?_
          rintro e w1 ⟨rfl, hb1⟩
          rw [HZ.out]
          go_wp2
          go_ret
          exact ⟨rfl, below_trans_self hB hb1⟩
        · have HZ := Lib.hid (show szL s t (1048576 - g.length - m) = 1048576 - g.length - m - s.size - t.size by unfold szL; rw [if_neg hlast])
          go_wp2_with fail
          refine (szBlock_any s t _ _ (by omega) (by omega) (by omega) (by omega)).mono ?_
          rintro e w1 ⟨rfl, hb1⟩
          rw [HZ.out]
          go_wp2
          go_roundw
          case rel => exact ⟨k + 1, by omega, by go_num, by rw [HN.out]; congr 1; omega, by rw [HN.out]; omega, below_trans_self hB hb1⟩
          case measure => simp [intOf]; omega
      · exfalso
        have : m = tot g := by rw [HM.out, List.take_of_length_le (by omega)]
        omega

theorem info_block : (Tryz.prog.info? 46).map (fun i => (i.zero, i.size, i.bytes)) = some (some (.agg #[.string ⟨#[]⟩, .string ⟨#[]⟩]), 2, 32) := by kernel_rfl

theorem run_make_blocks (n : Nat) (hn : n ≤ 1048576) (w : World) :
    (Instr.makeSlice 27 (.int .i64 (n : Int)) (.int .i64 (n : Int))).run Tryz.prog w = .ok (.slice (some ⟨w.heap.size, 0, none⟩) n n) (w.alloc (.cells (madeCells #[.string ⟨#[]⟩, .string ⟨#[]⟩] (n * 2)) 46)) := by
  obtain ⟨i, hi, hzz⟩ := Option.map_eq_some_iff.1 info_block
  simp only [Prod.mk.injEq] at hzz
  obtain ⟨hz, hs, hb⟩ := hzz
  have := run_make (P := Tryz.prog) w 27 46 i _ Tryz.underlying27 hi hz .i64 .i64 n n (by omega) (by omega) (by rw [hb]; omega) (by omega)
  simpa [hs, Value.cells] using this

/-- Of the cells of a row being filled: the first k blocks are there. -/
def Filled (cs : Array Value) (g : List Bl) (k : Nat) : Prop := cs.size = g.length * 2 ∧ ∀ j (h : j < g.length), j < k → cs[j * 2]? = some (.string g[j].1) ∧ cs[j * 2 + 1]? = some (.string g[j].2)

theorem Filled.step {cs : Array Value} {g : List Bl} {k : Nat} {s t : ByteArray} (h : Filled cs g k) (hk : k < g.length) (e1 : g[k].1 = s) (e2 : g[k].2 = t) :
    Filled ((cs.setIfInBounds (k * 2) (.string s)).setIfInBounds (k * 2 + 1) (.string t)) g (k + 1) := by
  refine ⟨by simpa using h.1, fun j hj hjk => ?_⟩
  have hsz := h.1
  simp only [Array.getElem?_setIfInBounds, Array.size_setIfInBounds]
  rcases Nat.lt_succ_iff_lt_or_eq.1 hjk with hlt | rfl
  · rw [if_neg (by omega), if_neg (by omega), if_neg (by omega), if_neg (by omega)]
    exact h.2 j hj hlt
  · constructor
    · rw [if_neg (by omega), if_pos rfl, if_pos (by omega), e1]
    · rw [if_pos rfl, if_pos (by omega), e2]

set_option maxHeartbeats 400000 in
theorem toS_any (A : Option Addr) (cap : Nat) (g : List Bl) (w : World) (hg : Gr w A g) (hn : g.length + tot g ≤ 1048576) :
    Calls Tryz.prog 13 #[.slice A g.length cap] w fun e w' => e = .returned (.slice (some ⟨w.heap.size, 0, none⟩) g.length g.length) ∧ OwnGr w' w.heap.size g ∧ Below w.heap.size w w' := by
  have hmk := run_make_blocks g.length (by omega)
  go_enter Tryz.func13, Tryz.ntmps13
  go_wp2
  clear hmk
  go_loopw [4] (fun i wr => ∃ k : Nat, k ≤ g.length ∧ i = .int .i64 k ∧ (∃ cs, Blk wr w.heap.size 46 cs ∧ Filled cs g k) ∧ Below w.heap.size w wr) (fun i _ => g.length - (intOf i).toNat)
  case atStart => exact ⟨0, Nat.zero_le _, rfl, ⟨_, Blk.new _ _ _, size_madeCells _ _, fun j hj h => absurd h (by omega)⟩, (Below.refl _ _).alloc (Nat.le_refl _) _⟩
  case round =>
    obtain ⟨k, hk, rfl, ⟨cs, hblk, hf⟩, hB⟩ := hrel
    by_cases hlt : k < g.length
    · obtain ⟨b, off, s, t, rfl, hb, hc0, hc1, he, he2⟩ := gr_at (hg.below hB) hlt
      have HE := Lib.hid he
      have HE2 := Lib.hid he2
      have HF := Lib.hid hf
      have hsz := hf.1
      clear he he2 hf
      go_wp2_with fail
      refine (toBlock_any s t _).mono ?_
      rintro e w1 ⟨rfl, hb1⟩
      have hblk1 := hblk.below hb1 hblk.lt
      obtain ⟨v0, x0⟩ := hblk1.some_cell (i := k * 2) (by omega)
      obtain ⟨v1, x1⟩ := hblk1.some_cell (i := k * 2 + 1) (by omega)
      have f0 := hblk1.frozen (k * 2)
      have f1 := hblk1.frozen (k * 2 + 1)
      have HB1 := Lib.hid hblk1
      clear hblk1 hblk hsz
      go_wp2
      go_roundw
      case rel => exact ⟨k + 1, by omega, by go_num, ⟨_, (HB1.out.set_ _ _).set_ _ _, HF.out.step hlt HE.out HE2.out⟩, ((below_trans_self hB hb1).setCell (p := ⟨w.heap.size, k * 2, none⟩) (Nat.le_refl _) _).setCell (p := ⟨w.heap.size, k * 2 + 1, none⟩) (Nat.le_refl _) _⟩
      case measure => simp [intOf]; omega
    · have HF := Lib.hid hf
      clear hf
      go_wp2
      go_ret
      exact ⟨rfl, ⟨cs, _, hblk, fun j hj => HF.out.2 j hj (by omega)⟩, hB⟩

/-- Two lists of blocks, compared. -/
def eqG : List Bl → List Bl → Bool
  | [], [] => true
  | a :: g, b :: h => eqB a.1 a.2 b.1 b.2 && eqG g h
  | _, _ => false

theorem beq_toList {a b : ByteArray} : (a.toList == b.toList) = true ↔ a = b := by
  constructor
  · intro h
    have h1 : a.toList = b.toList := by simpa using h
    rw [Lib.toList_data, Lib.toList_data] at h1
    exact ba_ext h1
  · rintro rfl; simp

theorem eqB_iff {s t s' t' : ByteArray} : eqB s t s' t' = true ↔ s = s' ∧ t = t' := by
  unfold eqB; rw [Bool.and_eq_true, beq_toList, beq_toList]

theorem eqG_iff {g h : List Bl} : eqG g h = true ↔ g = h := by
  induction g generalizing h with
  | nil => cases h <;> simp [eqG]
  | cons a g ih =>
    cases h with
    | nil => simp [eqG]
    | cons b h =>
      obtain ⟨a1, a2⟩ := a
      obtain ⟨b1, b2⟩ := b
      simp [eqG, eqB_iff, ih, and_assoc]

set_option maxHeartbeats 400000 in
theorem eqS_any (A A' : Option Addr) (cap cap' : Nat) (g h : List Bl) (w : World) (hg : Gr w A g) (hh : Gr w A' h) (hn : g.length ≤ 1048576) (hn' : h.length ≤ 1048576) :
    Calls Tryz.prog 16 #[.slice A g.length cap, .slice A' h.length cap'] w fun e w' => e = .returned (.bool (eqG g h)) ∧ Below w.heap.size w w' := by
  by_cases hl : g.length = h.length
  · have hl' : ((g.length : Int) != (h.length : Int)) = false := by simp [hl]
    have HL := Lib.hid hl
    clear hl
    go_enter Tryz.func16, Tryz.ntmps16
    go_wp2
    go_loopw [5] (fun i wr => ∃ k : Nat, k ≤ g.length ∧ i = .int .i64 k ∧ Hid (∀ j (h1 : j < g.length) (h2 : j < h.length), j < k → g[j] = h[j]) ∧ Below w.heap.size w wr) (fun i _ => g.length - (intOf i).toNat)
    case atStart => exact ⟨0, Nat.zero_le _, rfl, fun j _ _ h => absurd h (by omega), Below.refl _ _⟩
    case round =>
      obtain ⟨k, hk, rfl, HK, hB⟩ := hrel
      by_cases hlt : k < g.length
      · have hlt' : k < h.length := by have := HL.out; omega
        obtain ⟨b, off, s, t, rfl, hb, hc0, hc1, he, he2⟩ := gr_at (hg.below hB) hlt
        obtain ⟨b', off', s', t', rfl, hb', hc0', hc1', he', he2'⟩ := gr_at (hh.below hB) hlt'
        have HE := Lib.hid (show g[k] = (s, t) from Prod.ext he he2)
        have HE' := Lib.hid (show h[k] = (s', t') from Prod.ext he' he2')
        clear he he2 he' he2' hg hh
        have k0 := cell_regrown hc0
        have k1 := cell_regrown hc1
        have k2 := cell_regrown hc0'
        have k3 := cell_regrown hc1'
        have cQ : ∀ d os, Calls Tryz.prog 42 #[blk s t, blk s' t'] (grow (redrawn wr d) os) fun e w'' => e = .returned (.bool (eqB s t s' t')) ∧ ∃ p : Regrown, w'' = grow (redrawn wr p.d) p.os := fun d os => Calls.regrown_of (eqBlock_any _ _ _ _ _)
        go_wp2_with fail
        refine wp_region_quiet_below (by kernel_rfl) (by kernel_rfl) ?_
        repeat (any_goals (first | go_big_quiet_step (exact cQ _ _) | quiet_step (exact cQ _ _)))
        all_goals (refine wpQuiet_nil ?_; intro _ hw'; obtain ⟨⟨dq, osq⟩, hw''⟩ := hw'; subst hw'')
        have hb2 := below_regrown wr dq osq
        generalize grow (redrawn wr dq) osq = w2 at hb2 ⊢
        clear cQ k0 k1 k2 k3
        by_cases hq : eqB s t s' t' = true
        · rw [hq]
          have HQ := Lib.hid hq
          clear hq
          go_wp2
          go_roundw
          case rel =>
            refine ⟨k + 1, by omega, by go_num, fun j h1 h2 hj => ?_, below_trans_self hB hb2⟩
            rcases Nat.lt_succ_iff_lt_or_eq.1 hj with h | rfl
            · exact HK.out j h1 h2 h
            · obtain ⟨e1, e2⟩ := eqB_iff.1 HQ.out
              rw [HE.out, HE'.out, e1, e2]
          case measure => simp [intOf]; omega
        · have hq' : eqB s t s' t' = false := by simpa using hq
          have HN := Lib.hid (show eqG g h = false from Bool.eq_false_iff.2 fun e => hq (eqB_iff.2 (by
            have e3 := eqG_iff.1 e
            subst e3
            exact Prod.mk.inj (HE.out.symm.trans HE'.out))))
          rw [hq']
          clear hq hq'
          go_wp2
          go_ret
          exact ⟨ret_bool HN.out.symm, below_trans_self hB hb2⟩
      · have HN := Lib.hid (show eqG g h = true from eqG_iff.2 (List.ext_getElem HL.out fun j h1 h2 => HK.out j h1 h2 (by omega)))
        go_wp2
        go_ret
        exact ⟨ret_bool HN.out.symm, hB⟩
  · have hl' : ((g.length : Int) != (h.length : Int)) = true := by simp; omega
    have HN := Lib.hid (show eqG g h = false from Bool.eq_false_iff.2 fun e => hl (by rw [eqG_iff.1 e]))
    clear hl
    go_enter Tryz.func16, Tryz.ntmps16
    go_wp2
    go_ret
    exact ⟨ret_bool HN.out.symm, Below.refl _ _⟩
end Go.Proofs.YtdpjdhllaokbfaaGreat

/-
  When a list of blocks is a graph; plain facts.
-/
namespace Go.Proofs.YtdpjdhllaokbfaaGreat

/-- Where a block goes on: to no more than two blocks that are there, and not twice to one. -/
def nextB (next nm : ByteArray) : Bool :=
  decide (next.size ≤ 2) && (next.data.toList.all fun c => nm.data.toList.contains c) && !(next.size == 2 && next.data.toList.getD 0 0 == next.data.toList.getD 1 0)

/-- A name that is not among those before it. -/
def newB (pre s : ByteArray) : Bool := nameB s && !(pre.data.toList.contains (s.data.toList.getD 0 0))

def nthName (g : List Bl) (k : Nat) : ByteArray := (g.map (·.1)).getD k ⟨#[]⟩

def newsB (g : List Bl) : Bool := (List.range g.length).all fun k => newB (names (g.take k)) (nthName g k)
def nextsB (g : List Bl) : Bool := g.all fun b => nextB b.2 (names g)
def validB (g : List Bl) : Bool := decide (1 ≤ g.length) && decide (g.length ≤ 26) && newsB g && nextsB g

theorem nthName_at {g : List Bl} {k : Nat} (h : k < g.length) : nthName g k = g[k].1 := by
  unfold nthName
  rw [List.getD_eq_getElem?_getD, List.getElem?_map, List.getElem?_eq_getElem h]; rfl

theorem newsB_iff {g : List Bl} : newsB g = true ↔ ∀ k (h : k < g.length), newB (names (g.take k)) g[k].1 = true := by
  unfold newsB
  rw [List.all_eq_true]
  constructor
  · intro h k hk
    have := h k (List.mem_range.2 hk)
    rwa [nthName_at hk] at this
  · intro h k hk
    have hk' := List.mem_range.1 hk
    rw [nthName_at hk']
    exact h k hk'

theorem nextsB_iff {g : List Bl} : nextsB g = true ↔ ∀ k (h : k < g.length), nextB g[k].2 (names g) = true := by
  unfold nextsB
  rw [List.all_eq_true]
  constructor
  · intro h k hk
    exact h _ (List.getElem_mem _)
  · intro h b hb
    obtain ⟨k, hk, rfl⟩ := List.getElem_of_mem hb
    exact h k hk

theorem valid_iff {g : List Bl} : validB g = true ↔ 1 ≤ g.length ∧ g.length ≤ 26 ∧ newsB g = true ∧ nextsB g = true := by
  unfold validB; simp [and_assoc]

theorem valid_no {g : List Bl} (h : ¬ (1 ≤ g.length ∧ g.length ≤ 26 ∧ newsB g = true ∧ nextsB g = true)) : validB g = false :=
  Bool.eq_false_iff.2 fun e => h (valid_iff.1 e)

theorem valid_no_new {g : List Bl} {k : Nat} (hk : k < g.length) (h : newB (names (g.take k)) g[k].1 = false) : validB g = false :=
  valid_no fun e => by have := newsB_iff.1 e.2.2.1 k hk; rw [h] at this; cases this

theorem valid_no_next {g : List Bl} {k : Nat} (hk : k < g.length) (h : nextB g[k].2 (names g) = false) : validB g = false :=
  valid_no fun e => by have := nextsB_iff.1 e.2.2.2 k hk; rw [h] at this; cases this

theorem one_of_name {s : ByteArray} (h : nameB s = true) : ∃ c, s = ⟨#[c]⟩ ∧ letB c = true := by
  unfold nameB at h
  simp only [Bool.and_eq_true, beq_iff_eq] at h
  obtain ⟨h1, h2⟩ := h
  have hl : s.data.toList.length = 1 := by simpa using h1
  obtain ⟨c, hc⟩ := List.length_eq_one_iff.1 hl
  refine ⟨c, ba_ext (by rw [hc]), ?_⟩
  rw [hc] at h2
  simpa using h2

theorem newB_one {pre : ByteArray} {c : UInt8} (h : letB c = true) : newB pre ⟨#[c]⟩ = !(pre.data.toList.contains c) := by
  unfold newB nameB
  have e1 : ((⟨#[c]⟩ : ByteArray).size == 1) = true := rfl
  have e2 : (⟨#[c]⟩ : ByteArray).data.toList.getD 0 0 = c := rfl
  rw [e1, e2, h]; rfl

theorem contains_idx {l : List UInt8} {c : UInt8} : decide (0 ≤ Lib.indexByte l c) = l.contains c := by
  rw [Bool.eq_iff_iff, decide_eq_true_iff, idx_mem, List.contains_iff_mem]

theorem nextB_iff {next nm : ByteArray} : nextB next nm = true ↔ next.size ≤ 2 ∧ (∀ k (h : k < next.size), 0 ≤ Lib.indexByte nm.data.toList (next[k]'h)) ∧ (∀ h : next.size = 2, next[0]'(by omega) ≠ next[1]'(by omega)) := by
  unfold nextB
  simp only [Bool.and_eq_true, decide_eq_true_iff, Bool.not_eq_true', List.all_eq_true, and_assoc]
  refine and_congr_right fun h2 => and_congr ?_ ?_
  · constructor
    · intro h k hk
      have hm : next[k]'hk ∈ next.data.toList := by
        have := byte_at next k hk
        exact List.mem_of_getElem? this
      rw [idx_mem]
      simpa using h _ hm
    · intro h c hc
      obtain ⟨k, hk, rfl⟩ := List.getElem_of_mem hc
      have hk' : k < next.size := by simpa using hk
      have := h k hk'
      rw [idx_mem] at this
      rw [List.contains_iff_mem, Array.getElem_toList]
      exact this
  · constructor
    · intro h hs e
      have b0 := byte_at next 0 (by omega)
      have b1 := byte_at next 1 (by omega)
      rw [List.getD_eq_getElem?_getD, List.getD_eq_getElem?_getD, b0, b1] at h
      simp [hs, e] at h
    · intro h
      by_cases hs : next.size = 2
      · have b0 := byte_at next 0 (by omega)
        have b1 := byte_at next 1 (by omega)
        rw [List.getD_eq_getElem?_getD, List.getD_eq_getElem?_getD, b0, b1]
        have := h hs
        simp [hs, this]
      · simp [hs]

theorem mem_extract {t : ByteArray} {j : Nat} {c : UInt8} (h : j < t.size) : c ∈ (t.extract 0 j).data.toList ↔ ∃ i, ∃ h : i < j, t[i]'(by omega) = c := by
  rw [← Lib.toList_data, Lib.extract_toList]
  simp only [List.drop_zero, Nat.sub_zero]
  constructor
  · intro hm
    obtain ⟨i, hi, e⟩ := List.getElem_of_mem hm
    have hi' : i < j := by simp at hi; omega
    refine ⟨i, hi', ?_⟩
    have := byte_at t i (by omega)
    rw [List.getElem_take] at e
    rw [← e]
    have h2 : t.data.toList[i]? = some (t.data.toList[i]'(by simp at hi; simp; omega)) := List.getElem?_eq_getElem _
    rw [h2] at this
    exact (Option.some.inj this).symm
  · rintro ⟨i, hi, rfl⟩
    have := byte_at t i (by omega)
    have h2 : (t.data.toList.take j)[i]? = some (t[i]'(by omega)) := by rw [List.getElem?_take_of_lt hi]; exact this
    exact List.mem_of_getElem? h2

/-- What the model's inner loop asks at one place. -/
def placeB (t nm : ByteArray) (j : Nat) (h : j < t.size) : Bool := decide (0 ≤ Lib.indexByte nm.data.toList (t[j]'h)) && decide (Lib.indexByte (t.extract 0 j).data.toList (t[j]'h) < 0)

theorem nextB_places {t nm : ByteArray} (h2 : t.size ≤ 2) : nextB t nm = true ↔ ∀ j (h : j < t.size), placeB t nm j h = true := by
  rw [nextB_iff]
  unfold placeB
  simp only [Bool.and_eq_true, decide_eq_true_iff]
  constructor
  · rintro ⟨_, ha, hd⟩ j h
    refine ⟨ha j h, ?_⟩
    rw [idx_neg, mem_extract h]
    rintro ⟨i, hi, e⟩
    have hj : j = 1 := by omega
    subst hj
    have hi0 : i = 0 := by omega
    subst hi0
    exact hd (by omega) e
  · intro h
    refine ⟨h2, fun k hk => (h k hk).1, fun hs e => ?_⟩
    have := (h 1 (by omega)).2
    rw [idx_neg, mem_extract (by omega)] at this
    exact this ⟨0, by omega, e⟩

theorem nextB_no_place {t nm : ByteArray} {j : Nat} (h2 : t.size ≤ 2) (h : j < t.size) (hp : placeB t nm j h = false) : nextB t nm = false :=
  Bool.eq_false_iff.2 fun e => by have := (nextB_places h2).1 e j h; rw [hp] at this; cases this

theorem nextB_long {t nm : ByteArray} (h : ¬ t.size ≤ 2) : nextB t nm = false := Bool.eq_false_iff.2 fun e => h (nextB_iff.1 e).1

end Go.Proofs.YtdpjdhllaokbfaaGreat
