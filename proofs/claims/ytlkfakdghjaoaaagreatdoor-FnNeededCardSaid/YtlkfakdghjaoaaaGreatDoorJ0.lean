import Derived.Lib.Bytealg
import Derived.Below
import Derived.Laws.OwnMore
import Derived.Laws.MakeOwn
import Derived.Deep.Draws
import Derived.Laws.Rows
import Derived.Lib.QuietBelow
import Derived.Test.YtlkfakdghjaoaaaGreatDoorProg
import Derived.WalkKit
import Derived.WalkSpells
import Derived.Lib.Hide
import Derived.Deep.QuietTactic
import Derived.BigQuiet
import Derived.Deep.LoopGhost
import Derived.KernelRfl
import Derived.Conc.Holds
import Derived.Test.YtlkfakdghjaoaaaGreatDoorRows
import Derived.SevenTiedAt
set_option maxHeartbeats 400000
namespace Go.Proofs.YtlkfakdghjaoaaaGreatDoor
theorem GR {p : Prop} (h : p) : RowKit.Hid p := Lib.hid h
theorem Az {l : List UInt8} {c : UInt8} : ∀ {k : Nat}, (∀ j, j < k → l[j]? ≠ some c) → l[k]? = some c → Lib.indexByte l c = k := by
 induction l with
 | nil => intro k _ h; simp at h
 | cons b l ih =>
  intro k hk h
  cases k with
  | zero =>
   have : b = c := by simpa using h
   subst this
   simp [Lib.indexByte]
  | succ k =>
   have hb : b ≠ c := fun e => hk 0 (by omega) (by simp [e])
   have h1 : l[k]? = some c := by simpa using h
   have h2 := ih (k := k) (fun j hj => by simpa using hk (j + 1) (by omega)) h1
   have h3 : (b == c) = false := by simpa using hb
   rw [Lib.indexByte, h3, h2]
   simp
theorem uI {l : List UInt8} {c : UInt8} (h : ∀ j, j < l.length → l[j]? ≠ some c) : Lib.indexByte l c = -1 := by
 induction l with
 | nil => rfl
 | cons b l ih =>
  have hb : b ≠ c := fun e => h 0 (by simp) (by simp [e])
  have h3 : (b == c) = false := by simpa using hb
  have h2 := ih (fun j hj => by simpa using h (j + 1) (by simpa using hj))
  rw [Lib.indexByte, h3, h2]
  rfl
theorem eT {l : List UInt8} {c : UInt8} : 0 ≤ Lib.indexByte l c ↔ c ∈ l := by
 induction l with
 | nil => simp [Lib.indexByte]
 | cons b l ih =>
  by_cases hb : b = c
  ·subst hb; simp [Lib.indexByte]
  ·have h3 : (b == c) = false := by simpa using hb
   have hm := Lib.indexByte_ge l c
   rw [Lib.indexByte, h3]
   simp only [Bool.false_eq_true, if_false, List.mem_cons]
   by_cases h1 : Lib.indexByte l c = -1
   ·rw [h1] at ih
    simp [h1, Ne.symm hb]
    have : ¬ c ∈ l := fun h => by have := ih.2 h; omega
    exact this
   ·have h2 : (Lib.indexByte l c == -1) = false := by simpa using h1
    simp only [h2, Bool.false_eq_true, if_false, Ne.symm hb, false_or]
    rw [← ih]; omega
theorem rL {l : List UInt8} {c : UInt8} : Lib.indexByte l c < 0 ↔ c ∉ l := by
 rw [← eT]; omega
end Go.Proofs.YtlkfakdghjaoaaaGreatDoor
namespace Go.Proofs.YtlkfakdghjaoaaaGreatDoor
open Go.RowKit
abbrev Bl := ByteArray × ByteArray
def Gr (w : World) (A : Option Addr) (g : List Bl) : Prop :=
 0 < g.length → ∃ b off, A = some ⟨b, off, none⟩ ∧ b < w.heap.size ∧ ∀ k (h : k < g.length), w.cell? ⟨b, off + k * 2, none⟩ = some (.string g[k].1) ∧ w.cell? ⟨b, off + k * 2 + 1, none⟩ = some (.string g[k].2)
theorem Gr.keep {w w' : World} {A : Option Addr} {g : List Bl} (h : Gr w A g) (hs : w.heap.size ≤ w'.heap.size) (hk : ∀ b o, b < w.heap.size → w'.cell? ⟨b, o, none⟩ = w.cell? ⟨b, o, none⟩) : Gr w' A g := by
 intro hn
 obtain ⟨b, off, rfl, hb, hc⟩ := h hn
 exact ⟨b, off, rfl, by omega, fun k hkk => ⟨(hk _ _ hb).trans (hc k hkk).1, (hk _ _ hb).trans (hc k hkk).2⟩⟩
theorem Gr.below {w w' : World} {A : Option Addr} {g : List Bl} (h : Gr w A g) (hb : Below w.heap.size w w') : Gr w' A g :=
 h.keep hb.size fun b o hlt => hb.cell (p := ⟨b, o, none⟩) hlt
theorem Gr.nil (w : World) (A : Option Addr) : Gr w A [] := fun h => absurd h (by simp)
theorem Gr.take {w : World} {A : Option Addr} {g : List Bl} (h : Gr w A g) (k : Nat) : Gr w A (g.take k) := by
 intro hn
 have hl : (g.take k).length ≤ g.length := by simp; omega
 obtain ⟨b, off, rfl, hb, hc⟩ := h (by omega)
 refine ⟨b, off, rfl, hb, fun j hj => ?_⟩
 have hj' : j < g.length := by omega
 have := hc j hj'
 simpa using this
def aO : List Bl → Nat
 | [] => 0
 | b :: g => b.1.size + b.2.size + aO g
theorem g8 (g h : List Bl) : aO (g ++ h) = aO g + aO h := by
 induction g with
 | nil => simp [aO]
 | cons b g ih => simp [aO, ih]; omega
theorem g9 (g : List Bl) (k : Nat) (h : k < g.length) : g.take (k + 1) = g.take k ++ [g[k]] := by
 rw [List.take_succ_eq_append_getElem h]
theorem CN (g : List Bl) (k : Nat) (h : k < g.length) : aO (g.take (k + 1)) = aO (g.take k) + (g[k].1.size + g[k].2.size) := by
 rw [g9 g k h, g8]; simp [aO]
theorem eJ (g : List Bl) (k : Nat) : aO (g.take k) ≤ aO g := by
 have := g8 (g.take k) (g.drop k)
 rw [List.take_append_drop] at this
 omega
theorem jM (g : List Bl) (k : Nat) (h : k < g.length) : g[k].1.size + g[k].2.size ≤ aO g := by
 have := CN g k h
 have := eJ g (k + 1)
 omega
def names : List Bl → ByteArray
 | [] => ⟨#[]⟩
 | b :: g => b.1 ++ names g
theorem bg {a b : ByteArray} (h : a.data.toList = b.data.toList) : a = b := by
 cases a; cases b; simp at h; simpa using h
theorem dy (a b : ByteArray) : (a ++ b).data.toList = a.data.toList ++ b.data.toList := by simp
theorem dh (a b c : ByteArray) : a ++ b ++ c = a ++ (b ++ c) := by
 apply bg; simp
theorem fK (a : ByteArray) : (⟨#[]⟩ : ByteArray) ++ a = a := by apply bg; simp
theorem cC (a : ByteArray) : a ++ (⟨#[]⟩ : ByteArray) = a := by apply bg; simp
theorem jU (g h : List Bl) : names (g ++ h) = names g ++ names h := by
 induction g with
 | nil => exact (fK _).symm
 | cons b g ih => simp only [List.cons_append, names, ih, dh]
theorem qd (g : List Bl) (k : Nat) (h : k < g.length) : names (g.take (k + 1)) = names (g.take k) ++ g[k].1 := by
 rw [g9 g k h, jU]; simp only [names, cC]
theorem gG (g : List Bl) : (names g).size ≤ aO g := by
 induction g with
 | nil => exact Nat.le_refl 0
 | cons b g ih => simp [names, aO, ByteArray.size_append]; omega
def Blk (w : World) (g : Nat) (t : TypeId) (cs : Array Value) : Prop := w.heap[g]? = some (.cells cs t (0, 0))
section
variable {w w' : World} {g : Nat} {t : TypeId} {cs : Array Value}
theorem Blk.lt (h : Blk w g t cs) : g < w.heap.size := by
 rcases Nat.lt_or_ge g w.heap.size with hlt | hge
 ·exact hlt
 ·unfold Blk at h; rw [Array.getElem?_eq_none hge] at h; cases h
theorem Blk.cell (h : Blk w g t cs) (i : Nat) : w.cell? ⟨g, i, none⟩ = cs[i]? := cell_of_row w g i cs t (0, 0) h
theorem Blk.some_cell (h : Blk w g t cs) {i : Nat} (hi : i < cs.size) : ∃ v, w.cell? ⟨g, i, none⟩ = some v := ⟨cs[i], by rw [h.cell, Array.getElem?_eq_getElem hi]⟩
theorem Blk.frozen (h : Blk w g t cs) (i : Nat) : w.frozen? ⟨g, i, none⟩ = false := by
 unfold Blk at h
 simp [World.frozen?, h]
theorem Blk.new (w : World) (t : TypeId) (cs : Array Value) : Blk (w.alloc (.cells cs t)) w.heap.size t cs := heap_alloc_new w _
theorem Blk.drew (h : Blk w g t cs) : Blk w.drew g t cs := h
theorem Blk.alloc (h : Blk w g t cs) (o : Obj) : Blk (w.alloc o) g t cs := (Below.heap_alloc w o g h.lt).trans h
theorem Blk.set_ (h : Blk w g t cs) (i : Nat) (u : Value) : Blk (w.setCell ⟨g, i, none⟩ u) g t (cs.setIfInBounds i u) := by
 unfold Blk at h ⊢
 simp [World.setCell, Array.getElem?_modify, h]
theorem Blk.below {B : Nat} (h : Blk w g t cs) (hb : Below B w w') (hg : g < B) : Blk w' g t cs := (hb.block g hg).trans h
end
def OwnGr (w : World) (B : Nat) (g : List Bl) : Prop := ∃ cs t, Blk w B t cs ∧ ∀ k (h : k < g.length), cs[k * 2]? = some (.string g[k].1) ∧ cs[k * 2 + 1]? = some (.string g[k].2)
theorem OwnGr.gr {w : World} {B : Nat} {g : List Bl} (h : OwnGr w B g) : Gr w (some ⟨B, 0, none⟩) g := by
 obtain ⟨cs, t, hb, hc⟩ := h
 intro _
 refine ⟨B, 0, rfl, hb.lt, fun k hk => ?_⟩
 rw [hb.cell, hb.cell, Nat.zero_add]
 exact hc k hk
end Go.Proofs.YtlkfakdghjaoaaaGreatDoor
namespace Go.Proofs.YtlkfakdghjaoaaaGreatDoor
open Go.RowKit
theorem bz {k : IntKind} {a b : Int} (h : a = b) : Ending.returned (.int k a) = .returned (.int k b) := by rw [h]
theorem aQ {a b : Bool} (h : a = b) : Ending.returned (.bool a) = .returned (.bool b) := by rw [h]
theorem dI {a b : UInt8} (h : a ≠ b) : ((a.toNat : Int) == (b.toNat : Int)) = false := by
 have : a.toNat ≠ b.toNat := fun e => h (UInt8.toNat_inj.1 e)
 simp; omega
theorem aF (s : ByteArray) (k : Nat) (h : k < s.size) : s.data.toList[k]? = some s[k] := by
 have h' : k < s.data.toList.length := by simpa using h
 rw [List.getElem?_eq_getElem h']; rfl
theorem bf (s : ByteArray) (c : UInt8) (w : World) (hs : s.size ≤ 4611686018427387904) :
  Calls Tryz.prog 114 #[.string s, .int .u8 c.toNat] w fun e w' => e = .returned (.int .i64 (Lib.indexByte s.data.toList c)) ∧ w = w' := by
 go_enter Tryz.func114, Tryz.ntmps114
 go_wp2
 go_loop [5] (fun i => ∃ k : Nat, k ≤ s.size ∧ i = .int .i64 k ∧ Hid (∀ j, j < k → s.data.toList[j]? ≠ some c)) (fun i => s.size - (intOf i).toNat)
 case atStart => exact ⟨0, Nat.zero_le _, rfl, fun j hj => absurd hj (by omega)⟩
 case round =>
  obtain ⟨k, hk, rfl, HK⟩ := hrel
  by_cases hlt : k < s.size
  ·by_cases hc : s[k] = c
   ·have hcc : (s[k].toNat : Int) = (c.toNat : Int) := by rw [hc]
    have HH := GR hc
    clear hc
    go_wp2
    go_ret
    exact ⟨bz (Az HK.out (by rw [aF s k hlt, HH.out])).symm, rfl⟩
   ·have hcc := dI hc
    have HH := GR hc
    clear hc
    go_wp2
    go_round
    case rel =>
     refine ⟨k + 1, by omega, by go_num, fun j hj => ?_⟩
     rcases Nat.lt_succ_iff_lt_or_eq.1 hj with h | rfl
     ·exact HK.out j h
     ·rw [aF s j hlt]; exact fun e => HH.out (Option.some.inj e)
    case measure => simp [intOf]; omega
  ·go_wp2
   go_ret
   exact ⟨bz (uI fun j hj => HK.out j (by have : j < s.size := by simpa using hj
                                          omega)).symm, rfl⟩
def lA (n lo hi : Int) : Bool := decide (lo ≤ n) && decide (n ≤ hi)
theorem qe (n lo hi : Int) (w : World) :
  Calls Tryz.prog 162 #[.int .i64 n, .int .i64 lo, .int .i64 hi] w fun e w' => e = .returned (.bool (lA n lo hi)) ∧ w = w' := by
 by_cases h1 : lo ≤ n <;> by_cases h2 : n ≤ hi
 all_goals
  have b1 : lA n lo hi = lA n lo hi := rfl
  conv at b1 => rhs; unfold lA; simp only [h1, h2]
  have HH := GR b1
  clear b1
  go_enter Tryz.func162, Tryz.ntmps162
  go_wp2
  go_ret
  exact ⟨aQ (by rw [HH.out]; first | rfl | simp [h1, h2]), rfl⟩
def a7 (c : UInt8) : Bool := decide (65 ≤ c.toNat) && decide (c.toNat ≤ 90)
theorem cr (c : UInt8) (w : World) :
  Calls Tryz.prog 161 #[.int .u8 c.toNat] w fun e w' => e = .returned (.bool (a7 c)) ∧ w = w' := by
 have hc : c.toNat < 256 := UInt8.toNat_lt c
 go_enter Tryz.func161, Tryz.ntmps161
 go_wp2_with (go_at_call 162; refine (qe _ _ _ _).mono ?_; rintro e w' ⟨rfl, rfl⟩)
 go_ret
 refine ⟨aQ ?_, rfl⟩
 unfold lA a7
 congr 1 <;> (apply decide_eq_decide.2; omega)
def eQ (s : ByteArray) : Bool := s.size == 1 && a7 (s.data.toList.getD 0 0)
theorem hU (s : ByteArray) (w : World) :
  Calls Tryz.prog 105 #[.string s] w fun e w' => e = .returned (.bool (eQ s)) ∧ w = w' := by
 by_cases h1 : s.size = 1
 ·have h4 : 0 < s.size := by omega
  have hb : eQ s = a7 (s[0]'h4) := by
   unfold eQ
   have := aF s 0 (by omega)
   rw [List.getD_eq_getElem?_getD, this]
   simp [h1]
  have h1' : ((s.size : Int) == 1) = true := by rw [h1]; rfl
  have HB := GR hb
  have H1 := GR h1
  clear hb h1
  have e1 : decide (65 ≤ (s[0]'h4).toNat) = decide (65 ≤ ((s[0]'h4).toNat : Int)) := by apply decide_eq_decide.2; omega
  have e2 : decide ((s[0]'h4).toNat ≤ 90) = decide (((s[0]'h4).toNat : Int) ≤ 90) := by apply decide_eq_decide.2; omega
  have E1 := GR e1
  have E2 := GR e2
  clear e1 e2
  have h5 : (65 ≤ ((s[0]'h4).toNat : Int) ∧ ((s[0]'h4).toNat : Int) ≤ 90) ∨ (65 ≤ ((s[0]'h4).toNat : Int) ∧ ¬ ((s[0]'h4).toNat : Int) ≤ 90) ∨ (¬ 65 ≤ ((s[0]'h4).toNat : Int) ∧ ((s[0]'h4).toNat : Int) ≤ 90) := by omega
  rcases h5 with ⟨h2, h3⟩ | ⟨h2, h3⟩ | ⟨h2, h3⟩
  all_goals
   go_enter Tryz.func105, Tryz.ntmps105
   go_wp2
   go_ret
   refine ⟨aQ ?_, rfl⟩
   have e3 : a7 (s[0]'h4) = (decide (65 ≤ ((s[0]'h4).toNat : Int)) && decide (((s[0]'h4).toNat : Int) ≤ 90)) := by
    rw [← E1.out, ← E2.out]; rfl
   rw [HB.out, e3]
   simp_all
 ·have hb : eQ s = false := by unfold eQ; simp [h1]
  have h1' : ((s.size : Int) == 1) = false := by simp; omega
  have HB := GR hb
  clear hb h1
  go_enter Tryz.func105, Tryz.ntmps105
  go_wp2
  go_ret
  exact ⟨aQ HB.out.symm, rfl⟩
abbrev blk (s t : ByteArray) : Value := .agg #[.string s, .string t]
end Go.Proofs.YtlkfakdghjaoaaaGreatDoor
namespace Go.Proofs.YtlkfakdghjaoaaaGreatDoor
open Go.RowKit Go.Sort
theorem af {w w1 w2 : World} (h : Below w.heap.size w w1) (h2 : Below w1.heap.size w1 w2) : Below w.heap.size w w2 :=
 h.trans (h2.mono h.size)
theorem cO {a b : ByteArray} (h : a = b) : Ending.returned (.string a) = .returned (.string b) := by rw [h]
theorem gn {w : World} {A : Option Addr} {g : List Bl} (hg : Gr w A g) {k : Nat} (h : k < g.length) :
  ∃ b off s t, A = some ⟨b, off, none⟩ ∧ b < w.heap.size ∧ w.cell? ⟨b, off + k * 2, none⟩ = some (.string s) ∧ w.cell? ⟨b, off + k * 2 + 1, none⟩ = some (.string t) ∧ g[k].1 = s ∧ g[k].2 = t := by
 obtain ⟨b, off, e, hb, hc⟩ := hg (by omega)
 exact ⟨b, off, g[k].1, g[k].2, e, hb, (hc k h).1, (hc k h).2, rfl, rfl⟩
theorem sz (A : Option Addr) (cap : Nat) (g : List Bl) (w : World) (hg : Gr w A g) (hn : g.length ≤ 1048576) (ht : aO g ≤ 1048576) :
  Calls Tryz.prog 160 #[.slice A g.length cap] w fun e w' => e = .returned (.string (names g)) ∧ Below w.heap.size w w' := by
 go_enter Tryz.func160, Tryz.ntmps160
 go_wp2
 go_loopw [3, 8] (fun s i wr => ∃ k : Nat, k ≤ g.length ∧ i = .int .i64 k ∧ s = .string (names (g.take k)) ∧ Below w.heap.size w wr) (fun _ i _ => g.length - (intOf i).toNat)
 case atStart => exact ⟨0, Nat.zero_le _, rfl, rfl, Below.refl _ _⟩
 case round =>
  obtain ⟨k, hk, rfl, rfl, hB⟩ := hrel
  have hs := gG (g.take k)
  have hs2 := eJ g k
  obtain ⟨m, hm⟩ : ∃ m, m = names (g.take k) := ⟨_, rfl⟩
  have HM := GR hm
  rw [← hm] at hs ⊢
  clear hm
  by_cases hlt : k < g.length
  ·obtain ⟨b, off, s, t, rfl, hb, hc0, hc1, he, he2⟩ := gn (hg.below hB) hlt
   have hs3 := jM g k hlt
   rw [he, he2] at hs3
   have HN := GR (qd g k hlt)
   have HE := GR he
   clear he he2
   go_wp2
   go_roundw
   case rel => exact ⟨k + 1, by omega, by go_num, by rw [HN.out, HE.out, ← HM.out], hB.alloc hB.size _⟩
   case measure => simp [intOf]; omega
  ·go_wp2
   go_ret
   exact ⟨cO (by rw [HM.out, List.take_of_length_le (by omega)]), hB⟩
theorem lY : (Tryz.prog.info? 45).map (fun i => (i.zero, i.size, i.bytes)) = some (some (.agg #[.string ⟨#[]⟩, .string ⟨#[]⟩]), 2, 32) := by kernel_rfl
def Filled (cs : Array Value) (g : List Bl) (k : Nat) : Prop := cs.size = g.length * 2 ∧ ∀ j (h : j < g.length), j < k → cs[j * 2]? = some (.string g[j].1) ∧ cs[j * 2 + 1]? = some (.string g[j].2)
theorem Filled.step {cs : Array Value} {g : List Bl} {k : Nat} {s t : ByteArray} (h : Filled cs g k) (hk : k < g.length) (e1 : g[k].1 = s) (e2 : g[k].2 = t) :
  Filled ((cs.setIfInBounds (k * 2) (.string s)).setIfInBounds (k * 2 + 1) (.string t)) g (k + 1) := by
 refine ⟨by simpa using h.1, fun j hj hjk => ?_⟩
 have hsz := h.1
 simp only [Array.getElem?_setIfInBounds, Array.size_setIfInBounds]
 rcases Nat.lt_succ_iff_lt_or_eq.1 hjk with hlt | rfl
 ·rw [if_neg (by omega), if_neg (by omega), if_neg (by omega), if_neg (by omega)]
  exact h.2 j hj hlt
 ·constructor
  ·rw [if_neg (by omega), if_pos rfl, if_pos (by omega), e1]
  ·rw [if_pos rfl, if_pos (by omega), e2]
theorem dS {a b : ByteArray} : (a.toList == b.toList) = true ↔ a = b := by
 constructor
 ·intro h
  have h1 : a.toList = b.toList := by simpa using h
  rw [Lib.toList_data, Lib.toList_data] at h1
  exact bg h1
 ·rintro rfl; simp
end Go.Proofs.YtlkfakdghjaoaaaGreatDoor
namespace Go.Proofs.YtlkfakdghjaoaaaGreatDoor
def dJ (next nm : ByteArray) : Bool :=
 decide (next.size ≤ 2) && (next.data.toList.all fun c => nm.data.toList.contains c) && !(next.size == 2 && next.data.toList.getD 0 0 == next.data.toList.getD 1 0)
def iz (pre s : ByteArray) : Bool := eQ s && !(pre.data.toList.contains (s.data.toList.getD 0 0))
def ay (g : List Bl) (k : Nat) : ByteArray := (g.map (·.1)).getD k ⟨#[]⟩
def lZ (g : List Bl) : Bool := (List.range g.length).all fun k => iz (names (g.take k)) (ay g k)
def lB (g : List Bl) : Bool := g.all fun b => dJ b.2 (names g)
def aa (g : List Bl) : Bool := decide (1 ≤ g.length) && decide (g.length ≤ 26) && lZ g && lB g
theorem al {g : List Bl} {k : Nat} (h : k < g.length) : ay g k = g[k].1 := by
 unfold ay
 rw [List.getD_eq_getElem?_getD, List.getElem?_map, List.getElem?_eq_getElem h]; rfl
theorem i7 {g : List Bl} : lZ g = true ↔ ∀ k (h : k < g.length), iz (names (g.take k)) g[k].1 = true := by
 unfold lZ
 rw [List.all_eq_true]
 constructor
 ·intro h k hk
  have := h k (List.mem_range.2 hk)
  rwa [al hk] at this
 ·intro h k hk
  have hk' := List.mem_range.1 hk
  rw [al hk']
  exact h k hk'
theorem cR {g : List Bl} : lB g = true ↔ ∀ k (h : k < g.length), dJ g[k].2 (names g) = true := by
 unfold lB
 rw [List.all_eq_true]
 constructor
 ·intro h k hk
  exact h _ (List.getElem_mem _)
 ·intro h b hb
  obtain ⟨k, hk, rfl⟩ := List.getElem_of_mem hb
  exact h k hk
theorem aj {g : List Bl} : aa g = true ↔ 1 ≤ g.length ∧ g.length ≤ 26 ∧ lZ g = true ∧ lB g = true := by
 unfold aa; simp [and_assoc]
theorem jV {g : List Bl} (h : ¬ (1 ≤ g.length ∧ g.length ≤ 26 ∧ lZ g = true ∧ lB g = true)) : aa g = false :=
 Bool.eq_false_iff.2 fun e => h (aj.1 e)
theorem nn {g : List Bl} {k : Nat} (hk : k < g.length) (h : iz (names (g.take k)) g[k].1 = false) : aa g = false :=
 jV fun e => by have := i7.1 e.2.2.1 k hk; rw [h] at this; cases this
theorem uc {g : List Bl} {k : Nat} (hk : k < g.length) (h : dJ g[k].2 (names g) = false) : aa g = false :=
 jV fun e => by have := cR.1 e.2.2.2 k hk; rw [h] at this; cases this
theorem oS {s : ByteArray} (h : eQ s = true) : ∃ c, s = ⟨#[c]⟩ ∧ a7 c = true := by
 unfold eQ at h
 simp only [Bool.and_eq_true, beq_iff_eq] at h
 obtain ⟨h1, h2⟩ := h
 have hl : s.data.toList.length = 1 := by simpa using h1
 obtain ⟨c, hc⟩ := List.length_eq_one_iff.1 hl
 refine ⟨c, bg (by rw [hc]), ?_⟩
 rw [hc] at h2
 simpa using h2
theorem l4 {pre : ByteArray} {c : UInt8} (h : a7 c = true) : iz pre ⟨#[c]⟩ = !(pre.data.toList.contains c) := by
 unfold iz eQ
 have e1 : ((⟨#[c]⟩ : ByteArray).size == 1) = true := rfl
 have e2 : (⟨#[c]⟩ : ByteArray).data.toList.getD 0 0 = c := rfl
 rw [e1, e2, h]; rfl
theorem jW {l : List UInt8} {c : UInt8} : decide (0 ≤ Lib.indexByte l c) = l.contains c := by
 rw [Bool.eq_iff_iff, decide_eq_true_iff, eT, List.contains_iff_mem]
theorem bG {next nm : ByteArray} : dJ next nm = true ↔ next.size ≤ 2 ∧ (∀ k (h : k < next.size), 0 ≤ Lib.indexByte nm.data.toList (next[k]'h)) ∧ (∀ h : next.size = 2, next[0]'(by omega) ≠ next[1]'(by omega)) := by
 unfold dJ
 simp only [Bool.and_eq_true, decide_eq_true_iff, Bool.not_eq_true', List.all_eq_true, and_assoc]
 refine and_congr_right fun h2 => and_congr ?_ ?_
 ·constructor
  ·intro h k hk
   have hm : next[k]'hk ∈ next.data.toList := by
    have := aF next k hk
    exact List.mem_of_getElem? this
   rw [eT]
   simpa using h _ hm
  ·intro h c hc
   obtain ⟨k, hk, rfl⟩ := List.getElem_of_mem hc
   have hk' : k < next.size := by simpa using hk
   have := h k hk'
   rw [eT] at this
   rw [List.contains_iff_mem, Array.getElem_toList]
   exact this
 ·constructor
  ·intro h hs e
   have b0 := aF next 0 (by omega)
   have b1 := aF next 1 (by omega)
   rw [List.getD_eq_getElem?_getD, List.getD_eq_getElem?_getD, b0, b1] at h
   simp [hs, e] at h
  ·intro h
   by_cases hs : next.size = 2
   ·have b0 := aF next 0 (by omega)
    have b1 := aF next 1 (by omega)
    rw [List.getD_eq_getElem?_getD, List.getD_eq_getElem?_getD, b0, b1]
    have := h hs
    simp [hs, this]
   ·simp [hs]
theorem oT {t : ByteArray} {j : Nat} {c : UInt8} (h : j < t.size) : c ∈ (t.extract 0 j).data.toList ↔ ∃ i, ∃ h : i < j, t[i]'(by omega) = c := by
 rw [← Lib.toList_data, Lib.extract_toList]
 simp only [List.drop_zero, Nat.sub_zero]
 constructor
 ·intro hm
  obtain ⟨i, hi, e⟩ := List.getElem_of_mem hm
  have hi' : i < j := by simp at hi; omega
  refine ⟨i, hi', ?_⟩
  have := aF t i (by omega)
  rw [List.getElem_take] at e
  rw [← e]
  have h2 : t.data.toList[i]? = some (t.data.toList[i]'(by simp at hi; simp; omega)) := List.getElem?_eq_getElem _
  rw [h2] at this
  exact (Option.some.inj this).symm
 ·rintro ⟨i, hi, rfl⟩
  have := aF t i (by omega)
  have h2 : (t.data.toList.take j)[i]? = some (t[i]'(by omega)) := by rw [List.getElem?_take_of_lt hi]; exact this
  exact List.mem_of_getElem? h2
def jX (t nm : ByteArray) (j : Nat) (h : j < t.size) : Bool := decide (0 ≤ Lib.indexByte nm.data.toList (t[j]'h)) && decide (Lib.indexByte (t.extract 0 j).data.toList (t[j]'h) < 0)
theorem np {t nm : ByteArray} (h2 : t.size ≤ 2) : dJ t nm = true ↔ ∀ j (h : j < t.size), jX t nm j h = true := by
 rw [bG]
 unfold jX
 simp only [Bool.and_eq_true, decide_eq_true_iff]
 constructor
 ·rintro ⟨_, ha, hd⟩ j h
  refine ⟨ha j h, ?_⟩
  rw [rL, oT h]
  rintro ⟨i, hi, e⟩
  have hj : j = 1 := by omega
  subst hj
  have hi0 : i = 0 := by omega
  subst hi0
  exact hd (by omega) e
 ·intro h
  refine ⟨h2, fun k hk => (h k hk).1, fun hs e => ?_⟩
  have := (h 1 (by omega)).2
  rw [rL, oT (by omega)] at this
  exact this ⟨0, by omega, e⟩
theorem lC {t nm : ByteArray} {j : Nat} (h2 : t.size ≤ 2) (h : j < t.size) (hp : jX t nm j h = false) : dJ t nm = false :=
 Bool.eq_false_iff.2 fun e => by have := (np h2).1 e j h; rw [hp] at this; cases this
theorem yZ {t nm : ByteArray} (h : ¬ t.size ≤ 2) : dJ t nm = false := Bool.eq_false_iff.2 fun e => h (bG.1 e).1
end Go.Proofs.YtlkfakdghjaoaaaGreatDoor

namespace Go.Proofs.YtlkfakdghjaoaaaGreatDoor
theorem jx {a : Assume} {C : Checked} {os : Os} {f : FuncId} {r : Reach} {Pre : World → Array Value → Prop} {Post : World → Array Value → Value → World → Prop}
  (h : ReturnsInHanded a C os f r Pre Post) : ReturnsInLeavingWide a C os f r Pre Post := fun enter =>
 ReturnsInOpen.mono (fun last _ _ ⟨q, ho, eh⟩ => ⟨ho, ⟨fun g hg => ⟨0, by
  have h1 := q.1
  unfold Machine.othersDone at h1
  have h2 := List.all_eq_true.1 h1 g hg
  show g.status = .finished
  revert h2
  cases g.status <;> first | (intro _; rfl) | (intro h2; exact absurd h2 (by first | decide | (intro h; cases h)))⟩, q.2⟩, eh⟩) (fun _ x => x) (h enter)
end Go.Proofs.YtlkfakdghjaoaaaGreatDoor

namespace Go.Proofs.YtlkfakdghjaoaaaGreatDoor
theorem t6 {Lk : Looks} {p : Pinned} {s : OpenSpec} {c : OpenClaim} {kinds : List LaidKind} {tests : Bool} {har : Bool × String} {lk : Bool} (hg : true = c.goesBy p.checked.prog) (hc : c.holds p s) (hw : c.wfByText s = true)
  (htie : c.laidByTextAt Lk p kinds tests) (hst : c.start = .entering) (hnb : c.noBlocks = false ∧ c.again = false) (hm : p.checked.prog.mainIs = some (har.1, har.2.toList)) (hn : (!har.1 && har.2.isEmpty && !lk) = false)
  (hl : ∀ f fn, p.checked.prog.funcNamed c.func = some f → p.checked.prog.funcs[f]? = some fn → lk = p.checked.prog.looks [] ∧ ∀ (j : Nat) t, fn.params[j]? = some t → p.checked.prog.wantsStandIn t = false) :
  Claim7.holds p (.plain s) { stood := { row := c, standIns := [], harness := har, looks := lk }, kinds := [], alts := [], goes := true, laidByText := true, laidKinds := kinds, laidTests := tests, laidLooks := Lk } := by
 have six : Claim7.isSixth { stood := { row := c, standIns := [], harness := har, looks := lk }, kinds := [] } = false := by
  simpa [Claim7.isSixth] using hn
 exact ⟨Claim7.tied_new_at Lk kinds tests (Claim7.new_of_sixth hc har lk hst hnb hm six hl) hw, (fun _ h => by cases h), htie, (fun h => by cases h), hg⟩
end Go.Proofs.YtlkfakdghjaoaaaGreatDoor
