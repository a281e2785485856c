import Derived.Test.YtgebedbankibmaaGreatDoorSpecReader
import Derived.Test.YtgebedbankibmaaGreatDoorItemsOf
import Derived.Test.YtgebedbankibmaaGreatDoorMRead
import Derived.Test.YtgebedbankibmaaGreatDoorIter
import Derived.RangeFuncBound
import Derived.RangeFuncCalls
import Derived.RangeFuncLeaves
import Derived.WalkKit
import Derived.OwnWalkIn
import Derived.TacticsInMore
import Derived.LoopNIn
import Derived.LoopIn
import Derived.Sort.LoopGhostIn
import Derived.IntWalk
import Derived.Test.YtgebedbankibmaaGreatDoorTextB
import Derived.Shelf.RegionOpen
import Derived.Shelf.Abstract
/-
  What stands within an item of the program's: the method behind the interface, for each kind; the items in order, step by step.
-/
namespace Go.Proofs.YtgebedbankibmaaGreatDoor
open Go.RowKit Go.Sort

theorem evB_one (l : List It) (k : Nat) : evB [l] k = evL l k := by rw [evB, evB, List.append_nil]
theorem evI_bod (i : It) (k : Nat) : evI i k = (k, i) :: evB (bodI i) (if frI i then k + 1 else k) := by
  cases i with
  | ask c l r => rw [evI]; show _ = _ :: evB [l, r] k; rw [evB, evB, evB, List.append_nil]
  | frame b l => rw [evI]; show _ = _ :: evB [l] (k + 1); rw [evB_one]
  | pick bs => rw [evI]; rfl
  | _ => rw [evI]; show _ = _ :: evB [] k; rw [evB]
theorem evL_append : ∀ (a b : List It) (k : Nat), evL (a ++ b) k = evL a k ++ evL b k
  | [], b, k => by rw [evL]; rfl
  | i :: a, b, k => by rw [List.cons_append, evL, evL, evL_append a b k, List.append_assoc]
theorem evB_append : ∀ (a b : List (List It)) (k : Nat), evB (a ++ b) k = evB a k ++ evB b k
  | [], b, k => by rw [evB]; rfl
  | i :: a, b, k => by rw [List.cons_append, evB, evB, evB_append a b k, List.append_assoc]
theorem okI_bod {i : It} {k : Nat} (h : OkI i k) : ∀ b ∈ bodI i, OkL b (if frI i then k + 1 else k) := by
  cases i with
  | ask c l r =>
    rw [OkI] at h
    intro b hb
    show OkL b k
    simp [bodI] at hb
    rcases hb with rfl | rfl
    · exact h.2.1
    · exact h.2.2
  | frame g l =>
    rw [OkI] at h
    intro b hb
    show OkL b (k + 1)
    simp [bodI] at hb
    rw [hb]; exact h.2
  | pick bs =>
    rw [OkI] at h
    have : ∀ (bs : List (List It)), OkB bs k → ∀ b ∈ bs, OkL b k := by
      intro bs
      induction bs with
      | nil => intro _ b hb; cases hb
      | cons a bs ih =>
        intro ho b hb
        rw [OkB] at ho
        rcases List.mem_cons.1 hb with rfl | hb
        · exact ho.1
        · exact ih ho.2 b hb
    exact this bs h.2.2
  | _ => intro b hb; cases hb
theorem okL_get {l : List It} {k : Nat} (h : OkL l k) : ∀ i ∈ l, OkI i k := by
  induction l with
  | nil => intro i hi; cases hi
  | cons a l ih =>
    intro i hi
    rw [OkL] at h
    rcases List.mem_cons.1 hi with rfl | hi
    · exact h.1
    · exact ih h.2 i hi
theorem okI_frame {i : It} {k : Nat} (h : OkI i k) (hf : frI i = true) : k < 9 := by
  cases i with
  | frame b l => rw [OkI] at h; exact h.1
  | _ => cases hf
theorem txI_pos (i : It) : 0 < (txI i).length := by obtain ⟨t, e⟩ := txI_hd i; rw [e]; simp
theorem txL_length : ∀ (l : List It), l.length ≤ (txL l).length
  | [] => by simp
  | i :: l => by rw [txL, List.length_append, List.length_cons]; have := txL_length l; have := txI_pos i; omega
theorem txL_mem : ∀ {l : List It} {i : It}, i ∈ l → (txI i).length ≤ (txL l).length
  | a :: l, i, h => by
    rw [txL, List.length_append]
    rcases List.mem_cons.1 h with rfl | h
    · omega
    · have := txL_mem h; omega
theorem txB_mem : ∀ {bs : List (List It)} {b : List It}, b ∈ bs → (txL b).length < (txB bs).length
  | a :: bs, b, h => by
    rw [txB]
    simp only [List.length_cons, List.length_append]
    rcases List.mem_cons.1 h with rfl | h
    · omega
    · have := txB_mem h; omega
theorem txB_length : ∀ (bs : List (List It)), bs.length ≤ (txB bs).length
  | [] => by simp
  | b :: bs => by rw [txB]; simp only [List.length_cons, List.length_append]; have := txB_length bs; omega
theorem bod_shorter {i : It} {b : List It} (h : b ∈ bodI i) : (txL b).length < (txI i).length := by
  cases i with
  | ask c l r =>
    rw [txI]
    simp [bodI] at h
    simp only [List.length_cons, List.length_append]
    rcases h with rfl | rfl <;> omega
  | frame g l => rw [txI]; simp [bodI] at h; subst h; simp; omega
  | pick bs => rw [txI]; have := txB_mem (show b ∈ bs from h); simp only [List.length_cons]; omega
  | _ => cases h
theorem bod_length (i : It) : (bodI i).length ≤ (txI i).length := by
  cases i with
  | ask c l r => rw [txI]; simp [bodI]
  | frame g l => rw [txI]; simp [bodI]
  | pick bs => rw [txI]; have := txB_length bs; show bs.length ≤ _; simp only [List.length_cons]; omega
  | _ => simp [bodI]

theorem AllAt.at_ {w : World} {P : Nat → Prop} : ∀ {l : List It} {vs : List Value} (_ : AllAt w P l vs) (k : Nat) (hk : k < l.length), ∃ v, vs[k]? = some v ∧ ItemAt w P l[k] v
  | i :: l, vs, h, 0, _ => by
    rw [AllAt] at h
    obtain ⟨v, t, rfl, h1, _⟩ := h
    exact ⟨v, rfl, h1⟩
  | i :: l, vs, h, k + 1, hk => by
    rw [AllAt] at h
    obtain ⟨v, t, rfl, _, h2⟩ := h
    obtain ⟨u, h3, h4⟩ := AllAt.at_ h2 k (by simpa using hk)
    exact ⟨u, by simpa using h3, h4⟩
theorem AllRows.at_ {w : World} {P : Nat → Prop} : ∀ {l : List (List It)} {vs : List Value} (_ : AllRows w P l vs) (k : Nat) (hk : k < l.length), ∃ v, vs[k]? = some v ∧ RowAt w P l[k] v
  | b :: l, vs, h, 0, _ => by
    rw [AllRows] at h
    obtain ⟨v, t, xs, rfl, h1, h2, _⟩ := h
    exact ⟨v, rfl, xs, h1, h2⟩
  | b :: l, vs, h, k + 1, hk => by
    rw [AllRows] at h
    obtain ⟨v, t, xs, rfl, _, _, h3⟩ := h
    obtain ⟨u, h4, h5⟩ := AllRows.at_ h3 k (by simpa using hk)
    exact ⟨u, by simpa using h4, h5⟩

/-- Blocks of one kind lie as they lay. -/
def Same (P : Nat → Prop) (w W : World) : Prop := w.heap.size ≤ W.heap.size ∧ ∀ b, b < w.heap.size → P b → W.heap[b]? = w.heap[b]?

/-- What the call of within hands back. -/
def WithinPost (w : World) (P : Nat → Prop) (i : It) (W : World) (e : Ending) (w' : World) : Prop :=
  ∃ A k vs, e = .returned (.slice A vs.length k) ∧ Reads w' (fun b => P b ∨ W.heap.size ≤ b) (.slice A vs.length k) vs ∧ AllRows w P (bodI i) vs ∧ Below W.heap.size W w'

/-- An item behind the interface: what it is of, how the method is found, what it is as a frame, what stands within it. -/
structure ItDisp (T : TypeId) (x : Value) (F : FuncId) (b0 : Bool) (bA : Option Addr) (bn bk : Nat) (i : It) (v : Value) : Prop where
  val : v = .iface T x
  look : ∀ w, (method 414 T x "loop.example/structuredjumps/impl.within").run Tryz.prog w = .ok (F, x) w
  enter : ∀ args w, (callFunc F args).run Tryz.prog w = .ok (.enter F args) w
  asrt : ∀ w, (Instr.typeAssert (.iface T x) 137 184 true).run Tryz.prog w = .ok (.tuple #[.agg #[.bool b0, .slice bA bn bk], .bool (frI i)]) w
  goes : ∀ w P W, ItemAt w P i v → Same P w W → Calls Tryz.prog F #[x] W (WithinPost w P i W)

theorem nil_within (w : World) (Q : Nat → Prop) : Reads w Q (.slice none ([] : List Value).length 0) [] := ⟨none, 0, rfl, fun h => absurd h (by simp)⟩
theorem same_stay {w W w' : World} {P : Nat → Prop} (h : Same P w W) (hb : Below W.heap.size W w') : Stay w P w' (fun b => P b ∨ W.heap.size ≤ b) :=
  ⟨Nat.le_trans h.1 hb.size, fun b hl hp => ⟨.inl hp, (hb.block b (by have := h.1; omega)).trans (h.2 b hl hp)⟩⟩

set_option maxRecDepth 100000 in
theorem disp_blk (c : UInt8) : ItDisp 189 (.agg #[.string (tb [c])]) 248 false none 0 0 (.blk c) (.iface 189 (.agg #[.string (tb [c])])) where
  val := rfl
  look := fun w => by kernel_rfl
  enter := enters_of Tryz.func248 (by kernel_rfl) rfl
  asrt := fun w => by kernel_rfl
  goes := fun w P W h hP => by
    go_enter Tryz.func248, Tryz.ntmps248
    go_wp2_with fail
    go_ret
    exact ⟨none, 0, [], rfl, nil_within _ _, AllRows.nil _ _, (Below.refl _ W).alloc (Nat.le_refl _) _⟩
set_option maxRecDepth 100000 in
theorem disp_stop : ItDisp 242 (.agg #[]) 256 false none 0 0 .stop (.iface 242 (.agg #[])) where
  val := rfl
  look := fun w => by kernel_rfl
  enter := enters_of Tryz.func256 (by kernel_rfl) rfl
  asrt := fun w => by kernel_rfl
  goes := fun w P W h hP => by
    go_enter Tryz.func256, Tryz.ntmps256
    go_wp2_with fail
    go_ret
    exact ⟨none, 0, [], rfl, nil_within _ _, AllRows.nil _ _, (Below.refl _ W).alloc (Nat.le_refl _) _⟩
set_option maxRecDepth 100000 in
theorem disp_leave (n : Nat) : ItDisp 193 (.agg #[.int .i64 n]) 250 false none 0 0 (.leave n) (.iface 193 (.agg #[.int .i64 n])) where
  val := rfl
  look := fun w => by kernel_rfl
  enter := enters_of Tryz.func250 (by kernel_rfl) rfl
  asrt := fun w => by kernel_rfl
  goes := fun w P W h hP => by
    go_enter Tryz.func250, Tryz.ntmps250
    go_wp2_with fail
    go_ret
    exact ⟨none, 0, [], rfl, nil_within _ _, AllRows.nil _ _, (Below.refl _ W).alloc (Nat.le_refl _) _⟩
set_option maxRecDepth 100000 in
theorem disp_set (n : Nat) : ItDisp 195 (.agg #[.int .i64 n]) 251 false none 0 0 (.set n) (.iface 195 (.agg #[.int .i64 n])) where
  val := rfl
  look := fun w => by kernel_rfl
  enter := enters_of Tryz.func251 (by kernel_rfl) rfl
  asrt := fun w => by kernel_rfl
  goes := fun w P W h hP => by
    go_enter Tryz.func251, Tryz.ntmps251
    go_wp2_with fail
    go_ret
    exact ⟨none, 0, [], rfl, nil_within _ _, AllRows.nil _ _, (Below.refl _ W).alloc (Nat.le_refl _) _⟩
set_option maxRecDepth 100000 in
theorem disp_pick (bs : List (List It)) (A : Option Addr) (n k : Nat) : ItDisp 197 (.agg #[.slice A n k]) 252 false none 0 0 (.pick bs) (.iface 197 (.agg #[.slice A n k])) where
  val := rfl
  look := fun w => by kernel_rfl
  enter := enters_of Tryz.func252 (by kernel_rfl) rfl
  asrt := fun w => by kernel_rfl
  goes := fun w P W h hP => by
    rw [ItemAt] at h
    obtain ⟨vb, xs, e, h1, h2⟩ := h
    have e2 : vb = .slice A n k := by
      injection e with _ e; injection e with e; injection e with e; injection e with e _; exact e.symm
    subst e2
    obtain ⟨A5, k5, e5, h5⟩ := id h1
    injection e5 with e5 e6 e7
    subst e6
    have HR := Lib.hid h1
    have HR2 : Hid (AllRows w P bs xs) := h2
    clear h1 h2 e e5 e7 h5
    go_enter Tryz.func252, Tryz.ntmps252
    go_wp2_with fail
    go_ret
    have hb := (Below.refl W.heap.size W).alloc (Nat.le_refl _) (.cells #[.slice A xs.length k] 197)
    exact ⟨_, _, xs, rfl, HR.out.stay (same_stay hP hb), HR2.out, hb⟩
set_option maxRecDepth 100000 in
theorem disp_frame (b : Bool) (l : List It) (A : Option Addr) (n k : Nat) : ItDisp 184 (.agg #[.bool b, .slice A n k]) 247 b A n k (.frame b l) (.iface 184 (.agg #[.bool b, .slice A n k])) where
  val := rfl
  look := fun w => by kernel_rfl
  enter := enters_of Tryz.func247 (by kernel_rfl) rfl
  asrt := fun w => by kernel_rfl
  goes := fun w P W h hP => by
    rw [ItemAt] at h
    obtain ⟨vl, xs, e, h1, h2⟩ := h
    have e2 : vl = .slice A n k := by
      injection e with _ e; injection e with e; injection e with e; injection e with _ e; injection e with e _; exact e.symm
    subst e2
    have HR : Hid (RowAt w P l (.slice A n k)) := ⟨xs, h1, h2⟩
    clear h1 h2 e
    go_enter Tryz.func247, Tryz.ntmps247
    go_wp2_with fail
    go_ret
    have hb := ((Below.refl W.heap.size W).alloc (Nat.le_refl _) (.cells #[.bool b, .slice A n k] 184)).alloc (by simp) (.cells #[.slice A n k] 129)
    refine ⟨_, _, [.slice A n k], rfl, ⟨_, _, rfl, fun _ => ⟨W.heap.size + 1, 0, rfl, by simp, .inr (by omega), fun j hj => ?_⟩⟩, AllRows.snoc (l := []) (vs := []) HR.out (AllRows.nil _ _), hb⟩
    have hj0 : j = 0 := by simpa using hj
    subst hj0
    have h9 := Blk.new (W.alloc (.cells #[.bool b, .slice A n k] 184)) 129 #[.slice A n k]
    rw [World.size_alloc] at h9
    exact h9.cell 0
set_option maxRecDepth 100000 in
theorem disp_ask (c : UInt8) (l r : List It) (A A' : Option Addr) (n k n' k' : Nat) : ItDisp 191 (.agg #[.string (tb [c]), .slice A n k, .slice A' n' k']) 249 false none 0 0 (.ask c l r) (.iface 191 (.agg #[.string (tb [c]), .slice A n k, .slice A' n' k'])) where
  val := rfl
  look := fun w => by kernel_rfl
  enter := enters_of Tryz.func249 (by kernel_rfl) rfl
  asrt := fun w => by kernel_rfl
  goes := fun w P W h hP => by
    rw [ItemAt] at h
    obtain ⟨vl, vr, xs, ys, e, h1, h2, h3, h4⟩ := h
    have e2 : vl = .slice A n k ∧ vr = .slice A' n' k' := by
      injection e with _ e; injection e with e; injection e with e; injection e with _ e; injection e with e1 e; injection e with e3 _; exact ⟨e1.symm, e3.symm⟩
    obtain ⟨rfl, rfl⟩ := e2
    have HR : Hid (RowAt w P l (.slice A n k)) := ⟨xs, h1, h2⟩
    have HR2 : Hid (RowAt w P r (.slice A' n' k')) := ⟨ys, h3, h4⟩
    clear h1 h2 h3 h4 e
    go_enter Tryz.func249, Tryz.ntmps249
    go_wp2_with fail
    go_ret
    have hb := ((Below.refl W.heap.size W).alloc (Nat.le_refl _) (.cells #[.string (tb [c]), .slice A n k, .slice A' n' k'] 191)).alloc (by simp) (.cells #[.slice A n k, .slice A' n' k'] 129)
    refine ⟨_, _, [.slice A n k, .slice A' n' k'], rfl, ⟨_, _, rfl, fun _ => ⟨W.heap.size + 1, 0, rfl, by simp, .inr (by omega), fun j hj => ?_⟩⟩, AllRows.snoc (l := [l]) (vs := [.slice A n k]) HR2.out (AllRows.snoc (l := []) (vs := []) HR.out (AllRows.nil _ _)), hb⟩
    have h9 := Blk.new (W.alloc (.cells #[.string (tb [c]), .slice A n k, .slice A' n' k'] 191)) 129 #[.slice A n k, .slice A' n' k']
    rw [World.size_alloc] at h9
    have hj0 : j = 0 ∨ j = 1 := by have : j < 2 := hj; omega
    rcases hj0 with rfl | rfl
    · exact h9.cell 0
    · exact h9.cell 1

/-- Each item lies behind the interface. -/
theorem item_disp {w : World} {P : Nat → Prop} {i : It} {v : Value} (h : ItemAt w P i v) : ∃ T x F b0 bA bn bk, ItDisp T x F b0 bA bn bk i v := by
  cases i with
  | blk c => rw [ItemAt] at h; subst h; exact ⟨_, _, _, _, _, _, _, disp_blk c⟩
  | stop => rw [ItemAt] at h; subst h; exact ⟨_, _, _, _, _, _, _, disp_stop⟩
  | leave n => rw [ItemAt] at h; subst h; exact ⟨_, _, _, _, _, _, _, disp_leave n⟩
  | set n => rw [ItemAt] at h; subst h; exact ⟨_, _, _, _, _, _, _, disp_set n⟩
  | pick bs => rw [ItemAt] at h; obtain ⟨vb, xs, rfl, ⟨A, k, rfl, _⟩, _⟩ := h; exact ⟨_, _, _, _, _, _, _, disp_pick bs _ _ _⟩
  | frame b l => rw [ItemAt] at h; obtain ⟨vb, xs, rfl, ⟨A, k, rfl, _⟩, _⟩ := h; exact ⟨_, _, _, _, _, _, _, disp_frame b l _ _ _⟩
  | ask c l r => rw [ItemAt] at h; obtain ⟨vl, vr, xs, ys, rfl, ⟨A, k, rfl, _⟩, _, ⟨A', k', rfl, _⟩, _⟩ := h; exact ⟨_, _, _, _, _, _, _, disp_ask c l r _ _ _ _ _ _⟩
end Go.Proofs.YtgebedbankibmaaGreatDoor

/-
  The model's row of all items, and all within them.
-/
namespace Go.Proofs.YtgebedbankibmaaGreatDoor
open Go.RowKit Go.Sort

/-- All items, each ahead of those within it. -/
def flL (l : List It) : List It := (evL l 0).map (·.2)
def flB (bs : List (List It)) : List It := (evB bs 0).map (·.2)
mutual
theorem snd_evI : ∀ (i : It) (k k' : Nat), (evI i k).map (·.2) = (evI i k').map (·.2)
  | .blk c, k, k' => by rw [evI, evI]; rfl
  | .ask c l r, k, k' => by rw [evI, evI]; simp [snd_evL l k k', snd_evL r k k']
  | .stop, k, k' => by rw [evI, evI]; rfl
  | .frame b l, k, k' => by rw [evI, evI]; simp [snd_evL l (k + 1) (k' + 1)]
  | .leave n, k, k' => by rw [evI, evI]; rfl
  | .set n, k, k' => by rw [evI, evI]; rfl
  | .pick bs, k, k' => by rw [evI, evI]; simp [snd_evB bs k k']
theorem snd_evL : ∀ (l : List It) (k k' : Nat), (evL l k).map (·.2) = (evL l k').map (·.2)
  | [], k, k' => by rw [evL, evL]
  | i :: l, k, k' => by rw [evL, evL, List.map_append, List.map_append, snd_evI i k k', snd_evL l k k']
theorem snd_evB : ∀ (bs : List (List It)) (k k' : Nat), (evB bs k).map (·.2) = (evB bs k').map (·.2)
  | [], k, k' => by rw [evB, evB]
  | b :: bs, k, k' => by rw [evB, evB, List.map_append, List.map_append, snd_evL b k k', snd_evB bs k k']
end
theorem flL_step {l : List It} {j : Nat} (h : j < l.length) : flL (l.take (j + 1)) = flL (l.take j) ++ l[j] :: flB (bodI l[j]) := by
  unfold flL flB
  rw [List.take_succ_eq_append_getElem h, evL_append, evL, evL, List.append_nil, evI_bod, List.map_append, List.map_cons, snd_evB _ _ 0]
theorem flB_step {bs : List (List It)} {m : Nat} (h : m < bs.length) : flB (bs.take (m + 1)) = flB (bs.take m) ++ flL bs[m] := by
  unfold flL flB
  rw [List.take_succ_eq_append_getElem h, evB_append, evB_one, List.map_append]
theorem MAllAt.append {w : World} {P : Nat → Prop} {k : List It} {us : List Value} (hk : MAllAt w P k us) : ∀ {l : List It} {vs : List Value}, MAllAt w P l vs → MAllAt w P (l ++ k) (vs ++ us)
  | [], vs, h => by rw [MAllAt] at h; rw [h]; exact hk
  | i :: l, vs, h => by
    rw [MAllAt] at h
    obtain ⟨u, t, e, h1, h2⟩ := h
    rw [e, List.cons_append, List.append_assoc, MAllAt]
    exact ⟨u, t ++ us, rfl, h1, MAllAt.append hk h2⟩
mutual
/-- No more items than bytes. -/
theorem ev_lenI : ∀ (i : It) (k : Nat), (evI i k).length ≤ (txI i).length
  | .blk c, k => by rw [evI, txI]; simp
  | .ask c l r, k => by
    rw [evI, txI]
    have h1 := ev_lenL l k
    have h2 := ev_lenL r k
    simp only [List.length_cons, List.length_append, List.length_nil]; omega
  | .stop, k => by rw [evI, txI]; simp
  | .frame b l, k => by
    rw [evI, txI]
    have h1 := ev_lenL l (k + 1)
    simp only [List.length_cons, List.length_append, List.length_nil]; omega
  | .leave n, k => by rw [evI, txI]; simp
  | .set n, k => by rw [evI, txI]; simp
  | .pick bs, k => by
    rw [evI, txI]
    have h1 := ev_lenB bs k
    simp only [List.length_cons]; omega
theorem ev_lenL : ∀ (l : List It) (k : Nat), (evL l k).length ≤ (txL l).length
  | [], k => by rw [evL]; simp
  | i :: l, k => by rw [evL, txL, List.length_append, List.length_append]; have := ev_lenI i k; have := ev_lenL l k; omega
theorem ev_lenB : ∀ (bs : List (List It)) (k : Nat), (evB bs k).length ≤ (txB bs).length
  | [], k => by rw [evB]; simp
  | b :: bs, k => by
    rw [evB, txB]
    have h1 := ev_lenL b k
    have h2 := ev_lenB bs k
    simp only [List.length_cons, List.length_append]; omega
end
theorem flL_length (l : List It) : (flL l).length ≤ (txL l).length := by unfold flL; rw [List.length_map]; exact ev_lenL l 0
theorem flL_take (l : List It) (j : Nat) : (flL (l.take j)).length ≤ (flL l).length := by
  have h : flL l = flL (l.take j) ++ flL (l.drop j) := by
    have := evL_append (l.take j) (l.drop j) 0
    rw [List.take_append_drop] at this
    unfold flL; rw [this, List.map_append]
  rw [h, List.length_append]; omega
theorem flB_take (bs : List (List It)) (m : Nat) : (flB (bs.take m)).length ≤ (flB bs).length := by
  have h : flB bs = flB (bs.take m) ++ flB (bs.drop m) := by
    have := evB_append (bs.take m) (bs.drop m) 0
    rw [List.take_append_drop] at this
    unfold flB; rw [this, List.map_append]
  rw [h, List.length_append]; omega

/-- What the model's row of all items is. -/
def EachPost (w0 : World) (P : Nat → Prop) (l : List It) (w : World) (e : Ending) (w' : World) : Prop :=
  ∃ g c xs, e = .returned (.slice (some ⟨g, 0, none⟩) (flL l).length c) ∧ w'.ownsRow w.heap.size 128 4 (.slice (some ⟨g, 0, none⟩) (flL l).length c) (flL l).length xs ∧ MAllAt w0 P (flL l) xs ∧ Below w.heap.size w w'

theorem ownRow_below4 {w w' : World} {base : Nat} {e : TypeId} {size : Nat} {v : Value} {n : Nat} {xs : List Value} (h : w.ownsRow base e size v n xs) (hb : Below w.heap.size w w') : w'.ownsRow base e size v n xs := by
  refine ⟨h.1, ?_⟩
  rcases h.2 with hn | ⟨g, cap, cur, hv, hb2, hg, rest⟩
  · exact .inl hn
  · refine .inr ⟨g, cap, cur, hv, hb2, ?_, rest⟩
    have hlt : g < w.heap.size := by
      rcases Nat.lt_or_ge g w.heap.size with h' | h'
      · exact h'
      · rw [Array.getElem?_eq_none h'] at hg; cases hg
    exact (hb.block g hlt).trans hg

theorem MBodAt.slice {w : World} {P : Nat → Prop} {i : It} {v : Value} (h : MBodAt w P i v) : ∃ A n k, v = .slice A n k := by
  rw [mbod_iff] at h
  obtain ⟨vs, ⟨A, k, rfl, _⟩, _⟩ := h
  exact ⟨_, _, _, rfl⟩
theorem MAllAt.one {w : World} {P : Nat → Prop} : ∀ {l : List It} {vs : List Value}, MAllAt w P l vs → ∀ u ∈ vs, u.oneCell' = true
  | [], vs, h, u, hu => by rw [MAllAt] at h; subst h; cases hu
  | i :: l, vs, h, u, hu => by
    rw [MAllAt] at h
    obtain ⟨vb, t, rfl, h1, h2⟩ := h
    rcases List.mem_append.1 hu with hu | hu
    · obtain ⟨A, n, k, rfl⟩ := h1.slice
      simp [mcells] at hu
      rcases hu with rfl | rfl | rfl | rfl <;> rfl
    · exact MAllAt.one h2 u hu

set_option maxRecDepth 100000 in
set_option maxHeartbeats 3200000 in
theorem l5Each_any (w0 : World) (P : Nat → Prop) (hP : ∀ b, P b → b < w0.heap.size) : ∀ (N : Nat) (l : List It) (v : Value) (w : World), N ≤ 1000 → (txL l).length < N → MRowAt w0 P l v → Same P w0 w →
    Calls Tryz.prog 72 #[v] w (EachPost w0 P l w) := by
  intro N
  induction N with
  | zero => intro l v w _ hN; omega
  | succ N IH =>
    intro l v w hN1 hN hrow hsame
    obtain ⟨i0, hi, hz0, hz1, hz2⟩ := info_parts info_l5item
    obtain ⟨xs, ⟨A, cap, rfl, hxl, hcells⟩, hall⟩ := hrow
    have HALL := Lib.hid hall
    have HCL := Lib.hid hcells
    have HXL := Lib.hid hxl
    have HS := Lib.hid hsame
    have HIH := Lib.hid IH
    have HPL := Lib.hid hP
    have hl1000 : l.length ≤ 1000 := by have := txL_length l; omega
    have hf1000 : (flL l).length ≤ 1000 := by have := flL_length l; omega
    clear hall hcells hxl hsame IH hP
    go_enter Tryz.func72, Tryz.ntmps72
    go_wp2_with fail
    have HO0 := Lib.hid (World.ownsRow_made (base := w.heap.size) (e := 128) (size := 4) w #[] 0 (Nat.le_refl _) (Nat.zero_le _) rfl)
    go_loopg [3, 11] l.length (fun gk ov iv wr => ∃ (j g c : Nat) (ys : List Value), gk = l.length - j ∧ j ≤ l.length ∧ iv = .int .i64 j ∧ ov = .slice (some ⟨g, 0, none⟩) (flL (l.take j)).length c ∧ Hid (wr.ownsRow w.heap.size 128 4 (.slice (some ⟨g, 0, none⟩) (flL (l.take j)).length c) (flL (l.take j)).length ys) ∧ Hid (MAllAt w0 P (flL (l.take j)) ys) ∧ Hid (Below w.heap.size w wr))
    case atStart => exact ⟨0, _, 0, [], by omega, Nat.zero_le _, rfl, by rw [List.take_zero]; unfold flL; rw [evL]; rfl, by rw [List.take_zero]; unfold flL; rw [evL]; exact HO0.out, by rw [List.take_zero]; unfold flL; rw [evL]; exact MAllAt.nil _ _, (Below.refl _ _).alloc (Nat.le_refl _) _⟩
    case round =>
      obtain ⟨j, g, c, ys, rfl, hj, rfl, rfl, HOW, HYS, HB⟩ := hrel
      have hft := flL_take l j
      by_cases hjl : j < l.length
      · obtain ⟨vb, hbod, y0, y1, y2, y3⟩ := HALL.out.at_ j hjl
        have hlx : l.length * 4 = xs.length := HXL.out.symm
        obtain ⟨b, off, rfl, hbl, hPb, hcell⟩ := HCL.out (by omega)
        have HBOD := Lib.hid hbod
        rw [mbod_iff] at hbod
        obtain ⟨vs, ⟨A2, c2, rfl, hc2⟩, hrows⟩ := hbod
        have hsm : wr.heap[b]? = w0.heap[b]? := (HB.out.block b (by have := HS.out.1; omega)).trans (HS.out.2 b hbl hPb)
        have hat : ∀ k u, xs[k]? = some u → wr.cell? ⟨b, off + k, none⟩ = some u := fun k u hk => by
          have hkl := (List.getElem?_eq_some_iff.1 hk).1
          rw [cell_same hsm (off + k), hcell k hkl, ← List.getElem?_eq_getElem hkl]; exact hk
        have x0 : wr.cell? ⟨b, off + j * 4, none⟩ = some (.int .u8 (kindI l[j]).toNat) := hat _ _ y0
        have x1 : wr.cell? ⟨b, off + j * 4 + 1, none⟩ = some (.string (tb (nameI l[j]))) := hat _ _ y1
        have x2 : wr.cell? ⟨b, off + j * 4 + 2, none⟩ = some (.int .i64 (numI l[j])) := hat _ _ y2
        have x3 : wr.cell? ⟨b, off + j * 4 + 3, none⟩ = some (.slice A2 vs.length c2) := hat _ _ y3
        have hfl : (flL (l.take (j + 1))).length = (flL (l.take j)).length + 1 + (flB (bodI l[j])).length := by rw [flL_step hjl, List.length_append, List.length_cons]; omega
        have hft2 := flL_take l (j + 1)
        have hbsz := HB.out.size
        have HOW1 := Lib.hid (HOW.out.alloc (.cells #[.int .u8 (kindI l[j]).toNat, .string (tb (nameI l[j])), .int .i64 (numI l[j]), .slice A2 vs.length c2] 128))
        clear hat y0 y1 y2 y3 hcell hlx hsm
        obtain ⟨W1, hW1⟩ : ∃ W1, W1 = wr.alloc (.cells #[.int .u8 (kindI l[j]).toNat, .string (tb (nameI l[j])), .int .i64 (numI l[j]), .slice A2 vs.length c2] 128) := ⟨_, rfl⟩
        have hs1 : W1.heap.size = wr.heap.size + 1 := by rw [hW1]; simp
        have HNEW : Hid ((W1.alloc (.cells #[.int .u8 (kindI l[j]).toNat, .string (tb (nameI l[j])), .int .i64 (numI l[j]), .slice A2 vs.length c2] 128)).heap[wr.heap.size + 1]? = some (.cells #[.int .u8 (kindI l[j]).toNat, .string (tb (nameI l[j])), .int .i64 (numI l[j]), .slice A2 vs.length c2] 128 (0, 0))) := by
          have h9 := heap_alloc_new W1 (.cells #[.int .u8 (kindI l[j]).toNat, .string (tb (nameI l[j])), .int .i64 (numI l[j]), .slice A2 vs.length c2] 128)
          rw [hs1] at h9; exact h9
        have HBX : Hid (Blk W1 wr.heap.size 128 #[.int .u8 (kindI l[j]).toNat, .string (tb (nameI l[j])), .int .i64 (numI l[j]), .slice A2 vs.length c2]) := by
          show Blk _ _ _ _
          rw [hW1]; exact Blk.new wr _ _
        have HB1 : Hid (Below w.heap.size w W1) := by
          show Below _ _ _
          rw [hW1]; exact HB.out.alloc hbsz _
        rw [← hW1] at HOW1
        have HW1 := Lib.hid hW1
        have HS1 := Lib.hid hs1
        have HROWS := Lib.hid hrows
        have HVB := Lib.hid hrows.len
        have HC2 := Lib.hid hc2
        clear hW1 hs1 hrows hc2
        go_wp2_with (at_builtin; rw [← HW1.out]; go_loud (refine wpList_append_own_at _ rfl _ _ 121 rfl w.heap.size 128 i0 _ 4 56 Tryz.underlying121 hi hz0 hz1 hz2 rfl (by decide) _ _ _ rfl (HOW1.out.alloc _) ⟨wr.heap.size + 1, 0, none⟩ 1 1 [.int .u8 (kindI l[j]).toNat, .string (tb (nameI l[j])), .int .i64 (numI l[j]), .slice A2 vs.length c2] rfl rfl ?c1 ?c2 ?c3 ?c4 ?c5 ?_))
        case c1 => exact World.news_of_block (cs := #[.int .u8 (kindI l[j]).toNat, .string (tb (nameI l[j])), .int .i64 (numI l[j]), .slice A2 vs.length c2]) (t := 128) (fr := (0, 0)) HNEW.out
        case c2 => simp [Value.oneCell']
        case c3 => unfold maxLen; omega
        case c4 => omega
        case c5 => have := HB1.out.size; simp; omega
        intro v' w5 hown' hgrow _ hat
        obtain ⟨g5, c5, rfl, hg5, hg5l⟩ := hown'.form (by omega)
        have hrowlt := HOW1.out.lt g rfl
        have hG : W1.grownBy w5 (some g) := (World.grownBy_alloc W1 _ _).trans hgrow
        have HBX5 : Hid (Blk w5 wr.heap.size 128 #[.int .u8 (kindI l[j]).toNat, .string (tb (nameI l[j])), .int .i64 (numI l[j]), .slice A2 vs.length c2]) :=
          (hG.block _ HBX.out.lt (fun e => by have := HOW.out.lt g rfl; have e2 := Option.some.inj e; omega)).trans HBX.out
        have HB5 : Hid (Below w.heap.size w w5) := HB1.out.grown hG HB1.out.size (fun k e => by have := Option.some.inj e; omega)
        have HYS5 := Lib.hid (HYS.out.snoc HBOD.out)
        have HOW5 := Lib.hid hown'
        have x3 := HBX5.out.cell 3
        have hft3 : (flL (l.take j)).length + 1 + (flB (bodI l[j])).length ≤ 1000 := by omega
        clear hown' hgrow hat hG hrowlt
        go_wp2_with fail
        clear x0 x1 x2 x3 HW1
        go_loopg [3, 22] vs.length (fun gk ov iv wr => ∃ (m g' c' : Nat) (zs : List Value), gk = vs.length - m ∧ m ≤ vs.length ∧ iv = .int .i64 m ∧ ov = .slice (some ⟨g', 0, none⟩) ((flL (l.take j)).length + 1 + (flB ((bodI l[j]).take m)).length) c' ∧ Hid (wr.ownsRow w.heap.size 128 4 (.slice (some ⟨g', 0, none⟩) ((flL (l.take j)).length + 1 + (flB ((bodI l[j]).take m)).length) c') ((flL (l.take j)).length + 1 + (flB ((bodI l[j]).take m)).length) zs) ∧ Hid (MAllAt w0 P (flL (l.take j) ++ l[j] :: flB ((bodI l[j]).take m)) zs) ∧ Hid (Below w.heap.size w wr))
        case atStart =>
          have hz0 : flB ((bodI l[j]).take 0) = [] := by rw [List.take_zero]; unfold flB; rw [evB]; rfl
          refine ⟨0, g5, c5, ys ++ mcells l[j] (.slice A2 vs.length c2), by omega, Nat.zero_le _, rfl, by rw [hz0]; rfl, ?_, ?_, HB5.out⟩
          · rw [hz0]; exact HOW5.out
          · rw [hz0]; exact HYS5.out
        case round =>
          obtain ⟨m, g', c', zs, rfl, hm, rfl, rfl, HOWm, HZS, HBm⟩ := hrel
          have hfm := flB_take (bodI l[j]) m
          have hvsl : vs.length ≤ 1000 := by
            have h1 := bod_length l[j]
            have h2 := txL_mem (List.getElem_mem hjl)
            have := HVB.out
            omega
          by_cases hml : m < vs.length
          · have hmb : m < (bodI l[j]).length := by have := HVB.out; omega
            obtain ⟨vm, hvm, hrm⟩ := HROWS.out.at_ m hmb
            obtain ⟨xm, ⟨A6, k6, rfl, hx6⟩, hx7⟩ := hrm
            have HRM : Hid (MRowAt w0 P (bodI l[j])[m] (.slice A6 (bodI l[j])[m].length k6)) := ⟨xm, ⟨A6, k6, rfl, hx6⟩, hx7⟩
            obtain ⟨b2, off2, rfl, hb2l, hP2, hcell2⟩ := HC2.out (by omega)
            have hsz := HBm.out.size
            have hsm2 : wr.heap[b2]? = w0.heap[b2]? := (HBm.out.block b2 (by have := HS.out.1; omega)).trans (HS.out.2 b2 hb2l hP2)
            have x0 : wr.cell? ⟨b2, off2 + m, none⟩ = some (.slice A6 (bodI l[j])[m].length k6) := by
              rw [cell_same hsm2 (off2 + m), hcell2 m hml, ← List.getElem?_eq_getElem hml]; exact hvm
            have HC := Lib.hid (HIH.out (bodI l[j])[m] _ wr (by omega) (by
              have h1 := bod_shorter (List.getElem_mem hmb)
              have h2 := txL_mem (List.getElem_mem hjl)
              omega) HRM.out ⟨by have := HS.out.1; omega, fun b hb hp => (HBm.out.block b (by have := HS.out.1; omega)).trans (HS.out.2 b hb hp)⟩)
            have HST := Lib.hid (flB_step hmb)
            have hst2 : (flB ((bodI l[j]).take (m + 1))).length = (flB ((bodI l[j]).take m)).length + (flL (bodI l[j])[m]).length := by rw [HST.out, List.length_append]
            have hfm2 := flB_take (bodI l[j]) (m + 1)
            have HSL := Lib.hid hst2
            have HM1 := Lib.hid (show m + 1 ≤ vs.length from hml)
            have hn2 : (flB ((bodI l[j]).take m)).length + (flL (bodI l[j])[m]).length ≤ (flB (bodI l[j])).length := by omega
            clear hvm hx6 hx7 hcell2 hsm2 hst2
            go_wp2_with fail
            refine HC.out.mono ?_
            rintro e w3 ⟨g2, c2', xs2, rfl, hown2, hms2, b3⟩
            have HOW3 := Lib.hid (ownRow_below4 HOWm.out b3)
            have HB3 := Lib.hid (HBm.out.trans (b3.mono hsz))
            have HX2 : Hid (∀ (jj : Nat) (u : Value), xs2[jj]? = some u → w3.cell? ((⟨g2, 0, none⟩ : Addr).add jj) = some u) := by
              intro jj u hj
              have hjl2 := (List.getElem?_eq_some_iff.1 hj).1
              have hl2 := hms2.len
              have hc := hown2.cellAt jj (by omega)
              rw [hj] at hc
              rw [show ((⟨g2, 0, none⟩ : Addr).add jj) = ⟨g2, jj, none⟩ by simp [Addr.add]; omega]
              exact hc
            have HMS := Lib.hid hms2
            have h3s := HB3.out.size
            clear b3 hown2 hms2 x0
            go_wp2_with (at_builtin; go_loud (refine wpList_append_own_at _ rfl _ _ 121 rfl w.heap.size 128 i0 _ 4 56 Tryz.underlying121 hi hz0 hz1 hz2 rfl (by decide) _ _ _ rfl HOW3.out ⟨g2, 0, none⟩ (flL (bodI l[j])[m]).length c2' xs2 rfl HMS.out.len HX2.out (MAllAt.one HMS.out) ?d3 ?d4 ?d5 ?_))
            case d3 => unfold maxLen; omega
            case d4 => omega
            case d5 => omega
            intro v' w7 hown7 hgrow7 _ _
            have hr7 := HOW3.out.lt g' rfl
            obtain ⟨g7, c7, rfl, hg7, hg7l⟩ := hown7.form (by omega)
            have HB7 : Hid (Below w.heap.size w w7) := HB3.out.grown hgrow7 h3s (fun k e => by have e2 : g' = k := Option.some.inj e; omega)
            have HOW7 : Hid (w7.ownsRow w.heap.size 128 4 (.slice (some ⟨g7, 0, none⟩) ((flL (l.take j)).length + 1 + (flB ((bodI l[j]).take (m + 1))).length) c7) ((flL (l.take j)).length + 1 + (flB ((bodI l[j]).take (m + 1))).length) (zs ++ xs2)) := by
              show World.ownsRow _ _ _ _ _ _ _
              rw [HSL.out, ← Nat.add_assoc]; exact hown7
            have HZ7 : Hid (MAllAt w0 P (flL (l.take j) ++ l[j] :: flB ((bodI l[j]).take (m + 1))) (zs ++ xs2)) := by
              show MAllAt _ _ _ _
              rw [HST.out, show flL (l.take j) ++ l[j] :: (flB ((bodI l[j]).take m) ++ flL (bodI l[j])[m]) = (flL (l.take j) ++ l[j] :: flB ((bodI l[j]).take m)) ++ flL (bodI l[j])[m] by simp]
              exact MAllAt.append HMS.out HZS.out
            clear hown7 hgrow7 hr7
            go_wp2_with fail
            go_roundg (vs.length - (m + 1))
            case measure => have := HM1.out; omega
            case rel => exact ⟨m + 1, g7, c7, zs ++ xs2, rfl, HM1.out, by go_num, by rw [HSL.out, ← Nat.add_assoc], HOW7.out, HZ7.out, HB7.out⟩
          · have hmv : m = (bodI l[j]).length := by have := HVB.out; omega
            have HFJ := Lib.hid (show flL (l.take (j + 1)) = flL (l.take j) ++ l[j] :: flB ((bodI l[j]).take m) by rw [flL_step hjl, hmv, List.take_length])
            have hlj : (flL (l.take (j + 1))).length = (flL (l.take j)).length + 1 + (flB ((bodI l[j]).take m)).length := by rw [HFJ.out, List.length_append, List.length_cons]; omega
            have HLJ := Lib.hid hlj
            have HJ1 := Lib.hid (show j + 1 ≤ l.length from hjl)
            clear hmv hlj
            go_wp2_with fail
            go_roundg (l.length - (j + 1))
            case measure => have := HJ1.out; omega
            case rel =>
              refine ⟨j + 1, g', c', zs, rfl, HJ1.out, by go_num, by rw [HLJ.out], ?_, ?_, HBm.out⟩
              · rw [HLJ.out]; exact HOWm.out
              · rw [HFJ.out]; exact HZS.out
      · have hjl2 : j = l.length := by omega
        have HE := Lib.hid (show flL (l.take j) = flL l by rw [hjl2, List.take_length])
        have HOWE : Hid (wr.ownsRow w.heap.size 128 4 (.slice (some ⟨g, 0, none⟩) (flL l).length c) (flL l).length ys) := by
          have := HOW.out
          rw [HE.out] at this; exact this
        have HYE : Hid (MAllAt w0 P (flL l) ys) := by
          have := HYS.out
          rw [HE.out] at this; exact this
        clear hjl2
        go_wp2_with fail
        go_ret
        exact ⟨g, c, ys, by rw [HE.out]; rfl, HOWE.out, HYE.out, HB.out⟩
end Go.Proofs.YtgebedbankibmaaGreatDoor

/-
  The program's iterator over all items, and all within them.
-/
namespace Go.Proofs.YtgebedbankibmaaGreatDoor
open Go.RowKit Go.Sort
attribute [local go_sem] Oper.semAt_some

/-- How an item is handed out: with the frames around it. -/
abbrev encEv (x : Nat × It × Value) : Array Value := #[.int .i64 x.1, x.2.2]
/-- The first of the items that are to come. -/
def EvIn (w : World) (P : Nat → Prop) (E : List (Nat × It)) (xs : List (Nat × It × Value)) : Prop := xs.map (fun x => (x.1, x.2.1)) <+: E ∧ ∀ x ∈ xs, ItemAt w P x.2.1 x.2.2
/-- All items that are to come. -/
def EvAll (w : World) (P : Nat → Prop) (E : List (Nat × It)) (xs : List (Nat × It × Value)) : Prop := xs.map (fun x => (x.1, x.2.1)) = E ∧ ∀ x ∈ xs, ItemAt w P x.2.1 x.2.2

/-- The iterator's contract: the items lie in the blocks P of w, its own variables in w1. -/
abbrev SeqEv (n : Nat) (w : World) (P : Nat → Prop) (w1 : World) (E : List (Nat × It)) (CB FB : Nat) : Prop :=
  SeqAll Fence.wide n Tryz.prog 115 #[.pointer (some ⟨CB, 0, none⟩), .pointer (some ⟨FB, 0, none⟩)] encEv (fun b => P b ∨ b = CB ∨ b = FB) (fun pre x => EvIn w P E (pre ++ [x])) (fun xs => EvAll w P E xs) w1

theorem roundIn_wide {m m' l f : Nat} {P : Program} {tmps : Array Value} {assign body : Code} {w : World} {R : Ending → World → Prop} (h : RoundIn Fence.wide m P l f tmps assign body w R) : RoundIn Fence.wide m' P l f tmps assign body w R :=
  ⟨h.1, fun c cs _ => h.2 c cs (room_wide _)⟩
theorem roundIn_in {m m' l f k : Nat} {P : Program} {tmps : Array Value} {assign body : Code} {w : World} {R : Ending → World → Prop} (h : RoundIn Fence.wide m P l f tmps assign body w R) : RoundIn (Fence.wide.inRound k) m' P l f tmps assign body w R :=
  ⟨h.1, fun c cs _ => h.2 c cs (room_wide _)⟩
theorem seqAll_wide {α : Type} {n m : Nat} {P : Program} {g : Nat} {lb : Array Value} {encs : α → Array Value} {R : Nat → Prop} {Nx : List α → α → Prop} {S : List α → Prop} {w : World} (h : SeqAll Fence.wide n P g lb encs R Nx S w) : SeqAll Fence.wide m P g lb encs R Nx S w := by
  intro l J W hW hJ hY h0
  refine callsIn_wide.2 (callsIn_wide.1 (h l J W hW hJ (fun O pre x A hj hn => ?_) h0))
  obtain ⟨fn, tmps, assign, body, hy, hr⟩ := hY O pre x A hj hn
  exact ⟨fn, tmps, assign, body, hy, roundIn_wide hr⟩

/-- What holds between two steps of the iterator: what is its own, what it has handed out, the marks that its inner ranges left. -/
structure EvInv (W : World) (R : Nat → Prop) (YB ln : Nat) (J : (Nat → Prop) → List (Nat × It × Value) → World → Prop) (O : Nat → Prop) (pre : List (Nat × It × Value)) (ds : List Nat) (wr : World) : Prop where
  j : J O pre wr
  yo : O YB
  yb : Blk wr YB 182 #[.func (.yield ln) #[] #[]]
  keep : ∀ b, R b → wr.heap[b]? = W.heap[b]?
  size : W.heap.size ≤ wr.heap.size
  own : ∀ b, O b → W.heap.size ≤ b ∧ b < wr.heap.size
  marks : ∀ D ∈ ds, O D ∧ wr.heap[D]? = some (.deferred (some []))
  nodup : ds.Nodup

/-- New blocks have come, nothing else. -/
theorem EvInv.below {W : World} {R : Nat → Prop} {YB ln : Nat} {J : (Nat → Prop) → List (Nat × It × Value) → World → Prop} {O : Nat → Prop} {pre : List (Nat × It × Value)} {ds : List Nat} {wr w2 : World} (h : EvInv W R YB ln J O pre ds wr)
    (hJ : ∀ O pre A B, J O pre A → Turns O A B → J (more O A B) pre B) (hR : ∀ b, R b → b < W.heap.size) (hb : Below wr.heap.size wr w2) : EvInv W R YB ln J (more O wr w2) pre ds w2 where
  j := hJ O pre wr w2 h.j (Turns.of_below hb)
  yo := .inl h.yo
  yb := (hb.block YB h.yb.lt).trans h.yb
  keep := fun b hb' => (hb.block b (by have := hR b hb'; have := h.size; omega)).trans (h.keep b hb')
  size := Nat.le_trans h.size hb.size
  own := fun b hb' => by
    rcases hb' with hb' | hb'
    · have := h.own b hb'; have := hb.size; omega
    · have := h.size; omega
  marks := fun D hD => ⟨.inl (h.marks D hD).1, (hb.block D (h.own D (h.marks D hD).1).2).trans (h.marks D hD).2⟩
  nodup := h.nodup
/-- A round has been, and has kept what is the iterator's. -/
theorem EvInv.round {W : World} {R : Nat → Prop} {YB ln : Nat} {J : (Nat → Prop) → List (Nat × It × Value) → World → Prop} {O : Nat → Prop} {pre pre' : List (Nat × It × Value)} {ds : List Nat} {wr w2 : World} (h : EvInv W R YB ln J O pre ds wr)
    (hR : ∀ b, R b → b < W.heap.size) (hj : J O pre' w2) (hk : Keeps (fun b => R b ∨ O b) wr w2) : EvInv W R YB ln J O pre' ds w2 where
  j := hj
  yo := h.yo
  yb := (hk.2 YB h.yb.lt (.inr h.yo)).trans h.yb
  keep := fun b hb' => (hk.2 b (by have := hR b hb'; have := h.size; omega) (.inl hb')).trans (h.keep b hb')
  size := Nat.le_trans h.size hk.1
  own := fun b hb' => by have := h.own b hb'; have := hk.1; omega
  marks := fun D hD => ⟨(h.marks D hD).1, (hk.2 D (h.own D (h.marks D hD).1).2 (.inr (h.marks D hD).1)).trans (h.marks D hD).2⟩
  nodup := h.nodup

/-- The marks of the ranges that have been gone through. -/
def mks (ds : List Nat) : List Deferred := ds.map fun D => { target := .collected D, args := #[] }
theorem mks_cons (D : Nat) (ds : List Nat) : mks (D :: ds) = { target := .collected D, args := #[] } :: mks ds := rfl
theorem leaves_marks {F : Fence} {n : Nat} {P : Program} {fn : Func} {tmps : Array Value} {R : Ending → World → Prop} : ∀ (ds : List Nat) (w : World), (∀ D ∈ ds, w.heap[D]? = some (.deferred (some []))) → ds.Nodup →
    (∀ w2, Turns (fun b => b ∈ ds) w w2 → LeavesInM F n P fn tmps R [] .returning w2) → LeavesInM F n P fn tmps R (mks ds) .returning w
  | [], w, _, _, h => h w (Turns.refl _ _)
  | D :: ds, w, hm, hnd, h => by
    refine ⟨by simp, .inl ⟨_, _, rfl, run_takeDeferred (hm D (by simp)), ?_⟩⟩
    have hnd' := List.nodup_cons.1 hnd
    refine leaves_marks ds _ (fun E hE => ?_) hnd'.2 fun w2 hT => h w2 ?_
    · exact (World.putObj_heap_other (by intro e; subst e; exact hnd'.1 hE)).trans (hm E (List.mem_cons_of_mem _ hE))
    · have h1 : Turns (fun b => b ∈ D :: ds) w (w.putObj D (.deferred none)) := Turns.putObj (by simp) _
      refine h1.trans (hT.wider fun b hb => .inl (List.mem_cons_of_mem _ hb))

theorem evL_prefix {l : List It} {k j : Nat} (h : j < l.length) : evL (l.take j) k ++ [(k, l[j])] <+: evL l k := by
  have e : l = l.take j ++ l[j] :: l.drop (j + 1) := by rw [List.getElem_cons_drop]; simp
  conv => rhs; rw [e]
  rw [evL_append, evL, evI_bod]
  exact ⟨evB (bodI l[j]) (if frI l[j] = true then k + 1 else k) ++ evL (l.drop (j + 1)) k, by simp⟩
theorem evL_step {l : List It} {k j : Nat} (h : j < l.length) : evL (l.take (j + 1)) k = evL (l.take j) k ++ (k, l[j]) :: evB (bodI l[j]) (if frI l[j] then k + 1 else k) := by
  rw [List.take_succ_eq_append_getElem h, evL_append, evL, evL, List.append_nil, evI_bod]
theorem evL_prefix_bod {l : List It} {k j m : Nat} (h : j < l.length) (hm : m < (bodI l[j]).length) : evL (l.take j) k ++ (k, l[j]) :: (evB ((bodI l[j]).take m) (if frI l[j] then k + 1 else k) ++ evL (bodI l[j])[m] (if frI l[j] then k + 1 else k)) <+: evL l k := by
  have e : l = l.take (j + 1) ++ l.drop (j + 1) := by simp
  conv => rhs; rw [e]
  rw [evL_append, evL_step h]
  have e2 : bodI l[j] = (bodI l[j]).take m ++ (bodI l[j])[m] :: (bodI l[j]).drop (m + 1) := by rw [List.getElem_cons_drop]; simp
  obtain ⟨bs, hbs⟩ : ∃ bs, bs = bodI l[j] := ⟨_, rfl⟩
  generalize (if frI l[j] = true then k + 1 else k) = k'
  refine ⟨evB ((bodI l[j]).drop (m + 1)) k' ++ evL (l.drop (j + 1)) k, ?_⟩
  conv => rhs; lhs; rhs; rhs; rw [e2]
  rw [evB_append, evB]
  simp
theorem evB_step {bs : List (List It)} {k m : Nat} (h : m < bs.length) : evB (bs.take (m + 1)) k = evB (bs.take m) k ++ evL bs[m] k := by
  rw [List.take_succ_eq_append_getElem h, evB_append, evB_one]
/-- Blocks of the iterator's have turned, but none that this speaks of. -/
theorem EvInv.turns {W : World} {R : Nat → Prop} {YB ln : Nat} {J : (Nat → Prop) → List (Nat × It × Value) → World → Prop} {O Ot : Nat → Prop} {pre : List (Nat × It × Value)} {ds : List Nat} {wr w2 : World} (h : EvInv W R YB ln J O pre ds wr)
    (hJ : ∀ O pre A B, J O pre A → Turns O A B → J (more O A B) pre B) (hR : ∀ b, R b → b < W.heap.size) (hT : Turns Ot wr w2) (hs : ∀ b, Ot b → O b) (hy : ¬ Ot YB) (hd : ∀ D ∈ ds, ¬ Ot D) (hr : ∀ b, R b → ¬ Ot b) : EvInv W R YB ln J (more O wr w2) pre ds w2 where
  j := hJ O pre wr w2 h.j (hT.wider hs)
  yo := .inl h.yo
  yb := (hT.block YB h.yb.lt hy).trans h.yb
  keep := fun b hb' => (hT.block b (by have := hR b hb'; have := h.size; omega) (hr b hb')).trans (h.keep b hb')
  size := Nat.le_trans h.size hT.size
  own := fun b hb' => by
    rcases hb' with hb' | hb'
    · have := h.own b hb'; have := hT.size; omega
    · have := h.size; omega
  marks := fun D hD => ⟨.inl (h.marks D hD).1, (hT.block D (h.own D (h.marks D hD).1).2 (hd D hD)).trans (h.marks D hD).2⟩
  nodup := h.nodup

set_option maxRecDepth 100000 in
theorem everyItem_any (A : Option Addr) (n c : Nat) (k : Nat) (w : World) : Calls Tryz.prog 75 #[.slice A n c, .int .i64 k] w fun e w' =>
    e = .returned (.func (.func 115) #[] #[.pointer (some ⟨w.heap.size, 0, none⟩), .pointer (some ⟨w.heap.size + 1, 0, none⟩)]) ∧ w' = (w.alloc (.cells #[.slice A n c] 129)).alloc (.cells #[.int .i64 k] 3) := by
  have hmf : ∀ (fn : Fn) (first cap : Array Value) (w : World), (Instr.makeFunc fn first cap).run Tryz.prog w = .ok (.func fn first cap) w := fun _ _ _ _ => rfl
  go_enter Tryz.func75, Tryz.ntmps75
  go_wp2_with fail
  go_ret
  exact ⟨rfl, rfl⟩

set_option maxRecDepth 100000 in
set_option maxHeartbeats 6400000 in
theorem everyItem1_own (w : World) (P : Nat → Prop) (hP : ∀ b, P b → b < w.heap.size) : ∀ (N : Nat) (l : List It) (k : Nat) (w1 : World) (CB FB : Nat) (v : Value), N ≤ 1000 → (txL l).length < N → OkL l k → k ≤ 9 → RowAt w P l v → Same P w w1 → Blk w1 CB 129 #[v] → Blk w1 FB 3 #[.int .i64 k] →
    SeqEv 3 w P w1 (evL l k) CB FB := by
  intro N
  induction N with
  | zero => intro l k w1 CB FB v _ hN; omega
  | succ N IH =>
    intro l k w1 CB FB v hN1 hN hok hk hrow hsame hC hF ln J W hW hJ hY h0
    obtain ⟨xs, ⟨A, cap, rfl, hcells⟩, hall⟩ := hrow
    have hlen := hall.len
    have HLEN := Lib.hid hlen
    have hl1000 : xs.length ≤ 1000 := by have := txL_length l; omega
    have HCL := Lib.hid hcells
    have HALL := Lib.hid hall
    have HOK := Lib.hid hok
    have HN := Lib.hid hN
    have hCl : CB < W.heap.size := Nat.lt_of_lt_of_le hC.lt hW.size
    have hFl : FB < W.heap.size := Nat.lt_of_lt_of_le hF.lt hW.size
    have HC := Lib.hid (hC.below hW hC.lt)
    have HF := Lib.hid (hF.below hW hF.lt)
    have HSW : Hid (∀ b, P b → W.heap[b]? = w.heap[b]?) := fun b hb => (hW.block b (by have := hP b hb; have := hsame.1; omega)).trans (hsame.2 b (hP b hb) hb)
    have HRL : Hid (∀ b, (P b ∨ b = CB ∨ b = FB) → b < W.heap.size) := fun b hb => by
      rcases hb with hb | rfl | rfl
      · have := hP b hb; have := hsame.1; have := hW.size; omega
      · exact hCl
      · exact hFl
    have HPL := Lib.hid hP
    have hwW : w.heap.size ≤ W.heap.size := Nat.le_trans hsame.1 hW.size
    have c1 := HC.out.cell 0
    have HY := Lib.hid hY
    have HJ := Lib.hid hJ
    have HIH := Lib.hid IH
    have HJ0 := Lib.hid h0
    clear hlen hcells hall hok hN hC hF hsame hW hJ hY IH h0 hP
    refine callsIn_of_wp_marks Tryz.func115 rfl trivial ?_ rfl
    simp only [Tryz.ntmps115, List.size_toArray, List.length_cons, List.length_nil, Nat.reduceAdd, Nat.reduceSub, Array.replicate_succ, Array.replicate_zero, List.push_toArray, List.append_toArray, List.nil_append, List.cons_append]
    refine wpIn_mono (Q := calm _) ?_ calm_le
    gi_wp2_with fail
    have HI0 : Hid (EvInv W (fun b => P b ∨ b = CB ∨ b = FB) W.heap.size ln J (more (fun _ => False) W (W.alloc (.cells #[.func (.yield ln) #[] #[]] 182))) [] [] (W.alloc (.cells #[.func (.yield ln) #[] #[]] 182))) := by
      refine ⟨HJ.out _ _ _ _ HJ0.out (Turns.alloc _ _ _), .inr ⟨Nat.le_refl _, by simp⟩, Blk.new W _ _, fun b hb => Below.heap_alloc W _ b (HRL.out b hb), by simp, fun b hb => ?_, (fun D hD => by cases hD), List.nodup_nil⟩
      rcases hb with hb | hb
      · exact hb.elim
      · exact hb
    clear HJ0 c1
    refine wpIn_loop_ghost_k (fun gk a wr => ∃ u4 u5 u6 u7 u8 u9 u10 u11 u12 u16 u17 u18 u19 u20 u21 u22 u23 u24 u25 u26 u27 u28 u29 u30 u31 u32 u33 u34 u35 u36 u37 u38 u39 u40 u41 u42 u43 u44 u45 u46 u47 u48 u49 u50 u51 O pre j ds, a = { tmps := #[.func (.yield ln) #[] #[], .pointer (some ⟨CB, 0, none⟩), .pointer (some ⟨FB, 0, none⟩), .pointer (some ⟨W.heap.size, 0, none⟩), u4, u5, u6, u7, u8, u9, u10, u11, u12, .slice A xs.length cap, .int .i64 xs.length, .int .i64 (j : Nat), u16, u17, u18, u19, u20, u21, u22, u23, u24, u25, u26, u27, u28, u29, u30, u31, u32, u33, u34, u35, u36, u37, u38, u39, u40, u41, u42, u43, u44, u45, u46, u47, u48, u49, u50, u51], defers := mks ds } ∧ gk = l.length - j ∧ j ≤ l.length ∧ Hid (EvAll w P (evL (l.take j) k) pre) ∧ Hid (EvInv W (fun b => P b ∨ b = CB ∨ b = FB) W.heap.size ln J O pre ds wr)) l.length ?_ ?_
    · refine ⟨_, _, _, _, _, _, _, _, _, _, _, _, _, _, _, _, _, _, _, _, _, _, _, _, _, _, _, _, _, _, _, _, _, _, _, _, _, _, _, _, _, _, _, _, _, _, [], 0, [], rfl, by simp, Nat.zero_le _, ⟨by rw [List.take_zero, evL]; rfl, fun x hx => by cases hx⟩, HI0.out⟩
    · rintro gk a wr ⟨u4, u5, u6, u7, u8, u9, u10, u11, u12, u16, u17, u18, u19, u20, u21, u22, u23, u24, u25, u26, u27, u28, u29, u30, u31, u32, u33, u34, u35, u36, u37, u38, u39, u40, u41, u42, u43, u44, u45, u46, u47, u48, u49, u50, u51, O, pre, j, ds, rfl, rfl, hj, HEV, HINV⟩ J' K hJ' hK
      by_cases hjl : j < l.length
      · obtain ⟨vj, hvj, hit⟩ := HALL.out.at_ j hjl
        obtain ⟨T, x, F, b0, bA, bn, bk, hd⟩ := item_disp hit
        obtain rfl := hd.val
        have hxl : j < xs.length := by have := HLEN.out; omega
        obtain ⟨b, off, rfl, hbl, hPb, hcell⟩ := HCL.out (by omega)
        have x0 : wr.cell? ⟨b, off + j, none⟩ = some (.iface T x) := by
          rw [cell_same ((HINV.out.keep b (.inl hPb)).trans (HSW.out b hPb)) (off + j), hcell j hxl, ← List.getElem?_eq_getElem hxl]; exact hvj
        have cY : wr.cell? ⟨W.heap.size, 0, none⟩ = some (.func (.yield ln) #[] #[]) := HINV.out.yb.cell 0
        have c2 : wr.cell? ⟨FB, 0, none⟩ = some (.int .i64 k) := by
          rw [cell_same (HINV.out.keep FB (.inr (.inr rfl))) 0]; exact HF.out.cell 0
        have hnx : EvIn w P (evL l k) (pre ++ [(k, l[j], .iface T x)]) := by
          refine ⟨?_, fun y hy => ?_⟩
          · rw [List.map_append, HEV.out.1]; exact evL_prefix hjl
          · rcases List.mem_append.1 hy with hy | hy
            · exact HEV.out.2 y hy
            · rw [List.mem_singleton.1 hy]; exact hit
        obtain ⟨fn, tmps, assign, body, hy, hRd⟩ := HY.out O pre (k, l[j], .iface T x) wr HINV.out.j hnx
        have hy' : (Instr.yield ln #[.int .i64 k, .iface T x]).run Tryz.prog wr = .ok (.round ln fn tmps assign body) wr := hy
        have HNX := Lib.hid hnx
        have HIT := Lib.hid hit
        have HD := Lib.hid hd
        have q1 : decide ((j : Int) < (xs.length : Int)) = true := decide_eq_true (by omega)
        clear hy hnx hcell hit hd hvj
        gi_wp2_with fail
        refine hRd.mono ?_
        rintro e W3 ⟨rfl, hJ3, hk3⟩
        have HINV3 := Lib.hid (HINV.out.round HRL.out hJ3 hk3)
        have c2 : W3.cell? ⟨FB, 0, none⟩ = some (.int .i64 k) := by
          rw [cell_same (HINV3.out.keep FB (.inr (.inr rfl))) 0]; exact HF.out.cell 0
        have ha := HD.out.asrt
        have hlk := HD.out.look
        have hen := HD.out.enter
        have hwr := HINV3.out.size
        clear hJ3 hk3 hy' x0 cY
        have HINV4 := Lib.hid (HINV3.out.below HJ.out HRL.out ((Below.refl _ W3).alloc (Nat.le_refl _) (.cells #[.bool b0, .slice bA bn bk] 184)))
        have HW := Lib.hid (HD.out.goes w P (W3.alloc (.cells #[.bool b0, .slice bA bn bk] 184)) HIT.out ⟨by simp; omega, fun b hb hp => (HINV4.out.keep b (.inl hp)).trans (HSW.out b hp)⟩)
        obtain ⟨k', hk'⟩ : ∃ k', k' = (if frI l[j] = true then k + 1 else k) := ⟨_, rfl⟩
        have HK' := Lib.hid hk'
        have hk9 : k' ≤ 9 := by
          rw [hk']
          split
          · have := okI_frame (okL_get HOK.out l[j] (List.getElem_mem hjl)) (by assumption); omega
          · exact hk
        have s1 : IntKind.i64.wrap ((k : Int) + 1) = (k : Int) + 1 := IntWalk.i64_in _ (by omega)
        have HE6 : Hid (Value.int .i64 ((k' : Nat) : Int) = (if frI l[j] = true then Value.int .i64 ((k : Int) + 1) else Value.int .i64 (k : Int))) := by
          show _ = _
          rw [hk']
          split <;> simp
        clear hk'
        obtain ⟨W4, hW4⟩ : ∃ W4, W4 = W3.alloc (.cells #[.bool b0, .slice bA bn bk] 184) := ⟨_, rfl⟩
        rw [← hW4] at HINV4 HW
        have HW4 := Lib.hid hW4
        clear hW4
        cases hfr : frI l[j]
        any_goals
          rw [hfr] at ha HE6
          gi_wp2_with fail
          rw [← HW4.out]
          refine ⟨trivial, (callsIn_wide.2 HW.out).mono ?_⟩
          rintro e W5 ⟨A2, k2, vs2, rfl, hr2, hrows, hb5⟩
          have HINV5 := Lib.hid (HINV4.out.below HJ.out HRL.out hb5)
          have HR2 := Lib.hid hr2
          have HROWS := Lib.hid hrows
          have HVL := Lib.hid hrows.len
          have hv1000 : vs2.length ≤ 1000 := by have := hrows.len; have := bod_length l[j]; have := txL_mem (List.getElem_mem hjl); have := HN.out; omega
          clear hr2 hrows hb5 ha hlk hen c2
          gi_wp2_with fail
          refine wpIn_loop_ghost_k (fun gk a wr => ∃ u4 u5 u7 u8 u9 u10 u11 u12 u16 u17 u18 u19 u20 u21 u22 u23 u24 u25 u26 u27 u28 u29 u30 u31 u32 u33 u37 u38 u39 u40 u41 u42 u43 u44 u45 u46 u47 u48 u49 u50 u51 O2 pre2 m ds2, a = { tmps := #[.func (.yield ln) #[] #[], .pointer (some ⟨CB, 0, none⟩), .pointer (some ⟨FB, 0, none⟩), .pointer (some ⟨W.heap.size, 0, none⟩), u4, u5, .int .i64 (k' : Nat), u7, u8, u9, u10, u11, u12, .slice (some ⟨b, off, none⟩) xs.length cap, .int .i64 xs.length, .int .i64 (j : Nat), u16, u17, u18, u19, u20, u21, u22, u23, u24, u25, u26, u27, u28, u29, u30, u31, u32, u33, .slice A2 vs2.length k2, .int .i64 vs2.length, .int .i64 (m : Nat), u37, u38, u39, u40, u41, u42, u43, u44, u45, u46, u47, u48, u49, u50, u51], defers := mks ds2 } ∧ gk = vs2.length - m ∧ m ≤ vs2.length ∧ Hid (EvAll w P (evL (l.take j) k ++ (k, l[j]) :: evB ((bodI l[j]).take m) k') pre2) ∧ Hid (EvInv W (fun b => P b ∨ b = CB ∨ b = FB) W.heap.size ln J O2 pre2 ds2 wr) ∧ Hid (∀ b, W4.heap.size ≤ b → b < W5.heap.size → O2 b ∧ wr.heap[b]? = W5.heap[b]?)) vs2.length ?_ ?_
          · refine ⟨_, _, _, _, _, _, _, _, _, _, _, _, _, _, _, _, _, _, _, _, _, _, _, _, _, _, _, _, _, _, _, _, _, _, _, _, _, _, _, _, _, more (more O W3 W4) W4 W5, pre ++ [(k, l[j], Value.iface T x)], 0, ds, by rw [HE6.out]; rfl, by simp, Nat.zero_le _, ⟨?_, HNX.out.2⟩, HINV5.out, fun b h1 h2 => ⟨.inr ⟨h1, h2⟩, rfl⟩⟩
            rw [List.map_append, HEV.out.1, List.take_zero, evB]; rfl
          · rintro gk a wr2 ⟨u4, u5, u7, u8, u9, u10, u11, u12, u16, u17, u18, u19, u20, u21, u22, u23, u24, u25, u26, u27, u28, u29, u30, u31, u32, u33, u37, u38, u39, u40, u41, u42, u43, u44, u45, u46, u47, u48, u49, u50, u51, O2, pre2, m, ds2, rfl, rfl, hm, HEV2, HINV2, HB2⟩ J2 K2 hJ2 hK2
            by_cases hml : m < vs2.length
            · have hmb : m < (bodI l[j]).length := by have := HVL.out; omega
              obtain ⟨vm, hvm, hrowm⟩ := HROWS.out.at_ m hmb
              obtain ⟨A6, k6, m6, rfl, hrowm⟩ := rowAt_form hrowm
              obtain ⟨A2', cap2', e2, hc2⟩ := HR2.out
              obtain ⟨b2, off2, e3, hb2l, hb2p, hcell2⟩ := hc2 (by omega)
              injection e2 with e2 _ e4
              subst e2 e3 e4
              have hb2w : wr2.heap[b2]? = W5.heap[b2]? := by
                rcases hb2p with hp | hp
                · exact (HINV2.out.keep b2 (.inl hp)).trans (HINV5.out.keep b2 (.inl hp)).symm
                · exact (HB2.out b2 hp hb2l).2
              have x0 : wr2.cell? ⟨b2, off2 + m, none⟩ = some (.slice A6 m6 k6) := by
                rw [cell_same hb2w (off2 + m), hcell2 m hml, ← List.getElem?_eq_getElem hml]; exact hvm
              have HROWM := Lib.hid hrowm
              have q1 : decide ((m : Int) < (vs2.length : Int)) = true := decide_eq_true (by omega)
              clear hvm hrowm hc2 hcell2 hb2w
              gi_wp2_with fail
              refine ⟨trivial, (callsIn_wide.2 (everyItem_any A6 m6 k6 k' wr2)).mono ?_⟩
              rintro e W6 ⟨rfl, hW6⟩
              have hb6 : Below wr2.heap.size wr2 W6 := by rw [hW6]; exact ((Below.refl _ _).alloc (Nat.le_refl _) _).alloc (by simp) _
              have hB1 : Blk W6 wr2.heap.size 129 #[.slice A6 m6 k6] := by rw [hW6]; exact (Blk.new wr2 _ _).alloc _
              have hB2 : Blk W6 (wr2.heap.size + 1) 3 #[.int .i64 k'] := by
                have := Blk.new (wr2.alloc (.cells #[.slice A6 m6 k6] 129)) 3 #[.int .i64 k']
                rw [World.size_alloc] at this
                rw [hW6]; exact this
              have hs6 : W6.heap.size = wr2.heap.size + 2 := by rw [hW6]; simp
              have HINV6 := Lib.hid (HINV2.out.below HJ.out HRL.out hb6)
              have hwr2 := HINV2.out.size
              have HSEQ := Lib.hid (seqAll_wide (m := 2) (HIH.out (bodI l[j])[m] k' W6 wr2.heap.size (wr2.heap.size + 1) (.slice A6 m6 k6) (by omega) (by
                have h1 := bod_shorter (List.getElem_mem hmb)
                have h2 := txL_mem (List.getElem_mem hjl)
                have h3 := HN.out
                omega) (by
                have := okI_bod (okL_get HOK.out l[j] (List.getElem_mem hjl)) _ (List.getElem_mem hmb)
                rw [← HK'.out] at this; exact this) hk9 HROWM.out ⟨by omega, fun b hb hp => (HINV6.out.keep b (.inl hp)).trans (HSW.out b hp)⟩ hB1 hB2))
              have HB6 := Lib.hid hb6
              have hy6 : W.heap.size < wr2.heap.size := HINV2.out.yb.lt
              clear hW6 hb6 hB1 hB2 x0
              gi_wp2_with fail
              refine wpIn_rangeFunc_all rfl (by decide) (gf := 115) (lb := #[.pointer (some ⟨wr2.heap.size, 0, none⟩), .pointer (some ⟨wr2.heap.size + 1, 0, none⟩)]) rfl trivial (enters_of Tryz.func115 (by kernel_rfl) rfl) HSEQ.out (Below.refl _ _) (fun _ => rfl) (fun b hb => ?_)
                (fun Oin pre3 Wt => ∃ Oo, (∀ b, Oin b → Oo b) ∧ (∀ b, more O2 wr2 W6 b → Oo b) ∧ Hid (EvInv W (fun b => P b ∨ b = CB ∨ b = FB) W.heap.size ln J Oo (pre2 ++ pre3) ds2 Wt) ∧ Hid (∀ b, b < W6.heap.size → more O2 wr2 W6 b → Wt.heap[b]? = W6.heap[b]?))
                ?_ ?_ (fun x3 : Nat × It × Value => { tmps := #[.func (.yield ln) #[] #[], .pointer (some ⟨CB, 0, none⟩), .pointer (some ⟨FB, 0, none⟩), .pointer (some ⟨W.heap.size, 0, none⟩), u4, u5, .int .i64 (k' : Nat), u7, u8, u9, .slice A6 m6 k6, .int .i64 x3.1, x3.2.2, .slice (some ⟨b, off, none⟩) xs.length cap, .int .i64 xs.length, .int .i64 (j : Nat), u16, u17, u18, u19, u20, u21, u22, u23, u24, u25, u26, u27, u28, u29, u30, u31, u32, u33, .slice (some ⟨b2, off2, none⟩) vs2.length k2, .int .i64 vs2.length, .int .i64 (m : Nat), .bool true, .pointer (some ⟨b2, off2 + m, none⟩), .slice A6 m6 k6, .slice A6 m6 k6, .int .i64 (k' : Nat), .func (.func 115) #[] #[.pointer (some ⟨wr2.heap.size, 0, none⟩), .pointer (some ⟨wr2.heap.size + 1, 0, none⟩)], .int .i64 x3.1, x3.2.2, u45, u46, u47, u48, u49, u50, u51], defers := [] }) ?_ ?_ ?_
              · rcases hb with hb | hb | hb
                · have := HPL.out b hb; omega
                · omega
                · omega
              · rintro Ot pre3 X Y hle hO ⟨Oo, h1, h2, h3, h4⟩ hT
                refine ⟨more Oo X Y, ?_, fun b hb => .inl (h2 b hb), h3.out.turns HJ.out HRL.out hT h1 ?_ ?_ ?_, ?_⟩
                · rintro b (hb | hb)
                  · exact .inl (h1 b hb)
                  · exact .inr hb
                · intro hb; have := hO _ hb; omega
                · intro D hD hb
                  have := hO _ hb
                  have := HINV2.out.own D (HINV2.out.marks D hD).1
                  omega
                · intro b hb hb'; have := hO _ hb'; have := HRL.out b hb; omega
                · intro b hb hb'
                  exact (hT.block b (by omega) fun e => by have := hO b e; omega).trans (h4.out b hb hb')
              · exact ⟨_, fun b hb => hb.elim, fun b hb => hb, by rw [List.append_nil]; exact HINV6.out, fun b _ _ => rfl⟩
              · intro l3 x3 W7 K7 hK7
                gi_wp2
                exact hK7
              · rintro l3 Oin pre3 x3 Wt hle hO ⟨Oo, h1, h2, h3, h4⟩ hnx3
                obtain ⟨xk, xi, xv⟩ := x3
                have hnx4 : EvIn w P (evL l k) (pre2 ++ pre3 ++ [(xk, xi, xv)]) := by
                  refine ⟨?_, fun y hy => ?_⟩
                  · rw [List.append_assoc, List.map_append, HEV2.out.1]
                    obtain ⟨t, ht⟩ := hnx3.1
                    have h5 := evL_prefix_bod (k := k) hjl hmb
                    rw [← HK'.out] at h5
                    refine List.IsPrefix.trans ⟨t, ?_⟩ h5
                    rw [← ht]; simp
                  · rw [List.append_assoc] at hy
                    rcases List.mem_append.1 hy with hy | hy
                    · exact HEV2.out.2 y hy
                    · exact hnx3.2 y hy
                obtain ⟨fn, tmps, assign, body, hy, hRd⟩ := HY.out Oo (pre2 ++ pre3) (xk, xi, xv) Wt h3.out.j hnx4
                have hy' : (Instr.yield ln #[.int .i64 xk, xv]).run Tryz.prog Wt = .ok (.round ln fn tmps assign body) Wt := hy
                have cY : Wt.cell? ⟨W.heap.size, 0, none⟩ = some (.func (.yield ln) #[] #[]) := h3.out.yb.cell 0
                obtain ⟨T7, x7, rfl⟩ := (hnx3.2 (xk, xi, xv) (by simp)).iface
                clear hy hnx4
                gi_wp2_with fail
                refine (roundIn_in hRd).mono ?_
                rintro e W7 ⟨rfl, hJ7, hk7⟩
                have H7 := Lib.hid (h3.out.round HRL.out hJ7 hk7)
                have HK7 : Hid (Keeps (fun b => (P b ∨ b = CB ∨ b = FB) ∨ Oo b) Wt W7) := hk7
                clear hJ7 hk7 hy' cY
                gi_wp2_with fail
                refine ⟨HK7.out.fewer fun b hb => ?_, Oo, h1, h2, ?_, fun b hb hb' => (HK7.out.2 b (by omega) (.inr (h2 b hb'))).trans (h4.out b hb hb')⟩
                · rcases hb with (hb | hb | hb) | hb
                  · exact .inl (.inl hb)
                  · exact .inr (h2 b (.inr ⟨by omega, by omega⟩))
                  · exact .inr (h2 b (.inr ⟨by omega, by omega⟩))
                  · exact .inr (h1 b hb)
                · rw [← List.append_assoc]; exact H7.out
              · rintro D Oin xs3 Wt hD hO hS ⟨Oo, h1, h2, h3, h4⟩ hOD hKD
                have s2 : IntKind.i64.wrap ((m : Int) + 1) = (m : Int) + 1 := IntWalk.i64_in _ (by omega)
                have hm2 : (m : Int) + 1 ≤ 1001 := by omega
                have hm3 : (0 : Int) ≤ (m : Int) + 1 := by omega
                have HDD := Lib.hid hD
                have HKD := Lib.hid hKD
                have HSS := Lib.hid hS
                clear hD hKD hS
                gi_wp2_with fail
                refine Handed.intro (vs2.length - (m + 1)) (by omega) (hJ2 _ _ _ ?_)
                have hsz5 : ∀ b, W4.heap.size ≤ b → b < W5.heap.size → b < wr2.heap.size := fun b hb1 hb2 => (HINV2.out.own b (HB2.out b hb1 hb2).1).2
                refine ⟨_, _, _, _, _, _, _, _, _, _, _, _, _, _, _, _, _, _, _, _, _, _, _, _, _, _, _, _, _, _, _, _, _, _, _, _, _, _, _, _, _, Oo, pre2 ++ xs3, m + 1, D :: ds2, by rw [mks_cons]; rfl, rfl, by omega, ?_, ?_, fun b hb1 hb2 => ⟨h2 b (.inl (HB2.out b hb1 hb2).1), ?_⟩⟩
                · refine ⟨?_, fun y hy => ?_⟩
                  · rw [List.map_append, HEV2.out.1, HSS.out.1, evB_step hmb]; simp
                  · rcases List.mem_append.1 hy with hy | hy
                    · exact HEV2.out.2 y hy
                    · exact HSS.out.2 y hy
                · have h5 := h3.out
                  refine ⟨h5.j, h5.yo, h5.yb, h5.keep, h5.size, h5.own, fun E hE => ?_, List.nodup_cons.2 ⟨fun hE => ?_, h5.nodup⟩⟩
                  · rcases List.mem_cons.1 hE with rfl | hE
                    · exact ⟨h1 E hOD, HKD.out⟩
                    · exact h5.marks E hE
                  · have := HINV2.out.own D (HINV2.out.marks D hE).1
                    have := HDD.out
                    omega
                · have h6 := hsz5 b hb1 hb2
                  exact ((h4.out b (by omega) (.inl (HB2.out b hb1 hb2).1)).trans (HB6.out.block b h6)).trans (HB2.out b hb1 hb2).2
            · have q1 : decide ((m : Int) < (vs2.length : Int)) = false := decide_eq_false (by omega)
              have q2 : ¬ m < vs2.length := hml
              have s3 : IntKind.i64.wrap ((j : Int) + 1) = (j : Int) + 1 := IntWalk.i64_in _ (by omega)
              have hj2 : (j : Int) + 1 ≤ 1001 := by omega
              have hj3 : (0 : Int) ≤ (j : Int) + 1 := by omega
              gi_wp2_with fail
              refine Handed.intro (l.length - (j + 1)) (by omega) (hJ' _ _ _ ?_)
              refine ⟨_, _, _, _, _, _, _, _, _, _, _, _, _, _, _, _, _, _, _, _, _, _, _, _, _, _, _, _, _, _, _, _, _, _, _, _, _, _, _, _, _, _, _, _, _, O2, pre2, j + 1, ds2, rfl, rfl, by omega, ⟨?_, HEV2.out.2⟩, HINV2.out⟩
              rw [HEV2.out.1, evL_step hjl, ← HK'.out, List.take_of_length_le (l := bodI l[j]) (i := m) (by have := HVL.out; omega)]
      · have q1 : decide ((j : Int) < (xs.length : Int)) = false := decide_eq_false (by have := HLEN.out; omega)
        have q2 : ¬ j < xs.length := by have := HLEN.out; omega
        gi_wp2_with fail
        refine leaves_marks ds wr (fun D hD => (HINV.out.marks D hD).2) HINV.out.nodup fun w2 hT => ?_
        have hjl2 : j = l.length := by omega
        refine ⟨_, results_none rfl _ _ _, ⟨_, rfl⟩, pre, ?_, more O wr w2, HJ.out O pre wr w2 HINV.out.j (hT.wider fun b hb => (HINV.out.marks b hb).1)⟩
        have h5 := HEV.out
        rw [hjl2, List.take_length] at h5
        exact h5
end Go.Proofs.YtgebedbankibmaaGreatDoor

/-
  The model's count of frames within each other.
-/
namespace Go.Proofs.YtgebedbankibmaaGreatDoor
open Go.RowKit Go.Sort

end Go.Proofs.YtgebedbankibmaaGreatDoor

/-
  FramesIn of both.
-/
namespace Go.Proofs.YtgebedbankibmaaGreatDoor
open Go.RowKit Go.Sort
attribute [local go_sem] Oper.semAt_some

theorem below_putD {w W : World} {B D : Nat} (h : Below B w W) (hD : B ≤ D) (o : Obj) : Below B w (W.putObj D o) :=
  ⟨h.os, h.tape, h.output, by simpa using h.size, fun k hk => (World.putObj_heap_other (by omega)).trans (h.block k hk)⟩

end Go.Proofs.YtgebedbankibmaaGreatDoor

/-
  FarthestLeave of the model.
-/
namespace Go.Proofs.YtgebedbankibmaaGreatDoor
open Go.RowKit Go.Sort
attribute [local go_sem] Oper.semAt_some

end Go.Proofs.YtgebedbankibmaaGreatDoor

/-
  CountItems of the model: how many items of a kind; plain facts.
-/
namespace Go.Proofs.YtgebedbankibmaaGreatDoor
open Go.RowKit Go.Sort
attribute [local go_sem] Oper.semAt_some

theorem count_drewN (w : World) (n : Nat) : Below w.heap.size w (w.drewN n) := ⟨rfl, rfl, rfl, Nat.le_refl _, fun _ _ => rfl⟩
theorem kindI_kdI (i : It) : kindI i = kdI i := by
  cases i with
  | frame b l => cases b <;> rfl
  | _ => rfl
theorem cn_flL (kd : UInt8) (l : List It) : (flL l).countP (fun i => decide (kdI i = kd)) = cnL kd l := by
  have h := cn_evL kd l 0
  rw [← h]; unfold flL; rw [List.countP_map]; rfl
def cntK (kd : UInt8) (l : List It) : Nat := l.countP fun i => decide (kdI i = kd)
theorem cntK_step {kd : UInt8} {l : List It} {j : Nat} (h : j < l.length) : cntK kd (l.take (j + 1)) = cntK kd (l.take j) + (if kdI l[j] = kd then 1 else 0) := by
  unfold cntK
  rw [List.take_succ_eq_append_getElem h, List.countP_append, List.countP_cons, List.countP_nil, Nat.zero_add]
  simp
theorem cntK_le (kd : UInt8) (l : List It) : cntK kd l ≤ l.length := List.countP_le_length ..
theorem same_kind (i : It) (kd : UInt8) : ((((kindI i).toNat : Int) == (kd.toNat : Int)) = true ∧ kdI i = kd) ∨ ((((kindI i).toNat : Int) == (kd.toNat : Int)) = false ∧ kdI i ≠ kd) := by
  rw [kindI_kdI]
  by_cases h : kdI i = kd
  · exact .inl ⟨by rw [h]; simp, h⟩
  · refine .inr ⟨?_, h⟩
    have : (kdI i).toNat ≠ kd.toNat := fun e => h (UInt8.toNat_inj.1 e)
    simp; omega

open Classical in
/-- How many items of a kind a text has; -1 if it is no text, or that no kind. -/
noncomputable def countZ (s kd : List UInt8) : Int := if h : ∃ l c, textOk s l ∧ kd = [c] ∧ c ∈ [88, 63, 40, 123, 94, 46, 61, 35] then (cnL h.choose_spec.choose h.choose : Int) else -1
theorem countZ_yes {s kd : List UInt8} {l : List It} {c : UInt8} (h : textOk s l) (hk : kd = [c]) (hc : c ∈ ([88, 63, 40, 123, 94, 46, 61, 35] : List UInt8)) : countZ s kd = (cnL c l : Int) := by
  have k : ∃ l c, textOk s l ∧ kd = [c] ∧ c ∈ ([88, 63, 40, 123, 94, 46, 61, 35] : List UInt8) := ⟨l, c, h, hk, hc⟩
  unfold countZ
  rw [dif_pos k]
  have h1 := k.choose_spec.choose_spec
  have e1 := textOk_uniq h1.1 h
  have e2 : k.choose_spec.choose = c := (List.cons.inj (h1.2.1.symm.trans hk)).1
  rw [e2, e1]
theorem countZ_no {s kd : List UInt8} (h : ∀ l c, textOk s l → kd = [c] → c ∈ ([88, 63, 40, 123, 94, 46, 61, 35] : List UInt8) → False) : countZ s kd = -1 :=
  dif_neg fun ⟨l, c, h1, h2, h3⟩ => h l c h1 h2 h3

theorem kinds_find (c : UInt8) : (c ∈ ([88, 63, 40, 123, 94, 46, 61, 35] : List UInt8) ∧ (Lib.indexByte [88, 63, 40, 123, 94, 46, 61, 35] c < 0) = False) ∨ (c ∉ ([88, 63, 40, 123, 94, 46, 61, 35] : List UInt8) ∧ (Lib.indexByte [88, 63, 40, 123, 94, 46, 61, 35] c < 0) = True) := by
  have h : ∀ n : Fin 256, (UInt8.ofNat n.1 ∈ ([88, 63, 40, 123, 94, 46, 61, 35] : List UInt8) ∧ ¬ (Lib.indexByte [88, 63, 40, 123, 94, 46, 61, 35] (UInt8.ofNat n.1) < 0)) ∨ (UInt8.ofNat n.1 ∉ ([88, 63, 40, 123, 94, 46, 61, 35] : List UInt8) ∧ Lib.indexByte [88, 63, 40, 123, 94, 46, 61, 35] (UInt8.ofNat n.1) < 0) := by decide +kernel
  have h1 := h ⟨c.toNat, c.toNat_lt⟩
  simp only [UInt8.ofNat_toNat] at h1
  rcases h1 with ⟨a, b⟩ | ⟨a, b⟩
  · exact .inl ⟨a, eq_false b⟩
  · exact .inr ⟨a, eq_true b⟩

set_option maxRecDepth 100000 in
theorem specCountItems_any (s kd : List UInt8) (w : World) (hs : s.length ≤ 1048576) (hkd : kd.length ≤ 1048576) :
    Calls Tryz.prog 43 #[.string (tb s), .string (tb kd)] w fun e w' => e = .returned (.int .i64 (countZ s kd)) ∧ Below w.heap.size w w' := by
  have HC := Lib.hid (l5Read_any s w hs)
  have hz : (tb kd).size = kd.length := tb_size kd
  go_enter Tryz.func43, Tryz.ntmps43
  go_wp2_with fail
  refine HC.out.mono ?_
  rintro e w1 (⟨l, A, n, k, hl, rfl, hrow, b1⟩ | ⟨hno, A, k, rfl, b1⟩)
  · have hlen : (txL l).length < 201 := by have := hl.1; rw [hl.2.2] at this; omega
    have HB := Lib.hid b1
    by_cases hk1 : kd.length = 1
    · obtain ⟨c, rfl⟩ := List.length_eq_one_iff.1 hk1
      have hsz : (tb [c]).size = 1 := hz
      have hrow2 : MRowAt w1 (fun b => w.heap.size ≤ b ∧ b < w1.heap.size) l (.slice A n k) := hrow.stay ⟨Nat.le_refl _, fun b hb hp => ⟨⟨hp, hb⟩, rfl⟩⟩
      have HF := Lib.hid (l5Each_any w1 _ (fun b hb => hb.2) 201 l _ w1 (by omega) hlen hrow2 ⟨Nat.le_refl _, fun _ _ _ => rfl⟩)
      have HL := Lib.hid hl
      have hp0 : 0 < (tb [c]).size := by omega
      have h0 : (tb [c])[0]'hp0 = c := rfl
      obtain ⟨z, hz2⟩ : ∃ z, z = Lib.indexByte [88, 63, 40, 123, 94, 46, 61, 35] c := ⟨_, rfl⟩
      have hk2 := kinds_find c
      rw [← hz2] at hk2
      have HFI : Hid (Calls Tryz.prog 71 #[.string ⟨#[88, 63, 40, 123, 94, 46, 61, 35]⟩, .int .u8 ((tb [c])[0]'hp0).toNat] w1 fun e w' => e = .returned (.int .i64 z) ∧ w1 = w') := by
        have := find_any ⟨#[88, 63, 40, 123, 94, 46, 61, 35]⟩ ((tb [c])[0]'hp0) w1 (by decide)
        rw [hz2]; exact this
      have H0 := Lib.hid h0
      have HK2 := Lib.hid hk2
      have hf1000 : (flL l).length ≤ 200 := by have := flL_length l; omega
      clear hl b1 hrow hrow2 hz hz2 h0 hk2
      go_wp2_with fail
      refine HFI.out.mono ?_
      rintro e w1' ⟨rfl, rfl⟩
      rcases HK2.out with ⟨hmem, hzz⟩ | ⟨hmem, hzz⟩
      · have HZ := Lib.hid (countZ_yes HL.out rfl hmem)
        have hz3 : ¬ z < 0 := by rw [hzz]; exact id
        clear hmem HK2
        go_wp2_with fail
        refine HF.out.mono ?_
        rintro e w2 ⟨g, c3, xs, rfl, hown, hall, b2⟩
        have HX : Hid (∀ (jj : Nat) (u : Value), xs[jj]? = some u → w2.cell? ⟨g, 0 + jj, none⟩ = some u) := by
          intro jj u hj
          have hjl2 := (List.getElem?_eq_some_iff.1 hj).1
          have hl2 := hall.len
          have hc := hown.cellAt jj (by omega)
          rw [hj] at hc
          rw [Nat.zero_add]
          exact hc
        have HALL := Lib.hid hall
        have HB2 := Lib.hid (below_trans_self HB.out b2)
        have HG := Lib.hid (hown.lt g rfl).2
        clear b2 hall hown
        go_wp2_with fail
        go_loopg [7, 31] (flL l).length (fun gk ov iv wr => ∃ j : Nat, gk = (flL l).length - j ∧ j ≤ (flL l).length ∧ iv = .int .i64 j ∧ ov = .int .i64 (cntK c ((flL l).take j) : Nat) ∧ Hid (Below w.heap.size w wr) ∧ Hid (Below w2.heap.size w2 wr))
        case atStart => exact ⟨0, by omega, Nat.zero_le _, rfl, by rw [List.take_zero]; rfl, HB2.out, Below.refl _ _⟩
        case round =>
          obtain ⟨j, rfl, hj, rfl, rfl, HB3, HB4⟩ := hrel
          by_cases hjl : j < (flL l).length
          · obtain ⟨vb, hbod, y0, y1, y2, y3⟩ := HALL.out.at_ j hjl
            have hg := HG.out
            have hsm : wr.heap[g]? = w2.heap[g]? := HB4.out.block g hg
            have hat : ∀ k u, xs[k]? = some u → wr.cell? ⟨g, 0 + k, none⟩ = some u := fun k u hk => by
              rw [cell_same hsm (0 + k)]; exact HX.out k u hk
            obtain ⟨A2, n2, c2, rfl⟩ := hbod.slice
            have x0 : wr.cell? ⟨g, j * 4, none⟩ = some (.int .u8 (kindI (flL l)[j]).toNat) := by have := hat _ _ y0; rw [Nat.zero_add] at this; exact this
            have x1 : wr.cell? ⟨g, j * 4 + 1, none⟩ = some (.string (tb (nameI (flL l)[j]))) := by have := hat _ _ y1; rw [Nat.zero_add] at this; exact this
            have x2 : wr.cell? ⟨g, j * 4 + 2, none⟩ = some (.int .i64 (numI (flL l)[j])) := by have := hat _ _ y2; rw [Nat.zero_add] at this; exact this
            have x3 : wr.cell? ⟨g, j * 4 + 3, none⟩ = some (.slice A2 n2 c2) := by have := hat _ _ y3; rw [Nat.zero_add] at this; exact this
            have hst := cntK_step (kd := c) hjl
            have hmx : cntK c ((flL l).take j) ≤ 200 := by have := cntK_le c ((flL l).take j); rw [List.length_take] at this; omega
            have HST := Lib.hid hst
            have HBa := Lib.hid (HB3.out.alloc HB3.out.size (.cells #[.int .u8 (kindI (flL l)[j]).toNat, .string (tb (nameI (flL l)[j])), .int .i64 (numI (flL l)[j]), .slice A2 n2 c2] 128))
            have HBb := Lib.hid (HB4.out.alloc HB4.out.size (.cells #[.int .u8 (kindI (flL l)[j]).toNat, .string (tb (nameI (flL l)[j])), .int .i64 (numI (flL l)[j]), .slice A2 n2 c2] 128))
            obtain ⟨d1, hd1⟩ : ∃ d1, d1 = cntK c ((flL l).take j) := ⟨_, rfl⟩
            rw [← hd1] at HST hmx
            rw [← hd1]
            have s1 : IntKind.i64.wrap ((d1 : Int) + 1) = (d1 : Int) + 1 := IntWalk.i64_in _ (by omega)
            have hsk : ((((kindI (flL l)[j]).toNat : Int) == (((tb [c])[0]'hp0).toNat : Int)) = true ∧ kdI (flL l)[j] = c) ∨ ((((kindI (flL l)[j]).toNat : Int) == (((tb [c])[0]'hp0).toNat : Int)) = false ∧ kdI (flL l)[j] ≠ c) := same_kind (flL l)[j] c
            clear hat y0 y1 y2 y3 hsm hst hd1 hbod
            rcases hsk with ⟨e1, hf⟩ | ⟨e1, hf⟩
            · have HF1 := Lib.hid (show (if kdI (flL l)[j] = c then 1 else 0) = 1 from if_pos hf)
              clear hf
              go_wp2_with fail
              go_quiet (fail)
              go_wp2_with fail
              go_roundg ((flL l).length - (j + 1))
              case measure => omega
              case rel => exact ⟨j + 1, rfl, by omega, by go_num, by rw [HST.out, HF1.out]; rfl, HBa.out.trans ((count_drewN _ nq).mono HBa.out.size), HBb.out.trans ((count_drewN _ nq).mono HBb.out.size)⟩
            · have HF1 := Lib.hid (show (if kdI (flL l)[j] = c then 1 else 0) = 0 from if_neg hf)
              clear hf
              go_wp2_with fail
              go_quiet (fail)
              go_wp2_with fail
              go_roundg ((flL l).length - (j + 1))
              case measure => omega
              case rel => exact ⟨j + 1, rfl, by omega, by go_num, by rw [HST.out, HF1.out]; rfl, HBa.out.trans ((count_drewN _ nq).mono HBa.out.size), HBb.out.trans ((count_drewN _ nq).mono HBb.out.size)⟩
          · have hjl2 : j = (flL l).length := by omega
            have HE := Lib.hid (show cntK c ((flL l).take j) = cnL c l by rw [hjl2, List.take_length]; exact cn_flL c l)
            clear hjl2
            go_wp2_with fail
            go_ret
            exact ⟨by rw [HE.out, HZ.out]; rfl, HB3.out⟩
      · have HN := Lib.hid (countZ_no (s := s) (kd := [c]) fun l c' _ e hm => hmem (by rw [(List.cons.inj e).1]; exact hm))
        have hz3 : z < 0 := by rw [hzz]; trivial
        clear hmem HK2
        go_wp2_with fail
        go_ret
        exact ⟨by rw [HN.out]; rfl, HB.out⟩
    · have HN := Lib.hid (countZ_no (s := s) (kd := kd) fun l c _ e _ => hk1 (by rw [e]; rfl))
      have hne : (((kd.length : Int)) == 1) = false := by simp; omega
      clear hl b1 hrow
      go_wp2_with fail
      go_ret
      exact ⟨by rw [HN.out]; rfl, HB.out⟩
  · have HN := Lib.hid (countZ_no (s := s) (kd := kd) fun l _ h _ _ => hno l h)
    have HB := Lib.hid b1
    clear hno b1
    go_wp2_with fail
    go_ret
    exact ⟨by rw [HN.out]; rfl, HB.out⟩
end Go.Proofs.YtgebedbankibmaaGreatDoor

/-
  The program's kindOf.
-/
namespace Go.Proofs.YtgebedbankibmaaGreatDoor
open Go.RowKit Go.Sort
attribute [local go_sem] Oper.semAt_some

set_option maxRecDepth 100000 in
theorem kindOf_any {w0 : World} {P : Nat → Prop} {i : It} {v : Value} (h : ItemAt w0 P i v) (w : World) :
    Calls Tryz.prog 76 #[v] w fun e w' => e = .returned (.string (tb [kdI i])) ∧ Below w.heap.size w w' := by
  cases i with
  | blk c =>
    rw [ItemAt] at h; subst h
    have a0 : ∀ w, (Instr.typeAssert (.iface 189 (.agg #[.string (tb [c])])) 137 189 true).run Tryz.prog w = .ok (.tuple #[.agg #[.string (tb [c])], .bool true]) w := fun w => by kernel_rfl
    go_enter Tryz.func76, Tryz.ntmps76
    go_wp2_with fail
    go_ret
    exact ⟨rfl, by first | exact Below.refl _ _ | exact (Below.refl _ w).alloc (Nat.le_refl _) _ | exact ((Below.refl _ w).alloc (Nat.le_refl _) _).alloc (by simp) _⟩
  | stop =>
    rw [ItemAt] at h; subst h
    have a0 : ∀ w, (Instr.typeAssert (.iface 242 (.agg #[])) 137 189 true).run Tryz.prog w = .ok (.tuple #[.agg #[.string ⟨#[]⟩], .bool false]) w := fun w => by kernel_rfl
    have a1 : ∀ w, (Instr.typeAssert (.iface 242 (.agg #[])) 137 191 true).run Tryz.prog w = .ok (.tuple #[.agg #[.string ⟨#[]⟩, .slice none 0 0, .slice none 0 0], .bool false]) w := fun w => by kernel_rfl
    have a2 : ∀ w, (Instr.typeAssert (.iface 242 (.agg #[])) 137 184 true).run Tryz.prog w = .ok (.tuple #[.agg #[.bool false, .slice none 0 0], .bool false]) w := fun w => by kernel_rfl
    have a3 : ∀ w, (Instr.typeAssert (.iface 242 (.agg #[])) 137 193 true).run Tryz.prog w = .ok (.tuple #[.agg #[.int .i64 0], .bool false]) w := fun w => by kernel_rfl
    have a4 : ∀ w, (Instr.typeAssert (.iface 242 (.agg #[])) 137 195 true).run Tryz.prog w = .ok (.tuple #[.agg #[.int .i64 0], .bool false]) w := fun w => by kernel_rfl
    have a5 : ∀ w, (Instr.typeAssert (.iface 242 (.agg #[])) 137 197 true).run Tryz.prog w = .ok (.tuple #[.agg #[.slice none 0 0], .bool false]) w := fun w => by kernel_rfl
    go_enter Tryz.func76, Tryz.ntmps76
    go_wp2_with fail
    go_ret
    exact ⟨rfl, by first | exact Below.refl _ _ | exact (Below.refl _ w).alloc (Nat.le_refl _) _ | exact ((Below.refl _ w).alloc (Nat.le_refl _) _).alloc (by simp) _⟩
  | leave n =>
    rw [ItemAt] at h; subst h
    have a0 : ∀ w, (Instr.typeAssert (.iface 193 (.agg #[.int .i64 (n : Nat)])) 137 189 true).run Tryz.prog w = .ok (.tuple #[.agg #[.string ⟨#[]⟩], .bool false]) w := fun w => by kernel_rfl
    have a1 : ∀ w, (Instr.typeAssert (.iface 193 (.agg #[.int .i64 (n : Nat)])) 137 191 true).run Tryz.prog w = .ok (.tuple #[.agg #[.string ⟨#[]⟩, .slice none 0 0, .slice none 0 0], .bool false]) w := fun w => by kernel_rfl
    have a2 : ∀ w, (Instr.typeAssert (.iface 193 (.agg #[.int .i64 (n : Nat)])) 137 184 true).run Tryz.prog w = .ok (.tuple #[.agg #[.bool false, .slice none 0 0], .bool false]) w := fun w => by kernel_rfl
    have a3 : ∀ w, (Instr.typeAssert (.iface 193 (.agg #[.int .i64 (n : Nat)])) 137 193 true).run Tryz.prog w = .ok (.tuple #[.agg #[.int .i64 (n : Nat)], .bool true]) w := fun w => by kernel_rfl
    go_enter Tryz.func76, Tryz.ntmps76
    go_wp2_with fail
    go_ret
    exact ⟨rfl, by first | exact Below.refl _ _ | exact (Below.refl _ w).alloc (Nat.le_refl _) _ | exact ((Below.refl _ w).alloc (Nat.le_refl _) _).alloc (by simp) _⟩
  | set n =>
    rw [ItemAt] at h; subst h
    have a0 : ∀ w, (Instr.typeAssert (.iface 195 (.agg #[.int .i64 (n : Nat)])) 137 189 true).run Tryz.prog w = .ok (.tuple #[.agg #[.string ⟨#[]⟩], .bool false]) w := fun w => by kernel_rfl
    have a1 : ∀ w, (Instr.typeAssert (.iface 195 (.agg #[.int .i64 (n : Nat)])) 137 191 true).run Tryz.prog w = .ok (.tuple #[.agg #[.string ⟨#[]⟩, .slice none 0 0, .slice none 0 0], .bool false]) w := fun w => by kernel_rfl
    have a2 : ∀ w, (Instr.typeAssert (.iface 195 (.agg #[.int .i64 (n : Nat)])) 137 184 true).run Tryz.prog w = .ok (.tuple #[.agg #[.bool false, .slice none 0 0], .bool false]) w := fun w => by kernel_rfl
    have a3 : ∀ w, (Instr.typeAssert (.iface 195 (.agg #[.int .i64 (n : Nat)])) 137 193 true).run Tryz.prog w = .ok (.tuple #[.agg #[.int .i64 0], .bool false]) w := fun w => by kernel_rfl
    have a4 : ∀ w, (Instr.typeAssert (.iface 195 (.agg #[.int .i64 (n : Nat)])) 137 195 true).run Tryz.prog w = .ok (.tuple #[.agg #[.int .i64 (n : Nat)], .bool true]) w := fun w => by kernel_rfl
    go_enter Tryz.func76, Tryz.ntmps76
    go_wp2_with fail
    go_ret
    exact ⟨rfl, by first | exact Below.refl _ _ | exact (Below.refl _ w).alloc (Nat.le_refl _) _ | exact ((Below.refl _ w).alloc (Nat.le_refl _) _).alloc (by simp) _⟩
  | pick bs =>
    rw [ItemAt] at h; obtain ⟨vb, xs, rfl, ⟨A, k, rfl, _⟩, _⟩ := h
    have a0 : ∀ w, (Instr.typeAssert (.iface 197 (.agg #[.slice A xs.length k])) 137 189 true).run Tryz.prog w = .ok (.tuple #[.agg #[.string ⟨#[]⟩], .bool false]) w := fun w => by kernel_rfl
    have a1 : ∀ w, (Instr.typeAssert (.iface 197 (.agg #[.slice A xs.length k])) 137 191 true).run Tryz.prog w = .ok (.tuple #[.agg #[.string ⟨#[]⟩, .slice none 0 0, .slice none 0 0], .bool false]) w := fun w => by kernel_rfl
    have a2 : ∀ w, (Instr.typeAssert (.iface 197 (.agg #[.slice A xs.length k])) 137 184 true).run Tryz.prog w = .ok (.tuple #[.agg #[.bool false, .slice none 0 0], .bool false]) w := fun w => by kernel_rfl
    have a3 : ∀ w, (Instr.typeAssert (.iface 197 (.agg #[.slice A xs.length k])) 137 193 true).run Tryz.prog w = .ok (.tuple #[.agg #[.int .i64 0], .bool false]) w := fun w => by kernel_rfl
    have a4 : ∀ w, (Instr.typeAssert (.iface 197 (.agg #[.slice A xs.length k])) 137 195 true).run Tryz.prog w = .ok (.tuple #[.agg #[.int .i64 0], .bool false]) w := fun w => by kernel_rfl
    have a5 : ∀ w, (Instr.typeAssert (.iface 197 (.agg #[.slice A xs.length k])) 137 197 true).run Tryz.prog w = .ok (.tuple #[.agg #[.slice A xs.length k], .bool true]) w := fun w => by kernel_rfl
    go_enter Tryz.func76, Tryz.ntmps76
    go_wp2_with fail
    go_ret
    exact ⟨rfl, by first | exact Below.refl _ _ | exact (Below.refl _ w).alloc (Nat.le_refl _) _ | exact ((Below.refl _ w).alloc (Nat.le_refl _) _).alloc (by simp) _⟩
  | frame b l =>
    rw [ItemAt] at h; obtain ⟨vb, xs, rfl, ⟨A, k, rfl, _⟩, _⟩ := h
    cases b with
    | true =>
      have a0 : ∀ w, (Instr.typeAssert (.iface 184 (.agg #[.bool true, .slice A xs.length k])) 137 189 true).run Tryz.prog w = .ok (.tuple #[.agg #[.string ⟨#[]⟩], .bool false]) w := fun w => by kernel_rfl
      have a1 : ∀ w, (Instr.typeAssert (.iface 184 (.agg #[.bool true, .slice A xs.length k])) 137 191 true).run Tryz.prog w = .ok (.tuple #[.agg #[.string ⟨#[]⟩, .slice none 0 0, .slice none 0 0], .bool false]) w := fun w => by kernel_rfl
      have a2 : ∀ w, (Instr.typeAssert (.iface 184 (.agg #[.bool true, .slice A xs.length k])) 137 184 true).run Tryz.prog w = .ok (.tuple #[.agg #[.bool true, .slice A xs.length k], .bool true]) w := fun w => by kernel_rfl
      go_enter Tryz.func76, Tryz.ntmps76
      go_wp2_with fail
      go_ret
      exact ⟨rfl, by first | exact Below.refl _ _ | exact (Below.refl _ w).alloc (Nat.le_refl _) _ | exact ((Below.refl _ w).alloc (Nat.le_refl _) _).alloc (by simp) _⟩
    | false =>
      have a0 : ∀ w, (Instr.typeAssert (.iface 184 (.agg #[.bool false, .slice A xs.length k])) 137 189 true).run Tryz.prog w = .ok (.tuple #[.agg #[.string ⟨#[]⟩], .bool false]) w := fun w => by kernel_rfl
      have a1 : ∀ w, (Instr.typeAssert (.iface 184 (.agg #[.bool false, .slice A xs.length k])) 137 191 true).run Tryz.prog w = .ok (.tuple #[.agg #[.string ⟨#[]⟩, .slice none 0 0, .slice none 0 0], .bool false]) w := fun w => by kernel_rfl
      have a2 : ∀ w, (Instr.typeAssert (.iface 184 (.agg #[.bool false, .slice A xs.length k])) 137 184 true).run Tryz.prog w = .ok (.tuple #[.agg #[.bool false, .slice A xs.length k], .bool true]) w := fun w => by kernel_rfl
      go_enter Tryz.func76, Tryz.ntmps76
      go_wp2_with fail
      go_ret
      exact ⟨rfl, by first | exact Below.refl _ _ | exact (Below.refl _ w).alloc (Nat.le_refl _) _ | exact ((Below.refl _ w).alloc (Nat.le_refl _) _).alloc (by simp) _⟩
  | ask c l r =>
    rw [ItemAt] at h; obtain ⟨vl, vr, xs, ys, rfl, ⟨A, k, rfl, _⟩, _, ⟨A', k', rfl, _⟩, _⟩ := h
    have a0 : ∀ w, (Instr.typeAssert (.iface 191 (.agg #[.string (tb [c]), .slice A xs.length k, .slice A' ys.length k'])) 137 189 true).run Tryz.prog w = .ok (.tuple #[.agg #[.string ⟨#[]⟩], .bool false]) w := fun w => by kernel_rfl
    have a1 : ∀ w, (Instr.typeAssert (.iface 191 (.agg #[.string (tb [c]), .slice A xs.length k, .slice A' ys.length k'])) 137 191 true).run Tryz.prog w = .ok (.tuple #[.agg #[.string (tb [c]), .slice A xs.length k, .slice A' ys.length k'], .bool true]) w := fun w => by kernel_rfl
    go_enter Tryz.func76, Tryz.ntmps76
    go_wp2_with fail
    go_ret
    exact ⟨rfl, by first | exact Below.refl _ _ | exact (Below.refl _ w).alloc (Nat.le_refl _) _ | exact ((Below.refl _ w).alloc (Nat.le_refl _) _).alloc (by simp) _⟩
end Go.Proofs.YtgebedbankibmaaGreatDoor

/-
  The program's blockIn.
-/
namespace Go.Proofs.YtgebedbankibmaaGreatDoor
open Go.RowKit Go.Sort
attribute [local go_sem] Oper.semAt_some

end Go.Proofs.YtgebedbankibmaaGreatDoor

/-
  FarthestLeave of the program.
-/
namespace Go.Proofs.YtgebedbankibmaaGreatDoor
open Go.RowKit Go.Sort
attribute [local go_sem] Oper.semAt_some

end Go.Proofs.YtgebedbankibmaaGreatDoor

/-
  CountItems of the program: how many items of a kind, for whatever text and kind.
-/
namespace Go.Proofs.YtgebedbankibmaaGreatDoor
open Go.RowKit Go.Sort
attribute [local go_sem] Oper.semAt_some

theorem kinds_any (c : UInt8) (W : World) : Calls Tryz.prog 74 #[.string ⟨#[88, 63, 40, 123, 94, 46, 61, 35]⟩, .string (tb [c])] W fun e w' => e = .returned (.bool (decide (0 ≤ Lib.indexByte [88, 63, 40, 123, 94, 46, 61, 35] c))) ∧ w' = W :=
  Tryz.strings_Contains_one ⟨#[88, 63, 40, 123, 94, 46, 61, 35]⟩ c W
theorem kindsIn (c : UInt8) : (c ∈ ([88, 63, 40, 123, 94, 46, 61, 35] : List UInt8) ∧ decide (0 ≤ Lib.indexByte [88, 63, 40, 123, 94, 46, 61, 35] c) = true) ∨ (c ∉ ([88, 63, 40, 123, 94, 46, 61, 35] : List UInt8) ∧ decide (0 ≤ Lib.indexByte [88, 63, 40, 123, 94, 46, 61, 35] c) = false) := by
  rcases kinds_find c with ⟨a, b⟩ | ⟨a, b⟩
  · refine .inl ⟨a, decide_eq_true ?_⟩
    have : ¬ Lib.indexByte [88, 63, 40, 123, 94, 46, 61, 35] c < 0 := fun h => by rw [b] at h; exact h
    omega
  · refine .inr ⟨a, decide_eq_false ?_⟩
    have : Lib.indexByte [88, 63, 40, 123, 94, 46, 61, 35] c < 0 := by rw [b]; trivial
    omega

/-- How many of a kind among the items that have been yielded. -/
def cntE (c : UInt8) (l : List (Nat × It)) : Nat := l.countP fun p => decide (kdI p.2 = c)
theorem cntE_snoc (c : UInt8) (l : List (Nat × It)) (x : Nat × It) : cntE c (l ++ [x]) = cntE c l + (if kdI x.2 = c then 1 else 0) := by
  unfold cntE
  rw [List.countP_append, List.countP_cons, List.countP_nil, Nat.zero_add]
  simp
theorem cntE_le (c : UInt8) (l : List (Nat × It)) : cntE c l ≤ l.length := List.countP_le_length ..
theorem cntE_all (c : UInt8) (l : List It) : cntE c (evL l 0) = cnL c l := cn_evL c l 0
theorem cntE_app (c : UInt8) (a b : List (Nat × It)) : cntE c (a ++ b) = cntE c a + cntE c b := by unfold cntE; rw [List.countP_append]
theorem evL_length0 (l : List It) : (evL l 0).length = (flL l).length := by unfold flL; rw [List.length_map]
set_option maxRecDepth 100000 in
set_option maxHeartbeats 6400000 in
theorem implCountItems_any (s kd : List UInt8) (w : World) :
    Calls Tryz.prog 44 #[.string (tb s), .string (tb kd)] w fun e w' => e = .returned (.int .i64 (countZ s kd)) ∧ Below w.heap.size w w' := by
  obtain ⟨W0, hW0⟩ : ∃ W0, W0 = w.alloc (.cells #[.string (tb kd)] 9) := ⟨_, rfl⟩
  have hs0 : W0.heap.size = w.heap.size + 1 := by rw [hW0]; simp
  have hB0 : Below w.heap.size w W0 := by rw [hW0]; exact (Below.refl _ w).alloc (Nat.le_refl _) _
  have hK0 : Blk W0 w.heap.size 9 #[.string (tb kd)] := by rw [hW0]; exact Blk.new w _ _
  have HC := Lib.hid (itemsOf_any s W0)
  have HW0 := Lib.hid hW0
  have HB0 := Lib.hid hB0
  have HK0 := Lib.hid hK0
  have hz : (tb kd).size = kd.length := tb_size kd
  clear hW0 hB0 hK0
  refine (callsIn_wide (n := 4)).1 ?_
  refine callsIn_of_wp_marks Tryz.func44 rfl trivial ?_ rfl
  simp only [Tryz.ntmps44, List.size_toArray, List.length_cons, List.length_nil, Nat.reduceAdd, Nat.reduceSub, Array.replicate_succ, Array.replicate_zero, List.push_toArray, List.append_toArray, List.nil_append, List.cons_append]
  refine wpIn_mono (Q := calm _) ?_ calm_le
  gi_wp2_with fail
  rw [← HW0.out]
  refine ⟨trivial, (callsIn_wide.2 HC.out).mono ?_⟩
  rintro e w1 (⟨l, v, hl, rfl, h1c, hrow, b1⟩ | ⟨hno, rfl, b1⟩)
  · obtain ⟨A, k, n, rfl, hrow⟩ := rowAt_form hrow
    have hlen : (txL l).length < 201 := by have := hl.1; rw [hl.2.2] at this; omega
    have hd9 : faL l ≤ 9 := by have := fa_okL l 0 hl.2.1; have := dp_okL l 0 hl.2.1 (by omega); omega
    have HROW := Lib.hid (show RowAt w1 (fun b => W0.heap.size ≤ b ∧ b < w1.heap.size) l (.slice A n k) from hrow.stay ⟨Nat.le_refl _, fun b hb hp => ⟨⟨hp, hb⟩, rfl⟩⟩)
    have HOK := Lib.hid hl.2.1
    have HL := Lib.hid hl
    have HB := Lib.hid b1
    have ck : w1.cell? ⟨w.heap.size, 0, none⟩ = some (.string (tb kd)) := ((HK0.out.below b1 (by omega)).cell 0)
    clear hl b1 hrow
    by_cases hk1 : kd.length = 1
    · obtain ⟨c, rfl⟩ := List.length_eq_one_iff.1 hk1
      have hsz : (tb [c]).size = 1 := hz
      rcases kindsIn c with ⟨hmem, hin⟩ | ⟨hmem, hin⟩
      · have HCC := Lib.hid (kinds_any c)
        rw [hin] at HCC
        have HZ := Lib.hid (countZ_yes HL.out rfl hmem)
        clear hk1 hz hmem hin
        gi_wp2_with fail
        refine ⟨trivial, (callsIn_wide.2 (HCC.out _)).mono ?_⟩
        rintro e w2 ⟨rfl, rfl⟩
        gi_wp2_with fail
        refine ⟨trivial, (callsIn_wide.2 (everyItem_any A n k 0 _)).mono ?_⟩
        rintro e w3 ⟨rfl, hw3⟩
        have hs3 : w3.heap.size = w2.heap.size + 3 := by rw [hw3]; simp
        have hsz1 : W0.heap.size ≤ w2.heap.size := HB.out.size
        have hM : Blk w3 w2.heap.size 3 #[.int .i64 0] := by rw [hw3]; exact ((Blk.new w2 _ _).alloc _).alloc _
        have hB1 : Blk w3 (w2.heap.size + 1) 129 #[.slice A n k] := by
          have := (Blk.new (w2.alloc (.cells #[.int .i64 0] 3)) 129 #[.slice A n k]).alloc (.cells #[.int .i64 ((0 : Nat) : Int)] 3)
          rw [World.size_alloc] at this
          rw [hw3]; exact this
        have hB2 : Blk w3 (w2.heap.size + 1 + 1) 3 #[.int .i64 ((0 : Nat) : Int)] := by
          have := Blk.new ((w2.alloc (.cells #[.int .i64 0] 3)).alloc (.cells #[.slice A n k] 129)) 3 #[.int .i64 ((0 : Nat) : Int)]
          rw [World.size_alloc, World.size_alloc] at this
          rw [hw3]; exact this
        have hb3 : Below w2.heap.size w2 w3 := by rw [hw3]; exact (((Below.refl _ _).alloc (Nat.le_refl _) _).alloc (by simp) _).alloc (by simp; omega) _
        have HSEQ := Lib.hid (seqAll_wide (m := 3) (everyItem1_own w2 (fun b => W0.heap.size ≤ b ∧ b < w2.heap.size) (fun b hb => hb.2) 201 l 0 w3 (w2.heap.size + 1) (w2.heap.size + 1 + 1) _ (by omega) hlen HOK.out (by omega) HROW.out ⟨by omega, fun b hb _ => hb3.block b hb⟩ hB1 hB2))
        have HM := Lib.hid hM
        have HB3 := Lib.hid (below_trans_self HB.out hb3)
        have HDP := Lib.hid (cntE_all c l)
        have HLE := Lib.hid (show (evL l 0).length ≤ 200 by rw [evL_length0]; have := flL_length l; omega)
        clear hw3 hM hB1 hB2 hb3 ck
        gi_wp2_with fail
        refine wpIn_rangeFunc_all rfl (by decide) (gf := 115) (lb := #[.pointer (some ⟨w2.heap.size + 1, 0, none⟩), .pointer (some ⟨w2.heap.size + 1 + 1, 0, none⟩)]) rfl trivial (enters_of Tryz.func115 (by kernel_rfl) rfl) HSEQ.out (Below.refl _ _) (fun _ => rfl) (fun b hb => ?_)
          (fun _ pre W => Hid (Blk W w2.heap.size 3 #[.int .i64 (cntE c (pre.map fun x => (x.1, x.2.1)) : Nat)]) ∧ Hid (Below W0.heap.size W0 W))
          ?_ ?_ ?a1 ?assign ?body ?done
        case assign =>
          intro l3 x3 W7 K7 hK7
          gi_wp2
          exact hK7
        · rcases hb with hb | hb | hb
          · have := hb.2; omega
          · omega
          · omega
        · rintro Ot pre X Y hle hO ⟨h1, h2⟩ hT
          exact ⟨(hT.block _ h1.out.lt fun e => by have := hO _ e; omega).trans h1.out, h2.out.trans (hT.below h2.out.size fun b hb => by have := hO b hb; omega)⟩
        · exact ⟨HM.out, HB3.out⟩
        case body =>
          rintro l3 Oin pre ⟨xk, xi, xv⟩ Wt hle hO ⟨h1, h2⟩ hnx
          have hit := hnx.2 (xk, xi, xv) (by simp)
          have HKD := Lib.hid (fun W => kindOf_any hit W)
          have hmap : (pre ++ [(xk, xi, xv)]).map (fun x => (x.1, x.2.1)) = pre.map (fun x => (x.1, x.2.1)) ++ [(xk, xi)] := by simp
          have hst : cntE c ((pre ++ [(xk, xi, xv)]).map fun x => (x.1, x.2.1)) = cntE c (pre.map fun x => (x.1, x.2.1)) + (if kdI xi = c then 1 else 0) := by
            rw [hmap, cntE_snoc]
          have hle9 : cntE c (pre.map fun x => (x.1, x.2.1)) ≤ 200 := by
            obtain ⟨t, ht⟩ := hnx.1
            have h5 := cntE_le c (evL l 0)
            have h6 := HLE.out
            rw [← ht, cntE_app, hst] at h5
            rw [← ht] at h6
            omega
          have HST := Lib.hid hst
          obtain ⟨m0, hm0⟩ : ∃ m0, m0 = cntE c (pre.map fun x => (x.1, x.2.1)) := ⟨_, rfl⟩
          rw [← hm0] at h1 hst HST hle9
          have HM0 := Lib.hid hm0
          have H2 := Lib.hid h2.out
          have H1 := Lib.hid h1.out
          have ckt : Wt.cell? ⟨w.heap.size, 0, none⟩ = some (.string (tb [c])) := ((HK0.out.below h2.out (by omega)).cell 0)
          have CKB : Hid (∀ W : World, Below Wt.heap.size Wt W → W.cell? ⟨w.heap.size, 0, none⟩ = some (.string (tb [c]))) := by
            intro W hW
            exact ((HK0.out.below h2.out (by omega)).below hW (by have := h2.out.size; omega)).cell 0
          have hne : ∀ b, ((((W0.heap.size ≤ b ∧ b < w2.heap.size) ∨ b = w2.heap.size + 1 ∨ b = w2.heap.size + 1 + 1) ∨ Oin b) → b ≠ w2.heap.size) := fun b hb => by
            rcases hb with (hb | hb | hb) | hb
            · omega
            · omega
            · omega
            · have := hO b hb; omega
          clear hnx hit hmap hst hm0 h1 h2
          gi_wp2_with fail
          gi_region_with (refine ⟨trivial, ?_⟩; gi_at_call 76; refine ((callsIn_wide.2 (HKD.out _)).inRound l3).mono ?_; rintro e w' ⟨rfl, hb⟩; have ck2 := CKB.out w' ((Below.refl _ Wt).drew.trans hb))
          all_goals
            have hb4 : Below Wt.heap.size Wt w' := (Below.refl _ Wt).drew.trans hb
            have h1' := H1.out.below hb4 H1.out.lt
            have c0 := h1'.cell 0
            have f0 := h1'.frozen 0
            have hlt := h1'.lt
            have H1' := Lib.hid h1'
            have HB4 := Lib.hid hb4
            have HK4 := Lib.hid (show Keeps (fun k => ((W0.heap.size ≤ k ∧ k < w2.heap.size) ∨ k = w2.heap.size + 1 ∨ k = w2.heap.size + 1 + 1) ∨ Oin k) Wt w' from ⟨hb4.size, fun k hk _ => hb4.block k hk⟩)
            have HB5 := Lib.hid (H2.out.trans (hb4.mono H2.out.size))
            clear h1' hb hb4 hO
            by_cases hkc : kdI xi = c
            · have HF := Lib.hid (show (if kdI xi = c then 1 else 0) = 1 from if_pos hkc)
              have s1 : IntKind.i64.wrap ((m0 : Int) + 1) = (m0 : Int) + 1 := IntWalk.i64_in _ (by omega)
              have e1 : ((tb [kdI xi]).toList == (tb [c]).toList) = true := by rw [tb_toList, tb_toList, hkc]; simp
              rw [e1]
              clear e1 hkc
              gi_wp2_with fail
              have T1 := Turns.setCell (O := fun k => k = w2.heap.size) (A := w') (p := ⟨w2.heap.size, 0, none⟩) rfl (.int .i64 ((m0 : Int) + 1))
              have hk1 := T1.keeps (O' := fun b => ((W0.heap.size ≤ b ∧ b < w2.heap.size) ∨ b = w2.heap.size + 1 ∨ b = w2.heap.size + 1 + 1) ∨ Oin b) (fun b hb => hne b hb)
              have hB5 := below_set HB5.out hsz1 0 (.int .i64 ((m0 : Int) + 1))
              refine ⟨HK4.out.trans hk1, ?_, hB5⟩
              rw [HST.out, HF.out]
              exact H1'.out.set_ 0 (.int .i64 ((m0 : Int) + 1))
            · have HF := Lib.hid (show (if kdI xi = c then 1 else 0) = 0 from if_neg hkc)
              have e1 : ((tb [kdI xi]).toList == (tb [c]).toList) = false := by rw [tb_toList, tb_toList]; simpa using hkc
              rw [e1]
              clear e1 hkc
              gi_wp2_with fail
              refine ⟨HK4.out, ?_, HB5.out⟩
              rw [HST.out, HF.out]
              exact H1'.out
        case done =>
          rintro D Oin xs3 Wt hD hO hS ⟨h1, h2⟩ hOD hK
          have c0 := h1.out.cell 0
          have HK := Lib.hid hK
          have H2 := Lib.hid h2.out
          have HMS := Lib.hid (show cntE c (xs3.map fun x => (x.1, x.2.1)) = cnL c l by rw [hS.1]; exact HDP.out)
          clear hD h1 h2 hK
          gi_wp2_with fail
          have hDl := (hO D hOD)
          refine ⟨by simp, .inl ⟨_, _, rfl, run_takeDeferred HK.out, ?_⟩⟩
          refine ⟨_, results_tmp rfl _ _ _, ?_, HB0.out.trans ((below_putD H2.out (by omega) _).mono HB0.out.size)⟩
          rw [HMS.out, HZ.out]; rfl
      · have HCC := Lib.hid (kinds_any c)
        rw [hin] at HCC
        have HN := Lib.hid (countZ_no (s := s) (kd := [c]) fun l c' _ e hm => hmem (by rw [(List.cons.inj e).1]; exact hm))
        clear hk1 hz hmem hin
        gi_wp2_with fail
        refine ⟨trivial, (callsIn_wide.2 (HCC.out _)).mono ?_⟩
        rintro e w2 ⟨rfl, rfl⟩
        gi_wp2_with fail
        refine ⟨_, results_tmp rfl _ _ _, by rw [HN.out]; rfl, below_trans_self HB0.out HB.out⟩
    · have HN := Lib.hid (countZ_no (s := s) (kd := kd) fun l c _ e _ => hk1 (by rw [e]; rfl))
      have hne : (((kd.length : Int)) != 1) = true := by simp; omega
      clear HROW HOK HL
      gi_wp2_with fail
      rename_i Ka ha Kb hb2 Kc hc
      refine ⟨trivial, hc _ _ ?_⟩
      gi_wp2_with fail
      refine ⟨_, results_tmp rfl _ _ _, by rw [HN.out]; rfl, below_trans_self HB0.out HB.out⟩
  · have HN := Lib.hid (countZ_no (s := s) (kd := kd) fun l _ h _ _ => hno l h)
    have HB := Lib.hid b1
    clear hno b1
    gi_wp2_with fail
    rename_i Ka ha Kb hb2 Kc hc
    refine ⟨trivial, hc _ _ ?_⟩
    gi_wp2_with fail
    refine ⟨_, results_tmp rfl _ _ _, by rw [HN.out]; rfl, below_trans_self HB0.out HB.out⟩
end Go.Proofs.YtgebedbankibmaaGreatDoor
