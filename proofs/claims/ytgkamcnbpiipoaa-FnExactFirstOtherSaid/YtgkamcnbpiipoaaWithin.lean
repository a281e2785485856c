/-
  What stands within an item of the program's: the method behind the interface, for each kind; the items in order, step by step.
-/
import Derived.Test.YtgkamcnbpiipoaaSpecReader
import Derived.Test.YtgkamcnbpiipoaaItemsOf
namespace Go.Proofs.Ytgkamcnbpiipoaa
open Go.RowKit Go.Sort

theorem evB_one (l : List It) (k : Nat) : evB [l] k = evL l k := by rw [evB, evB, List.append_nil]
theorem evI_bod (i : It) (k : Nat) : evI i k = (k, i) :: evB (bodI i) (if frI i then k + 1 else k) := by
  cases i with
  | ask c l r => rw [evI]; show _ = _ :: evB [l, r] k; rw [evB, evB, evB, List.append_nil]
  | frame b l => rw [evI]; show _ = _ :: evB [l] (k + 1); rw [evB_one]
  | pick bs => rw [evI]; rfl
  | _ => rw [evI]; show _ = _ :: evB [] k; rw [evB]
theorem evL_append : ∀ (a b : List It) (k : Nat), evL (a ++ b) k = evL a k ++ evL b k
  | [], b, k => by rw [evL]; rfl
  | i :: a, b, k => by rw [List.cons_append, evL, evL, evL_append a b k, List.append_assoc]
theorem evB_append : ∀ (a b : List (List It)) (k : Nat), evB (a ++ b) k = evB a k ++ evB b k
  | [], b, k => by rw [evB]; rfl
  | i :: a, b, k => by rw [List.cons_append, evB, evB, evB_append a b k, List.append_assoc]
theorem okI_bod {i : It} {k : Nat} (h : OkI i k) : ∀ b ∈ bodI i, OkL b (if frI i then k + 1 else k) := by
  cases i with
  | ask c l r =>
    rw [OkI] at h
    intro b hb
    show OkL b k
    simp [bodI] at hb
    rcases hb with rfl | rfl
    · exact h.2.1
    · exact h.2.2
  | frame g l =>
    rw [OkI] at h
    intro b hb
    show OkL b (k + 1)
    simp [bodI] at hb
    rw [hb]; exact h.2
  | pick bs =>
    rw [OkI] at h
    have : ∀ (bs : List (List It)), OkB bs k → ∀ b ∈ bs, OkL b k := by
      intro bs
      induction bs with
      | nil => intro _ b hb; cases hb
      | cons a bs ih =>
        intro ho b hb
        rw [OkB] at ho
        rcases List.mem_cons.1 hb with rfl | hb
        · exact ho.1
        · exact ih ho.2 b hb
    exact this bs h.2.2
  | _ => intro b hb; cases hb
theorem okL_get {l : List It} {k : Nat} (h : OkL l k) : ∀ i ∈ l, OkI i k := by
  induction l with
  | nil => intro i hi; cases hi
  | cons a l ih =>
    intro i hi
    rw [OkL] at h
    rcases List.mem_cons.1 hi with rfl | hi
    · exact h.1
    · exact ih h.2 i hi
theorem okI_frame {i : It} {k : Nat} (h : OkI i k) (hf : frI i = true) : k < 9 := by
  cases i with
  | frame b l => rw [OkI] at h; exact h.1
  | _ => cases hf
theorem bod_smaller {i : It} {b : List It} (h : b ∈ bodI i) : SizeOf.sizeOf b < SizeOf.sizeOf i := by
  cases i with
  | ask c l r =>
    simp [bodI] at h
    rcases h with rfl | rfl <;> simp <;> omega
  | frame g l => simp [bodI] at h; subst h; simp
  | pick bs => have := List.sizeOf_lt_of_mem (show b ∈ bs from h); simp; omega
  | _ => cases h

theorem txI_pos (i : It) : 0 < (txI i).length := by obtain ⟨t, e⟩ := txI_hd i; rw [e]; simp
theorem txL_length : ∀ (l : List It), l.length ≤ (txL l).length
  | [] => by simp
  | i :: l => by rw [txL, List.length_append, List.length_cons]; have := txL_length l; have := txI_pos i; omega
theorem txL_mem : ∀ {l : List It} {i : It}, i ∈ l → (txI i).length ≤ (txL l).length
  | a :: l, i, h => by
    rw [txL, List.length_append]
    rcases List.mem_cons.1 h with rfl | h
    · omega
    · have := txL_mem h; omega
theorem txB_mem : ∀ {bs : List (List It)} {b : List It}, b ∈ bs → (txL b).length < (txB bs).length
  | a :: bs, b, h => by
    rw [txB]
    simp only [List.length_cons, List.length_append]
    rcases List.mem_cons.1 h with rfl | h
    · omega
    · have := txB_mem h; omega
theorem txB_length : ∀ (bs : List (List It)), bs.length ≤ (txB bs).length
  | [] => by simp
  | b :: bs => by rw [txB]; simp only [List.length_cons, List.length_append]; have := txB_length bs; omega
theorem bod_shorter {i : It} {b : List It} (h : b ∈ bodI i) : (txL b).length < (txI i).length := by
  cases i with
  | ask c l r =>
    rw [txI]
    simp [bodI] at h
    simp only [List.length_cons, List.length_append]
    rcases h with rfl | rfl <;> omega
  | frame g l => rw [txI]; simp [bodI] at h; subst h; simp; omega
  | pick bs => rw [txI]; have := txB_mem (show b ∈ bs from h); simp only [List.length_cons]; omega
  | _ => cases h
theorem bod_length (i : It) : (bodI i).length ≤ (txI i).length := by
  cases i with
  | ask c l r => rw [txI]; simp [bodI]
  | frame g l => rw [txI]; simp [bodI]
  | pick bs => rw [txI]; have := txB_length bs; show bs.length ≤ _; simp only [List.length_cons]; omega
  | _ => simp [bodI]

theorem AllAt.at_ {w : World} {P : Nat → Prop} : ∀ {l : List It} {vs : List Value} (_ : AllAt w P l vs) (k : Nat) (hk : k < l.length), ∃ v, vs[k]? = some v ∧ ItemAt w P l[k] v
  | i :: l, vs, h, 0, _ => by
    rw [AllAt] at h
    obtain ⟨v, t, rfl, h1, _⟩ := h
    exact ⟨v, rfl, h1⟩
  | i :: l, vs, h, k + 1, hk => by
    rw [AllAt] at h
    obtain ⟨v, t, rfl, _, h2⟩ := h
    obtain ⟨u, h3, h4⟩ := AllAt.at_ h2 k (by simpa using hk)
    exact ⟨u, by simpa using h3, h4⟩
theorem AllRows.at_ {w : World} {P : Nat → Prop} : ∀ {l : List (List It)} {vs : List Value} (_ : AllRows w P l vs) (k : Nat) (hk : k < l.length), ∃ v, vs[k]? = some v ∧ RowAt w P l[k] v
  | b :: l, vs, h, 0, _ => by
    rw [AllRows] at h
    obtain ⟨v, t, xs, rfl, h1, h2, _⟩ := h
    exact ⟨v, rfl, xs, h1, h2⟩
  | b :: l, vs, h, k + 1, hk => by
    rw [AllRows] at h
    obtain ⟨v, t, xs, rfl, _, _, h3⟩ := h
    obtain ⟨u, h4, h5⟩ := AllRows.at_ h3 k (by simpa using hk)
    exact ⟨u, by simpa using h4, h5⟩

/-- Blocks of one kind lie as they lay. -/
def Same (P : Nat → Prop) (w W : World) : Prop := w.heap.size ≤ W.heap.size ∧ ∀ b, b < w.heap.size → P b → W.heap[b]? = w.heap[b]?

/-- What the call of within hands back. -/
def WithinPost (w : World) (P : Nat → Prop) (i : It) (W : World) (e : Ending) (w' : World) : Prop :=
  ∃ A k vs, e = .returned (.slice A vs.length k) ∧ Reads w' (fun b => P b ∨ W.heap.size ≤ b) (.slice A vs.length k) vs ∧ AllRows w P (bodI i) vs ∧ Below W.heap.size W w'

/-- An item behind the interface: what it is of, how the method is found, what it is as a frame, what stands within it. -/
structure ItDisp (T : TypeId) (x : Value) (F : FuncId) (b0 : Bool) (bA : Option Addr) (bn bk : Nat) (i : It) (v : Value) : Prop where
  val : v = .iface T x
  look : ∀ w, (method 307 T x "loop.example/structuredjumps/impl.within").run Try.prog w = .ok (F, x) w
  enter : ∀ args w, (callFunc F args).run Try.prog w = .ok (.enter F args) w
  asrt : ∀ w, (Instr.typeAssert (.iface T x) 74 118 true).run Try.prog w = .ok (.tuple #[.agg #[.bool b0, .slice bA bn bk], .bool (frI i)]) w
  goes : ∀ w P W, ItemAt w P i v → Same P w W → Calls Try.prog F #[x] W (WithinPost w P i W)

theorem nil_within (w : World) (Q : Nat → Prop) : Reads w Q (.slice none ([] : List Value).length 0) [] := ⟨none, 0, rfl, fun h => absurd h (by simp)⟩
theorem same_stay {w W w' : World} {P : Nat → Prop} (h : Same P w W) (hb : Below W.heap.size W w') : Stay w P w' (fun b => P b ∨ W.heap.size ≤ b) :=
  ⟨Nat.le_trans h.1 hb.size, fun b hl hp => ⟨.inl hp, (hb.block b (by have := h.1; omega)).trans (h.2 b hl hp)⟩⟩

set_option maxRecDepth 100000 in
theorem disp_blk (c : UInt8) : ItDisp 123 (.agg #[.string (tb [c])]) 158 false none 0 0 (.blk c) (.iface 123 (.agg #[.string (tb [c])])) where
  val := rfl
  look := fun w => by kernel_rfl
  enter := enters_of Try.func158 (by kernel_rfl) rfl
  asrt := fun w => by kernel_rfl
  goes := fun w P W h hP => by
    go_enter Try.func158, Try.ntmps158
    go_wp2_with fail
    go_ret
    exact ⟨none, 0, [], rfl, nil_within _ _, AllRows.nil _ _, (Below.refl _ W).alloc (Nat.le_refl _) _⟩
set_option maxRecDepth 100000 in
theorem disp_stop : ItDisp 176 (.agg #[]) 165 false none 0 0 .stop (.iface 176 (.agg #[])) where
  val := rfl
  look := fun w => by kernel_rfl
  enter := enters_of Try.func165 (by kernel_rfl) rfl
  asrt := fun w => by kernel_rfl
  goes := fun w P W h hP => by
    go_enter Try.func165, Try.ntmps165
    go_wp2_with fail
    go_ret
    exact ⟨none, 0, [], rfl, nil_within _ _, AllRows.nil _ _, (Below.refl _ W).alloc (Nat.le_refl _) _⟩
set_option maxRecDepth 100000 in
theorem disp_leave (n : Nat) : ItDisp 161 (.agg #[.int .i64 n]) 160 false none 0 0 (.leave n) (.iface 161 (.agg #[.int .i64 n])) where
  val := rfl
  look := fun w => by kernel_rfl
  enter := enters_of Try.func160 (by kernel_rfl) rfl
  asrt := fun w => by kernel_rfl
  goes := fun w P W h hP => by
    go_enter Try.func160, Try.ntmps160
    go_wp2_with fail
    go_ret
    exact ⟨none, 0, [], rfl, nil_within _ _, AllRows.nil _ _, (Below.refl _ W).alloc (Nat.le_refl _) _⟩
set_option maxRecDepth 100000 in
theorem disp_set (n : Nat) : ItDisp 163 (.agg #[.int .i64 n]) 161 false none 0 0 (.set n) (.iface 163 (.agg #[.int .i64 n])) where
  val := rfl
  look := fun w => by kernel_rfl
  enter := enters_of Try.func161 (by kernel_rfl) rfl
  asrt := fun w => by kernel_rfl
  goes := fun w P W h hP => by
    go_enter Try.func161, Try.ntmps161
    go_wp2_with fail
    go_ret
    exact ⟨none, 0, [], rfl, nil_within _ _, AllRows.nil _ _, (Below.refl _ W).alloc (Nat.le_refl _) _⟩
set_option maxRecDepth 100000 in
theorem disp_pick (bs : List (List It)) (A : Option Addr) (n k : Nat) : ItDisp 165 (.agg #[.slice A n k]) 162 false none 0 0 (.pick bs) (.iface 165 (.agg #[.slice A n k])) where
  val := rfl
  look := fun w => by kernel_rfl
  enter := enters_of Try.func162 (by kernel_rfl) rfl
  asrt := fun w => by kernel_rfl
  goes := fun w P W h hP => by
    rw [ItemAt] at h
    obtain ⟨vb, xs, e, h1, h2⟩ := h
    have e2 : vb = .slice A n k := by
      injection e with _ e; injection e with e; injection e with e; injection e with e _; exact e.symm
    subst e2
    obtain ⟨A5, k5, e5, h5⟩ := id h1
    injection e5 with e5 e6 e7
    subst e6
    have HR := Lib.hid h1
    have HR2 : Hid (AllRows w P bs xs) := h2
    clear h1 h2 e e5 e7 h5
    go_enter Try.func162, Try.ntmps162
    go_wp2_with fail
    go_ret
    have hb := (Below.refl W.heap.size W).alloc (Nat.le_refl _) (.cells #[.slice A xs.length k] 165)
    exact ⟨_, _, xs, rfl, HR.out.stay (same_stay hP hb), HR2.out, hb⟩
set_option maxRecDepth 100000 in
theorem disp_frame (b : Bool) (l : List It) (A : Option Addr) (n k : Nat) : ItDisp 118 (.agg #[.bool b, .slice A n k]) 157 b A n k (.frame b l) (.iface 118 (.agg #[.bool b, .slice A n k])) where
  val := rfl
  look := fun w => by kernel_rfl
  enter := enters_of Try.func157 (by kernel_rfl) rfl
  asrt := fun w => by kernel_rfl
  goes := fun w P W h hP => by
    rw [ItemAt] at h
    obtain ⟨vl, xs, e, h1, h2⟩ := h
    have e2 : vl = .slice A n k := by
      injection e with _ e; injection e with e; injection e with e; injection e with _ e; injection e with e _; exact e.symm
    subst e2
    have HR : Hid (RowAt w P l (.slice A n k)) := ⟨xs, h1, h2⟩
    clear h1 h2 e
    go_enter Try.func157, Try.ntmps157
    go_wp2_with fail
    go_ret
    have hb := ((Below.refl W.heap.size W).alloc (Nat.le_refl _) (.cells #[.bool b, .slice A n k] 118)).alloc (by simp) (.cells #[.slice A n k] 51)
    refine ⟨_, _, [.slice A n k], rfl, ⟨_, _, rfl, fun _ => ⟨W.heap.size + 1, 0, rfl, by simp, .inr (by omega), fun j hj => ?_⟩⟩, AllRows.snoc (l := []) (vs := []) HR.out (AllRows.nil _ _), hb⟩
    have hj0 : j = 0 := by simpa using hj
    subst hj0
    have h9 := Blk.new (W.alloc (.cells #[.bool b, .slice A n k] 118)) 51 #[.slice A n k]
    rw [World.size_alloc] at h9
    exact h9.cell 0
set_option maxRecDepth 100000 in
theorem disp_ask (c : UInt8) (l r : List It) (A A' : Option Addr) (n k n' k' : Nat) : ItDisp 125 (.agg #[.string (tb [c]), .slice A n k, .slice A' n' k']) 159 false none 0 0 (.ask c l r) (.iface 125 (.agg #[.string (tb [c]), .slice A n k, .slice A' n' k'])) where
  val := rfl
  look := fun w => by kernel_rfl
  enter := enters_of Try.func159 (by kernel_rfl) rfl
  asrt := fun w => by kernel_rfl
  goes := fun w P W h hP => by
    rw [ItemAt] at h
    obtain ⟨vl, vr, xs, ys, e, h1, h2, h3, h4⟩ := h
    have e2 : vl = .slice A n k ∧ vr = .slice A' n' k' := by
      injection e with _ e; injection e with e; injection e with e; injection e with _ e; injection e with e1 e; injection e with e3 _; exact ⟨e1.symm, e3.symm⟩
    obtain ⟨rfl, rfl⟩ := e2
    have HR : Hid (RowAt w P l (.slice A n k)) := ⟨xs, h1, h2⟩
    have HR2 : Hid (RowAt w P r (.slice A' n' k')) := ⟨ys, h3, h4⟩
    clear h1 h2 h3 h4 e
    go_enter Try.func159, Try.ntmps159
    go_wp2_with fail
    go_ret
    have hb := ((Below.refl W.heap.size W).alloc (Nat.le_refl _) (.cells #[.string (tb [c]), .slice A n k, .slice A' n' k'] 125)).alloc (by simp) (.cells #[.slice A n k, .slice A' n' k'] 51)
    refine ⟨_, _, [.slice A n k, .slice A' n' k'], rfl, ⟨_, _, rfl, fun _ => ⟨W.heap.size + 1, 0, rfl, by simp, .inr (by omega), fun j hj => ?_⟩⟩, AllRows.snoc (l := [l]) (vs := [.slice A n k]) HR2.out (AllRows.snoc (l := []) (vs := []) HR.out (AllRows.nil _ _)), hb⟩
    have h9 := Blk.new (W.alloc (.cells #[.string (tb [c]), .slice A n k, .slice A' n' k'] 125)) 51 #[.slice A n k, .slice A' n' k']
    rw [World.size_alloc] at h9
    have hj0 : j = 0 ∨ j = 1 := by have : j < 2 := hj; omega
    rcases hj0 with rfl | rfl
    · exact h9.cell 0
    · exact h9.cell 1

/-- Each item lies behind the interface. -/
theorem item_disp {w : World} {P : Nat → Prop} {i : It} {v : Value} (h : ItemAt w P i v) : ∃ T x F b0 bA bn bk, ItDisp T x F b0 bA bn bk i v := by
  cases i with
  | blk c => rw [ItemAt] at h; subst h; exact ⟨_, _, _, _, _, _, _, disp_blk c⟩
  | stop => rw [ItemAt] at h; subst h; exact ⟨_, _, _, _, _, _, _, disp_stop⟩
  | leave n => rw [ItemAt] at h; subst h; exact ⟨_, _, _, _, _, _, _, disp_leave n⟩
  | set n => rw [ItemAt] at h; subst h; exact ⟨_, _, _, _, _, _, _, disp_set n⟩
  | pick bs => rw [ItemAt] at h; obtain ⟨vb, xs, rfl, ⟨A, k, rfl, _⟩, _⟩ := h; exact ⟨_, _, _, _, _, _, _, disp_pick bs _ _ _⟩
  | frame b l => rw [ItemAt] at h; obtain ⟨vb, xs, rfl, ⟨A, k, rfl, _⟩, _⟩ := h; exact ⟨_, _, _, _, _, _, _, disp_frame b l _ _ _⟩
  | ask c l r => rw [ItemAt] at h; obtain ⟨vl, vr, xs, ys, rfl, ⟨A, k, rfl, _⟩, _, ⟨A', k', rfl, _⟩, _⟩ := h; exact ⟨_, _, _, _, _, _, _, disp_ask c l r _ _ _ _ _ _⟩
end Go.Proofs.Ytgkamcnbpiipoaa
