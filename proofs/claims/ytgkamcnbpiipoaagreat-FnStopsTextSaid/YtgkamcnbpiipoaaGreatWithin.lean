/-
  What stands within an item of the program's: the method behind the interface, for each kind; the items in order, step by step.
-/
import Derived.Test.YtgkamcnbpiipoaaGreatSpecReader
import Derived.Test.YtgkamcnbpiipoaaGreatItemsOf
namespace Go.Proofs.YtgkamcnbpiipoaaGreat
open Go.RowKit Go.Sort

theorem evB_one (l : List It) (k : Nat) : evB [l] k = evL l k := by rw [evB, evB, List.append_nil]
theorem evI_bod (i : It) (k : Nat) : evI i k = (k, i) :: evB (bodI i) (if frI i then k + 1 else k) := by
  cases i with
  | ask c l r => rw [evI]; show _ = _ :: evB [l, r] k; rw [evB, evB, evB, List.append_nil]
  | frame b l => rw [evI]; show _ = _ :: evB [l] (k + 1); rw [evB_one]
  | pick bs => rw [evI]; rfl
  | _ => rw [evI]; show _ = _ :: evB [] k; rw [evB]
theorem evL_append : ∀ (a b : List It) (k : Nat), evL (a ++ b) k = evL a k ++ evL b k
  | [], b, k => by rw [evL]; rfl
  | i :: a, b, k => by rw [List.cons_append, evL, evL, evL_append a b k, List.append_assoc]
theorem evB_append : ∀ (a b : List (List It)) (k : Nat), evB (a ++ b) k = evB a k ++ evB b k
  | [], b, k => by rw [evB]; rfl
  | i :: a, b, k => by rw [List.cons_append, evB, evB, evB_append a b k, List.append_assoc]
theorem okI_bod {i : It} {k : Nat} (h : OkI i k) : ∀ b ∈ bodI i, OkL b (if frI i then k + 1 else k) := by
  cases i with
  | ask c l r =>
    rw [OkI] at h
    intro b hb
    show OkL b k
    simp [bodI] at hb
    rcases hb with rfl | rfl
    · exact h.2.1
    · exact h.2.2
  | frame g l =>
    rw [OkI] at h
    intro b hb
    show OkL b (k + 1)
    simp [bodI] at hb
    rw [hb]; exact h.2
  | pick bs =>
    rw [OkI] at h
    have : ∀ (bs : List (List It)), OkB bs k → ∀ b ∈ bs, OkL b k := by
      intro bs
      induction bs with
      | nil => intro _ b hb; cases hb
      | cons a bs ih =>
        intro ho b hb
        rw [OkB] at ho
        rcases List.mem_cons.1 hb with rfl | hb
        · exact ho.1
        · exact ih ho.2 b hb
    exact this bs h.2.2
  | _ => intro b hb; cases hb
theorem okL_get {l : List It} {k : Nat} (h : OkL l k) : ∀ i ∈ l, OkI i k := by
  induction l with
  | nil => intro i hi; cases hi
  | cons a l ih =>
    intro i hi
    rw [OkL] at h
    rcases List.mem_cons.1 hi with rfl | hi
    · exact h.1
    · exact ih h.2 i hi
theorem okI_frame {i : It} {k : Nat} (h : OkI i k) (hf : frI i = true) : k < 9 := by
  cases i with
  | frame b l => rw [OkI] at h; exact h.1
  | _ => cases hf
theorem bod_smaller {i : It} {b : List It} (h : b ∈ bodI i) : SizeOf.sizeOf b < SizeOf.sizeOf i := by
  cases i with
  | ask c l r =>
    simp [bodI] at h
    rcases h with rfl | rfl <;> simp <;> omega
  | frame g l => simp [bodI] at h; subst h; simp
  | pick bs => have := List.sizeOf_lt_of_mem (show b ∈ bs from h); simp; omega
  | _ => cases h

theorem txI_pos (i : It) : 0 < (txI i).length := by obtain ⟨t, e⟩ := txI_hd i; rw [e]; simp
theorem txL_length : ∀ (l : List It), l.length ≤ (txL l).length
  | [] => by simp
  | i :: l => by rw [txL, List.length_append, List.length_cons]; have := txL_length l; have := txI_pos i; omega
theorem txL_mem : ∀ {l : List It} {i : It}, i ∈ l → (txI i).length ≤ (txL l).length
  | a :: l, i, h => by
    rw [txL, List.length_append]
    rcases List.mem_cons.1 h with rfl | h
    · omega
    · have := txL_mem h; omega
theorem txB_mem : ∀ {bs : List (List It)} {b : List It}, b ∈ bs → (txL b).length < (txB bs).length
  | a :: bs, b, h => by
    rw [txB]
    simp only [List.length_cons, List.length_append]
    rcases List.mem_cons.1 h with rfl | h
    · omega
    · have := txB_mem h; omega
theorem txB_length : ∀ (bs : List (List It)), bs.length ≤ (txB bs).length
  | [] => by simp
  | b :: bs => by rw [txB]; simp only [List.length_cons, List.length_append]; have := txB_length bs; omega
theorem bod_shorter {i : It} {b : List It} (h : b ∈ bodI i) : (txL b).length < (txI i).length := by
  cases i with
  | ask c l r =>
    rw [txI]
    simp [bodI] at h
    simp only [List.length_cons, List.length_append]
    rcases h with rfl | rfl <;> omega
  | frame g l => rw [txI]; simp [bodI] at h; subst h; simp; omega
  | pick bs => rw [txI]; have := txB_mem (show b ∈ bs from h); simp only [List.length_cons]; omega
  | _ => cases h
theorem bod_length (i : It) : (bodI i).length ≤ (txI i).length := by
  cases i with
  | ask c l r => rw [txI]; simp [bodI]
  | frame g l => rw [txI]; simp [bodI]
  | pick bs => rw [txI]; have := txB_length bs; show bs.length ≤ _; simp only [List.length_cons]; omega
  | _ => simp [bodI]

theorem AllAt.at_ {w : World} {P : Nat → Prop} : ∀ {l : List It} {vs : List Value} (_ : AllAt w P l vs) (k : Nat) (hk : k < l.length), ∃ v, vs[k]? = some v ∧ ItemAt w P l[k] v
  | i :: l, vs, h, 0, _ => by
    rw [AllAt] at h
    obtain ⟨v, t, rfl, h1, _⟩ := h
    exact ⟨v, rfl, h1⟩
  | i :: l, vs, h, k + 1, hk => by
    rw [AllAt] at h
    obtain ⟨v, t, rfl, _, h2⟩ := h
    obtain ⟨u, h3, h4⟩ := AllAt.at_ h2 k (by simpa using hk)
    exact ⟨u, by simpa using h3, h4⟩
theorem AllRows.at_ {w : World} {P : Nat → Prop} : ∀ {l : List (List It)} {vs : List Value} (_ : AllRows w P l vs) (k : Nat) (hk : k < l.length), ∃ v, vs[k]? = some v ∧ RowAt w P l[k] v
  | b :: l, vs, h, 0, _ => by
    rw [AllRows] at h
    obtain ⟨v, t, xs, rfl, h1, h2, _⟩ := h
    exact ⟨v, rfl, xs, h1, h2⟩
  | b :: l, vs, h, k + 1, hk => by
    rw [AllRows] at h
    obtain ⟨v, t, xs, rfl, _, _, h3⟩ := h
    obtain ⟨u, h4, h5⟩ := AllRows.at_ h3 k (by simpa using hk)
    exact ⟨u, by simpa using h4, h5⟩

/-- Blocks of one kind lie as they lay. -/
def Same (P : Nat → Prop) (w W : World) : Prop := w.heap.size ≤ W.heap.size ∧ ∀ b, b < w.heap.size → P b → W.heap[b]? = w.heap[b]?

/-- What the call of within hands back. -/
def WithinPost (w : World) (P : Nat → Prop) (i : It) (W : World) (e : Ending) (w' : World) : Prop :=
  ∃ A k vs, e = .returned (.slice A vs.length k) ∧ Reads w' (fun b => P b ∨ W.heap.size ≤ b) (.slice A vs.length k) vs ∧ AllRows w P (bodI i) vs ∧ Below W.heap.size W w'

/-- An item behind the interface: what it is of, how the method is found, what it is as a frame, what stands within it. -/
structure ItDisp (T : TypeId) (x : Value) (F : FuncId) (b0 : Bool) (bA : Option Addr) (bn bk : Nat) (i : It) (v : Value) : Prop where
  val : v = .iface T x
  look : ∀ w, (method 290 T x "loop.example/structuredjumps/impl.within").run Tryz.prog w = .ok (F, x) w
  enter : ∀ args w, (callFunc F args).run Tryz.prog w = .ok (.enter F args) w
  asrt : ∀ w, (Instr.typeAssert (.iface T x) 113 143 true).run Tryz.prog w = .ok (.tuple #[.agg #[.bool b0, .slice bA bn bk], .bool (frI i)]) w
  goes : ∀ w P W, ItemAt w P i v → Same P w W → Calls Tryz.prog F #[x] W (WithinPost w P i W)

theorem nil_within (w : World) (Q : Nat → Prop) : Reads w Q (.slice none ([] : List Value).length 0) [] := ⟨none, 0, rfl, fun h => absurd h (by simp)⟩
theorem same_stay {w W w' : World} {P : Nat → Prop} (h : Same P w W) (hb : Below W.heap.size W w') : Stay w P w' (fun b => P b ∨ W.heap.size ≤ b) :=
  ⟨Nat.le_trans h.1 hb.size, fun b hl hp => ⟨.inl hp, (hb.block b (by have := h.1; omega)).trans (h.2 b hl hp)⟩⟩

end Go.Proofs.YtgkamcnbpiipoaaGreat
