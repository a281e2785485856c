/-
  How a text with frames is read, byte by byte: what is read where it goes on, and that there is none where it does not: plain facts.
-/
import Derived.Test.YtelhogeaobofpaaTextScan
namespace Go.Proofs.Ytelhogeaobofpaa

/-- Items up to where items end. -/
def RdL (f : Nat) (s : List UInt8) (l : List It) (r : List UInt8) : Prop := OkL l f ∧ Ends r ∧ s = txL l ++ r
/-- One item, as much of it as there is. -/
def RdI (f : Nat) (s : List UInt8) (i : It) (r : List UInt8) : Prop := OkI i f ∧ (NoBr r ∨ FullI i) ∧ s = txI i ++ r
/-- One bracket. -/
def RdB (f : Nat) (s : List UInt8) (l : List It) (r : List UInt8) : Prop := OkL l f ∧ s = 91 :: (txL l ++ 93 :: r)
def NoL (f : Nat) (s : List UInt8) : Prop := ∀ l r, ¬ RdL f s l r
def NoI (f : Nat) (s : List UInt8) : Prop := ∀ i r, OkI i f → NoBr r → s ≠ txI i ++ r
def NoB (f : Nat) (s : List UInt8) : Prop := ∀ l r, ¬ RdB f s l r

theorem RdI.not_ends {f : Nat} {s : List UInt8} {i : It} {r : List UInt8} (h : RdI f s i r) : ¬ Ends s := by rw [h.2.2]; exact cons_not_ends h.1
theorem RdI.shorter {f : Nat} {s : List UInt8} {i : It} {r : List UInt8} (h : RdI f s i r) : r.length < s.length := by
  obtain ⟨u, hu⟩ := txI_hd i
  rw [h.2.2, hu, List.length_append, List.length_cons]; omega
theorem RdB.shorter {f : Nat} {s : List UInt8} {l : List It} {r : List UInt8} (h : RdB f s l r) : r.length < s.length := by
  rw [h.2]; simp; omega
theorem RdL.le {f : Nat} {s : List UInt8} {l : List It} {r : List UInt8} (h : RdL f s l r) : r.length ≤ s.length := by
  rw [h.2.2]; simp

theorem rdL_uniq {f f' : Nat} {s : List UInt8} {l l' : List It} {r r' : List UInt8} (h : RdL f s l r) (h' : RdL f' s l' r') : l = l' ∧ r = r' :=
  uniqL l l' f f' r r' h.1 h'.1 h.2.1 h'.2.1 (h.2.2.symm.trans h'.2.2)
theorem rdB_uniq {f f' : Nat} {s : List UInt8} {l l' : List It} {r r' : List UInt8} (h : RdB f s l r) (h' : RdB f' s l' r') : l = l' ∧ r = r' := by
  have e := (h.2.symm.trans h'.2)
  simp only [List.cons.injEq, true_and] at e
  obtain ⟨e1, e2⟩ := uniqL l l' f f' _ _ h.1 h'.1 (ends_br _) (ends_br _) e
  simp only [List.cons.injEq, true_and] at e2
  exact ⟨e1, e2⟩
theorem rdI_uniq {f f' : Nat} {s : List UInt8} {i i' : It} {r r' : List UInt8} (h : RdI f s i r) (h' : OkI i' f') (hr : NoBr r') (e : s = txI i' ++ r') : i = i' ∧ r = r' :=
  uniqI i i' f f' r r' h.1 h' h.2.1 hr (h.2.2.symm.trans e)

/-! ### Items, one after the other -/

/-- What has been read of items so far. -/
def SoL (f : Nat) (s : List UInt8) (l : List It) (t : List UInt8) : Prop :=
  OkL l f ∧ s = txL l ++ t ∧ ∀ l' r, RdL f s l' r → ∃ k, OkL k f ∧ l' = l ++ k ∧ t = txL k ++ r
theorem soL_start (f : Nat) (s : List UInt8) : SoL f s [] s := ⟨by rw [OkL]; trivial, by rw [txL]; rfl, fun l' _ h => ⟨l', h.1, rfl, h.2.2⟩⟩
theorem soL_end {f : Nat} {s t : List UInt8} {l : List It} (h : SoL f s l t) (he : Ends t) : RdL f s l t := ⟨h.1, he, h.2.1⟩
theorem soL_next {f : Nat} {s t r : List UInt8} {l : List It} {i : It} (h : SoL f s l t) (hi : RdI f t i r) : SoL f s (l ++ [i]) r := by
  refine ⟨(okL_append _ _ _).2 ⟨h.1, by rw [OkL, OkL]; exact ⟨hi.1, trivial⟩⟩, ?_, fun l' q hq => ?_⟩
  · rw [txL_append, txL, txL, List.append_nil, List.append_assoc, ← hi.2.2]; exact h.2.1
  · obtain ⟨k, hk, e1, e2⟩ := h.2.2 l' q hq
    cases k with
    | nil =>
      rw [txL, List.nil_append] at e2
      exact absurd (e2 ▸ hq.2.1) hi.not_ends
    | cons j k =>
      rw [OkL] at hk
      rw [txL, List.append_assoc] at e2
      obtain ⟨rfl, e3⟩ := rdI_uniq hi hk.1 (txL_ends hk.2 hq.2.1.noBr) e2
      exact ⟨k, hk.2, by rw [e1]; simp, e3⟩
theorem soL_no {f : Nat} {s t : List UInt8} {l : List It} (h : SoL f s l t) (he : ¬ Ends t) (hi : NoI f t) : NoL f s := by
  intro l' q hq
  obtain ⟨k, hk, _, e2⟩ := h.2.2 l' q hq
  cases k with
  | nil => rw [txL, List.nil_append] at e2; exact he (e2 ▸ hq.2.1)
  | cons j k =>
    rw [OkL] at hk
    rw [txL, List.append_assoc] at e2
    exact hi j _ hk.1 (txL_ends hk.2 hq.2.1.noBr) e2

/-! ### A bracket -/

theorem rdB_of {f : Nat} {t r : List UInt8} {l : List It} (h : RdL f t l (93 :: r)) : RdB f (91 :: t) l r := ⟨h.1, by rw [h.2.2]⟩
theorem noB_hd {f : Nat} {s : List UInt8} (h : ∀ t, s ≠ 91 :: t) : NoB f s := fun _ _ k => h _ k.2
theorem noB_items {f : Nat} {t : List UInt8} (h : NoL f t) : NoB f (91 :: t) := fun l r k => h l (93 :: r) ⟨k.1, ends_br _, (List.cons.inj k.2).2⟩
theorem noB_end {f : Nat} {t r : List UInt8} {l : List It} (h : RdL f t l r) (hr : ∀ u, r ≠ 93 :: u) : NoB f (91 :: t) := fun l' r' k => by
  have := rdL_uniq h (⟨k.1, ends_br r', (List.cons.inj k.2).2⟩ : RdL f t l' (93 :: r'))
  exact hr _ this.2

/-! ### An item -/

theorem noI_nil (f : Nat) : NoI f [] := fun i r _ _ e => by
  obtain ⟨u, hu⟩ := txI_hd i
  rw [hu] at e; cases e
theorem rd_blk {f : Nat} {c : UInt8} {t : List UInt8} (h : letB c = true) (hb : NoBr t ∨ FullI (.blk c)) : RdI f (c :: t) (.blk c) t := ⟨by rw [OkI]; exact h, hb, by rw [txI]; rfl⟩

/-- The item that begins with a byte, by the byte. -/
theorem hd_of {c : UInt8} {t r : List UInt8} {i : It} (e : c :: t = txI i ++ r) : hdI i = c := by
  obtain ⟨u, hu⟩ := txI_hd i
  rw [hu] at e
  exact (List.cons.inj e).1.symm

/-- Which item begins with which byte. -/
theorem hd_ask {f : Nat} {i : It} (h : OkI i f) (e : hdI i = 63) : ∃ c l r, i = .ask c l r := by
  cases i with
  | ask c l r => exact ⟨c, l, r, rfl⟩
  | blk c => rw [OkI] at h; change c = 63 at e; rw [e] at h; exact (no_let h rfl).elim
  | frame b l => cases b <;> exact (no_eq e rfl).elim
  | _ => exact (no_eq e rfl).elim
theorem hd_frame {f : Nat} {i : It} (b : Bool) (h : OkI i f) (e : hdI i = opn b) : ∃ l, i = .frame b l := by
  cases i with
  | frame b' l =>
    have : b' = b := by cases b <;> cases b' <;> first | rfl | exact (no_eq e rfl).elim
    exact ⟨l, by rw [this]⟩
  | blk c => rw [OkI] at h; change c = opn b at e; rw [e] at h; cases b <;> exact (no_let h rfl).elim
  | _ => cases b <;> exact (no_eq e rfl).elim
theorem hd_leave {f : Nat} {i : It} (h : OkI i f) (e : hdI i = 94) : ∃ n, i = .leave n := by
  cases i with
  | leave n => exact ⟨n, rfl⟩
  | blk c => rw [OkI] at h; change c = 94 at e; rw [e] at h; exact (no_let h rfl).elim
  | frame b l => cases b <;> exact (no_eq e rfl).elim
  | _ => exact (no_eq e rfl).elim
theorem hd_set {f : Nat} {i : It} (h : OkI i f) (e : hdI i = 61) : ∃ n, i = .set n := by
  cases i with
  | set n => exact ⟨n, rfl⟩
  | blk c => rw [OkI] at h; change c = 61 at e; rw [e] at h; exact (no_let h rfl).elim
  | frame b l => cases b <;> exact (no_eq e rfl).elim
  | _ => exact (no_eq e rfl).elim
theorem hd_pick {f : Nat} {i : It} (h : OkI i f) (e : hdI i = 35) : ∃ bs, i = .pick bs := by
  cases i with
  | pick bs => exact ⟨bs, rfl⟩
  | blk c => rw [OkI] at h; change c = 35 at e; rw [e] at h; exact (no_let h rfl).elim
  | frame b l => cases b <;> exact (no_eq e rfl).elim
  | _ => exact (no_eq e rfl).elim
/-- No item begins with another byte. -/
theorem noI_hd {f : Nat} {c : UInt8} {t : List UInt8} (hl : letB c = false) (h : c ≠ 63 ∧ c ≠ 46 ∧ c ≠ 40 ∧ c ≠ 123 ∧ c ≠ 94 ∧ c ≠ 61 ∧ c ≠ 35) : NoI f (c :: t) := fun i r hi _ e => by
  have hh := hd_of e
  cases i with
  | blk x => rw [OkI] at hi; change x = c at hh; rw [hh, hl] at hi; cases hi
  | ask => exact h.1 hh.symm
  | stop => exact h.2.1 hh.symm
  | frame b l => cases b; exact h.2.2.1 hh.symm; exact h.2.2.2.1 hh.symm
  | leave => exact h.2.2.2.2.1 hh.symm
  | set => exact h.2.2.2.2.2.1 hh.symm
  | pick => exact h.2.2.2.2.2.2 hh.symm

-- a choice
theorem rd_ask {f : Nat} {c : UInt8} {t u v : List UInt8} {l r : List It} (hc : letB c = true) (h1 : RdB f t l u) (h2 : RdB f u r v) (hv : NoBr v ∨ FullI (.ask c l r)) : RdI f (63 :: c :: t) (.ask c l r) v :=
  ⟨by rw [OkI]; exact ⟨hc, h1.1, h2.1⟩, hv, by rw [h1.2, h2.2, txI]; simp⟩
theorem ask_parts {f : Nat} {t r : List UInt8} {i : It} (hi : OkI i f) (e : 63 :: t = txI i ++ r) : ∃ c l k u v, i = .ask c l k ∧ t = c :: u ∧ letB c = true ∧ RdB f u l v ∧ RdB f v k r := by
  obtain ⟨c, l, k, rfl⟩ := hd_ask hi (hd_of e)
  rw [OkI] at hi
  rw [txI] at e
  simp only [List.cons_append, List.append_assoc, List.cons.injEq, true_and, List.nil_append] at e
  exact ⟨c, l, k, 91 :: (txL l ++ 93 :: 91 :: (txL k ++ 93 :: r)), 91 :: (txL k ++ 93 :: r), rfl, e, hi.1, ⟨hi.2.1, rfl⟩, ⟨hi.2.2, rfl⟩⟩
theorem noI_ask_end (f : Nat) : NoI f [63] := fun i r hi _ e => by
  obtain ⟨c, l, k, u, v, _, e2, _⟩ := ask_parts hi e
  cases e2
theorem noI_ask_name {f : Nat} {c : UInt8} {t : List UInt8} (h : letB c = false) : NoI f (63 :: c :: t) := fun i r hi _ e => by
  obtain ⟨c', l, k, u, v, _, e2, hc, _⟩ := ask_parts hi e
  rw [← (List.cons.inj e2).1, h] at hc; cases hc
theorem noI_ask1 {f : Nat} {c : UInt8} {t : List UInt8} (h : NoB f t) : NoI f (63 :: c :: t) := fun i r hi _ e => by
  obtain ⟨c', l, k, u, v, _, e2, hc, h1, _⟩ := ask_parts hi e
  rw [← (List.cons.inj e2).2] at h1
  exact h l v h1
theorem noI_ask2 {f : Nat} {c : UInt8} {t u : List UInt8} {l : List It} (h1 : RdB f t l u) (h : NoB f u) : NoI f (63 :: c :: t) := fun i r hi _ e => by
  obtain ⟨c', l', k, u', v, _, e2, hc, h1', h2⟩ := ask_parts hi e
  rw [← (List.cons.inj e2).2] at h1'
  rw [← (rdB_uniq h1 h1').2] at h2
  exact h k r h2

-- a frame
theorem rd_frame {f : Nat} (b : Bool) {t v : List UInt8} {l : List It} (hf : f < 9) (h : RdL (f + 1) t l (cls b :: v)) (hv : NoBr v ∨ FullI (.frame b l)) : RdI f (opn b :: t) (.frame b l) v :=
  ⟨by rw [OkI]; exact ⟨hf, h.1⟩, hv, by rw [h.2.2, txI]; simp⟩
theorem frame_parts {f : Nat} (b : Bool) {t r : List UInt8} {i : It} (hi : OkI i f) (e : opn b :: t = txI i ++ r) : ∃ l, i = .frame b l ∧ f < 9 ∧ RdL (f + 1) t l (cls b :: r) := by
  obtain ⟨l, rfl⟩ := hd_frame b hi (hd_of e)
  rw [OkI] at hi
  rw [txI] at e
  simp only [List.cons_append, List.append_assoc, List.cons.injEq, true_and, List.nil_append] at e
  exact ⟨l, rfl, hi.1, hi.2, ends_cls _ _, e⟩
theorem noI_frame_full {f : Nat} (b : Bool) {t : List UInt8} (h : 9 ≤ f) : NoI f (opn b :: t) := fun i r hi _ e => by
  obtain ⟨l, _, hf, _⟩ := frame_parts b hi e; omega
theorem noI_frame {f : Nat} (b : Bool) {t : List UInt8} (h : NoL (f + 1) t) : NoI f (opn b :: t) := fun i r hi _ e => by
  obtain ⟨l, _, _, hl⟩ := frame_parts b hi e; exact h _ _ hl
theorem noI_frame_end {f : Nat} (b : Bool) {t u : List UInt8} {l : List It} (h : RdL (f + 1) t l u) (hu : ∀ v, u ≠ cls b :: v) : NoI f (opn b :: t) := fun i r hi _ e => by
  obtain ⟨l', _, _, hl⟩ := frame_parts b hi e
  exact hu _ (rdL_uniq h hl).2

-- a step, a number
theorem rd_leave {f n : Nat} {t : List UInt8} (h : n < f) (h10 : n < 10) (hv : NoBr t ∨ FullI (.leave n)) : RdI f (94 :: dig n :: t) (.leave n) t := ⟨by rw [OkI]; exact ⟨h, h10⟩, hv, by rw [txI]; rfl⟩
theorem rd_set {f n : Nat} {t : List UInt8} (h10 : n < 10) (hv : NoBr t ∨ FullI (.set n)) : RdI f (61 :: dig n :: t) (.set n) t := ⟨by rw [OkI]; exact h10, hv, by rw [txI]; rfl⟩
theorem noI_leave {f : Nat} {t : List UInt8} (h : ∀ n u, n < f → n < 10 → t ≠ dig n :: u) : NoI f (94 :: t) := fun i r hi _ e => by
  obtain ⟨n, rfl⟩ := hd_leave hi (hd_of e)
  rw [OkI] at hi
  rw [txI] at e
  simp only [List.cons_append, List.cons.injEq, true_and, List.nil_append] at e
  exact h n r hi.1 hi.2 e
theorem noI_set {f : Nat} {t : List UInt8} (h : ∀ n u, n < 10 → t ≠ dig n :: u) : NoI f (61 :: t) := fun i r hi _ e => by
  obtain ⟨n, rfl⟩ := hd_set hi (hd_of e)
  rw [OkI] at hi
  rw [txI] at e
  simp only [List.cons_append, List.cons.injEq, true_and, List.nil_append] at e
  exact h n r hi e

-- brackets by the number
theorem txB_snoc : ∀ (bs : List (List It)) (l : List It), txB (bs ++ [l]) = txB bs ++ (91 :: (txL l ++ [93]))
  | [], l => by rw [List.nil_append, txB, txB, txB]; rfl
  | b :: bs, l => by rw [List.cons_append, txB, txB, txB_snoc bs l]; simp
theorem okB_append : ∀ (a b : List (List It)) (f : Nat), OkB (a ++ b) f ↔ OkB a f ∧ OkB b f
  | [], b, f => by rw [OkB]; simp
  | i :: a, b, f => by rw [List.cons_append, OkB, OkB, okB_append a b f, and_assoc]
theorem txB_append : ∀ (a b : List (List It)), txB (a ++ b) = txB a ++ txB b
  | [], b => by rw [txB]; rfl
  | l :: a, b => by rw [List.cons_append, txB, txB, txB_append a b]; simp
/-- What has been read of brackets so far. -/
def SoB (f : Nat) (s : List UInt8) (bs : List (List It)) (t : List UInt8) : Prop :=
  OkB bs f ∧ s = txB bs ++ t ∧ ∀ bs' r, OkB bs' f → NoBr r → bs.length ≤ bs'.length → s = txB bs' ++ r → ∃ k, OkB k f ∧ bs' = bs ++ k ∧ t = txB k ++ r
theorem soB_start (f : Nat) (s : List UInt8) : SoB f s [] s := ⟨by rw [OkB]; trivial, by rw [txB]; rfl, fun bs' _ h _ _ e => ⟨bs', h, rfl, e⟩⟩
theorem soB_next {f : Nat} {s t r : List UInt8} {bs : List (List It)} {l : List It} (h : SoB f s bs t) (hl : RdB f t l r) : SoB f s (bs ++ [l]) r := by
  refine ⟨(okB_append _ _ _).2 ⟨h.1, by rw [OkB, OkB]; exact ⟨hl.1, trivial⟩⟩, ?_, fun bs' q hb hq hlen e => ?_⟩
  · rw [txB_snoc, List.append_assoc, List.cons_append, List.append_assoc]
    rw [h.2.1, hl.2]; rfl
  · rw [List.length_append, List.length_singleton] at hlen
    obtain ⟨k, hk, e1, e2⟩ := h.2.2 bs' q hb hq (by omega) e
    cases k with
    | nil => rw [e1, List.append_nil] at hlen; omega
    | cons j k =>
      rw [OkB] at hk
      rw [txB] at e2
      obtain ⟨rfl, e3⟩ := rdB_uniq hl (⟨hk.1, by rw [e2]; simp⟩ : RdB f t j (txB k ++ q))
      exact ⟨k, hk.2, by rw [e1]; simp, e3⟩
theorem rd_pick {f : Nat} {s t : List UInt8} {bs : List (List It)} (h : SoB f s bs t) (h0 : 0 < bs.length) (h10 : bs.length ≤ 10) (ht : NoBr t ∨ bs.length = 10) : RdI f (35 :: s) (.pick bs) t :=
  ⟨by rw [OkI]; exact ⟨h0, h10, h.1⟩, ht, by rw [h.2.1, txI]; rfl⟩
theorem pick_parts {f : Nat} {t r : List UInt8} {i : It} (hi : OkI i f) (e : 35 :: t = txI i ++ r) : ∃ bs, i = .pick bs ∧ 0 < bs.length ∧ bs.length ≤ 10 ∧ OkB bs f ∧ t = txB bs ++ r := by
  obtain ⟨bs, rfl⟩ := hd_pick hi (hd_of e)
  rw [OkI] at hi
  rw [txI] at e
  exact ⟨bs, rfl, hi.1, hi.2.1, hi.2.2, (List.cons.inj e).2⟩
/-- The first bracket is not there. -/
theorem noI_pick0 {f : Nat} {s : List UInt8} (h : NoB f s) : NoI f (35 :: s) := fun i r hi hr e => by
  obtain ⟨bs, _, h0, _, hb, e2⟩ := pick_parts hi e
  cases bs with
  | nil => simp at h0
  | cons l bs =>
    rw [OkB] at hb
    rw [txB] at e2
    exact h l (txB bs ++ r) ⟨hb.1, by rw [e2]; simp⟩
/-- A bracket has begun that is none. -/
theorem noI_pick {f : Nat} {s t : List UInt8} {bs : List (List It)} (h : SoB f s bs (91 :: t)) (hn : NoB f (91 :: t)) : NoI f (35 :: s) := fun i r hi hr e => by
  obtain ⟨bs', _, h0, _, hb, e2⟩ := pick_parts hi e
  by_cases hlen : bs.length ≤ bs'.length
  · obtain ⟨k, hk, _, e3⟩ := h.2.2 bs' r hb hr hlen e2
    cases k with
    | nil => rw [txB, List.nil_append] at e3; exact hr _ e3.symm
    | cons l k =>
      rw [OkB] at hk
      rw [txB] at e3
      exact hn l (txB k ++ r) ⟨hk.1, by rw [e3]; simp⟩
  · -- fewer brackets, and then none: but here one begins
    have e4 : txB bs' ++ r = txB bs ++ 91 :: t := e2.symm.trans h.2.1
    obtain ⟨e5, _⟩ := uniqB bs bs' f f (91 :: t) r h.1 hb (.inr (by omega)) hr e4.symm
    rw [e5] at hlen; exact hlen (Nat.le_refl _)

/-- A text with frames is one row of items, all of it. -/
def textOk (s : List UInt8) (l : List It) : Prop := s.length ≤ 200 ∧ OkL l 0 ∧ s = txL l
theorem ends_nil : Ends [] := .inl rfl
theorem textOk_rd {s : List UInt8} {l : List It} : textOk s l ↔ s.length ≤ 200 ∧ RdL 0 s l [] := by
  unfold textOk RdL
  rw [List.append_nil]
  exact ⟨fun h => ⟨h.1, h.2.1, ends_nil, h.2.2⟩, fun h => ⟨h.1, h.2.1, h.2.2.2⟩⟩
theorem textOk_uniq {s : List UInt8} {l l' : List It} (h : textOk s l) (h' : textOk s l') : l = l' := (rdL_uniq (textOk_rd.1 h).2 (textOk_rd.1 h').2).1
theorem textNo_rest {s r : List UInt8} {l l' : List It} (h : RdL 0 s l r) (hr : r ≠ []) : ¬ textOk s l' := fun h' => hr (rdL_uniq h (textOk_rd.1 h').2).2
theorem textNo {s : List UInt8} {l : List It} (h : NoL 0 s) : ¬ textOk s l := fun h' => h _ _ (textOk_rd.1 h').2
end Go.Proofs.Ytelhogeaobofpaa
