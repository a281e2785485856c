/-
  Texts with frames: their items, the text of items, one reading only; what a text has: plain facts.
-/
import Derived.Test.YtelhogeaobofpaaBase
namespace Go.Proofs.Ytelhogeaobofpaa

/-- An item. -/
inductive It where
  | blk (c : UInt8)
  | ask (c : UInt8) (l r : List It)
  | stop
  | frame (again : Bool) (l : List It)
  | leave (n : Nat)
  | set (n : Nat)
  | pick (bs : List (List It))

def dig (n : Nat) : UInt8 := UInt8.ofNat (48 + n)
def opn (b : Bool) : UInt8 := if b then 123 else 40
def cls (b : Bool) : UInt8 := if b then 125 else 41

mutual
/-- The text of an item. -/
def txI : It → List UInt8
  | .blk c => [c]
  | .ask c l r => 63 :: c :: 91 :: (txL l ++ 93 :: 91 :: (txL r ++ [93]))
  | .stop => [46]
  | .frame b l => opn b :: (txL l ++ [cls b])
  | .leave n => [94, dig n]
  | .set n => [61, dig n]
  | .pick bs => 35 :: txB bs
def txL : List It → List UInt8
  | [] => []
  | i :: l => txI i ++ txL l
def txB : List (List It) → List UInt8
  | [] => []
  | b :: bs => 91 :: (txL b ++ 93 :: txB bs)
end

mutual
/-- May it stand within so many frames? -/
def OkI : It → Nat → Prop
  | .blk c, _ => letB c = true
  | .ask c l r, f => letB c = true ∧ OkL l f ∧ OkL r f
  | .stop, _ => True
  | .frame _ l, f => f < 9 ∧ OkL l (f + 1)
  | .leave n, f => n < f ∧ n < 10
  | .set n, _ => n < 10
  | .pick bs, f => 0 < bs.length ∧ bs.length ≤ 10 ∧ OkB bs f
def OkL : List It → Nat → Prop
  | [], _ => True
  | i :: l, f => OkI i f ∧ OkL l f
def OkB : List (List It) → Nat → Prop
  | [], _ => True
  | b :: bs, f => OkL b f ∧ OkB bs f
end

/-- Here items end. -/
def Ends (r : List UInt8) : Prop := r = [] ∨ ∃ t, r = 41 :: t ∨ r = 125 :: t ∨ r = 93 :: t
/-- Here no bracket begins. -/
def NoBr (r : List UInt8) : Prop := ∀ t, r ≠ 91 :: t
/-- A choice by the number with as many brackets as there can be. -/
def FullI : It → Prop
  | .pick bs => bs.length = 10
  | _ => True

theorem Ends.noBr {r : List UInt8} (h : Ends r) : NoBr r := by
  intro t e
  rcases h with h | ⟨u, h | h | h⟩ <;> rw [h] at e <;> simp at e

/-- The byte that an item begins with. -/
def hdI : It → UInt8
  | .blk c => c
  | .ask .. => 63
  | .stop => 46
  | .frame b _ => opn b
  | .leave _ => 94
  | .set _ => 61
  | .pick _ => 35
theorem txI_hd (i : It) : ∃ t, txI i = hdI i :: t := by
  cases i <;> exact ⟨_, by rw [txI]; rfl⟩

theorem no_eq {a b : UInt8} (h : a = b) (n : (a != b) = true) : False := by rw [h] at n; simp at n
theorem no_let {a : UInt8} (h : letB a = true) (n : letB a = false) : False := by rw [h] at n; cases n
/-- The bytes that items may begin with. -/
theorem hd_not {i : It} {f : Nat} (h : OkI i f) : hdI i ≠ 41 ∧ hdI i ≠ 125 ∧ hdI i ≠ 93 ∧ hdI i ≠ 91 := by
  cases i with
  | blk c =>
    rw [OkI] at h
    refine ⟨?_, ?_, ?_, ?_⟩ <;> (intro e; change c = _ at e; rw [e] at h; revert h; decide)
  | frame b l => cases b <;> exact ⟨fun e => no_eq e rfl, fun e => no_eq e rfl, fun e => no_eq e rfl, fun e => no_eq e rfl⟩
  | _ => exact ⟨fun e => no_eq e rfl, fun e => no_eq e rfl, fun e => no_eq e rfl, fun e => no_eq e rfl⟩

theorem txL_ends {l : List It} {f : Nat} {r : List UInt8} (h : OkL l f) (hr : NoBr r) : NoBr (txL l ++ r) := by
  cases l with
  | nil => rw [txL]; exact hr
  | cons i l =>
    rw [OkL] at h
    intro t e
    obtain ⟨u, hu⟩ := txI_hd i
    rw [txL, hu] at e
    exact (hd_not h.1).2.2.2 (List.cons.inj e).1

/-- Items do not begin where items end. -/
theorem cons_not_ends {i : It} {f : Nat} {s : List UInt8} (h : OkI i f) : ¬ Ends (txI i ++ s) := by
  intro e
  obtain ⟨u, hu⟩ := txI_hd i
  rw [hu] at e
  have h4 := hd_not h
  rcases e with e | ⟨t, e | e | e⟩
  · simp at e
  · exact h4.1 (List.cons.inj e).1
  · exact h4.2.1 (List.cons.inj e).1
  · exact h4.2.2.1 (List.cons.inj e).1

theorem dig_inj {a b : Nat} (ha : a < 10) (hb : b < 10) (h : dig a = dig b) : a = b := by
  unfold dig at h
  have := congrArg UInt8.toNat h
  simp at this
  omega

theorem ends_br (t : List UInt8) : Ends (93 :: t) := .inr ⟨t, .inr (.inr rfl)⟩
theorem ends_cls (b : Bool) (t : List UInt8) : Ends (cls b :: t) := by
  cases b
  · exact .inr ⟨t, .inl rfl⟩
  · exact .inr ⟨t, .inr (.inl rfl)⟩

mutual
/-- A text begins with one item only. -/
theorem uniqI : ∀ (i i' : It) (f f' : Nat) (r r' : List UInt8), OkI i f → OkI i' f' → (NoBr r ∨ FullI i) → NoBr r' → txI i ++ r = txI i' ++ r' → i = i' ∧ r = r'
  | i, i', f, f', r, r', h, h', hr, hr', e => by
    have hh : hdI i = hdI i' := by
      obtain ⟨u, hu⟩ := txI_hd i
      obtain ⟨u', hu'⟩ := txI_hd i'
      rw [hu, hu'] at e
      exact (List.cons.inj e).1
    match i, i' with
    | .blk c, .blk c' =>
      rw [txI, txI] at e
      have := List.cons.inj e
      exact ⟨by rw [this.1], this.2⟩
    | .ask c l k, .ask c' l' k' =>
      rw [OkI] at h h'
      rw [txI, txI] at e
      simp only [List.cons_append, List.append_assoc, List.cons.injEq, true_and, List.nil_append] at e
      obtain ⟨rfl, e1⟩ := e
      obtain ⟨rfl, e2⟩ := uniqL l l' f f' _ _ h.2.1 h'.2.1 (ends_br _) (ends_br _) e1
      simp only [List.cons.injEq, true_and] at e2
      obtain ⟨rfl, e3⟩ := uniqL k k' f f' _ _ h.2.2 h'.2.2 (ends_br _) (ends_br _) e2
      simp only [List.cons.injEq, true_and] at e3
      exact ⟨rfl, e3⟩
    | .stop, .stop =>
      rw [txI] at e
      exact ⟨rfl, (List.cons.inj e).2⟩
    | .frame b l, .frame b' l' =>
      have hb : b = b' := by
        cases b <;> cases b' <;> first | rfl | exact (no_eq hh rfl).elim
      subst hb
      rw [OkI] at h h'
      rw [txI, txI] at e
      simp only [List.cons_append, List.append_assoc, List.cons.injEq, true_and, List.nil_append] at e
      obtain ⟨rfl, e1⟩ := uniqL l l' (f + 1) (f' + 1) _ _ h.2 h'.2 (ends_cls _ _) (ends_cls _ _) e
      exact ⟨rfl, (List.cons.inj e1).2⟩
    | .leave n, .leave n' =>
      rw [OkI] at h h'
      rw [txI, txI] at e
      simp only [List.cons_append, List.cons.injEq, true_and, List.nil_append] at e
      exact ⟨by rw [dig_inj h.2 h'.2 e.1], e.2⟩
    | .set n, .set n' =>
      rw [OkI] at h h'
      rw [txI, txI] at e
      simp only [List.cons_append, List.cons.injEq, true_and, List.nil_append] at e
      exact ⟨by rw [dig_inj h h' e.1], e.2⟩
    | .pick bs, .pick bs' =>
      rw [OkI] at h h'
      rw [txI, txI] at e
      simp only [List.cons_append, List.cons.injEq, true_and] at e
      obtain ⟨rfl, e1⟩ := uniqB bs bs' f f' r r' h.2.2 h'.2.2 (hr.imp id fun q => by
        have q' : bs.length = 10 := q
        omega) hr' e
      exact ⟨rfl, e1⟩
    | .blk c, .ask .. | .blk c, .stop | .blk c, .leave _ | .blk c, .set _ | .blk c, .pick _ =>
      rw [OkI] at h; change c = _ at hh; rw [hh] at h; exact (no_let h rfl).elim
    | .blk c, .frame b _ => rw [OkI] at h; change c = opn b at hh; rw [hh] at h; cases b <;> exact (no_let h rfl).elim
    | .ask .., .blk c | .stop, .blk c | .leave _, .blk c | .set _, .blk c | .pick _, .blk c =>
      rw [OkI] at h'; change _ = c at hh; rw [← hh] at h'; exact (no_let h' rfl).elim
    | .frame b _, .blk c => rw [OkI] at h'; change opn b = c at hh; rw [← hh] at h'; cases b <;> exact (no_let h' rfl).elim
    | .ask .., .stop | .ask .., .leave _ | .ask .., .set _ | .ask .., .pick _ | .stop, .ask .. | .stop, .leave _ | .stop, .set _ | .stop, .pick _
    | .leave _, .ask .. | .leave _, .stop | .leave _, .set _ | .leave _, .pick _ | .set _, .ask .. | .set _, .stop | .set _, .leave _ | .set _, .pick _
    | .pick _, .ask .. | .pick _, .stop | .pick _, .leave _ | .pick _, .set _ => exact (no_eq hh rfl).elim
    | .ask .., .frame b _ | .stop, .frame b _ | .leave _, .frame b _ | .set _, .frame b _ | .pick _, .frame b _ => cases b <;> exact (no_eq hh rfl).elim
    | .frame b _, .ask .. | .frame b _, .stop | .frame b _, .leave _ | .frame b _, .set _ | .frame b _, .pick _ => cases b <;> exact (no_eq hh rfl).elim
/-- And with one row of items only, up to where items end. -/
theorem uniqL : ∀ (l l' : List It) (f f' : Nat) (r r' : List UInt8), OkL l f → OkL l' f' → Ends r → Ends r' → txL l ++ r = txL l' ++ r' → l = l' ∧ r = r'
  | [], [], _, _, r, r', _, _, _, _, e => by rw [txL] at e; exact ⟨rfl, e⟩
  | [], i' :: l', _, f', r, r', _, h', hr, _, e => by
    rw [OkL] at h'
    rw [txL, txL, List.append_assoc] at e
    rw [List.nil_append] at e
    rw [e] at hr
    exact absurd hr (cons_not_ends h'.1)
  | i :: l, [], f, _, r, r', h, _, _, hr', e => by
    rw [OkL] at h
    rw [txL, txL, List.append_assoc, List.nil_append] at e
    rw [← e] at hr'
    exact absurd hr' (cons_not_ends h.1)
  | i :: l, i' :: l', f, f', r, r', h, h', hr, hr', e => by
    rw [OkL] at h h'
    rw [txL, txL, List.append_assoc, List.append_assoc] at e
    obtain ⟨rfl, e1⟩ := uniqI i i' f f' _ _ h.1 h'.1 (.inl (txL_ends h.2 hr.noBr)) (txL_ends h'.2 hr'.noBr) e
    obtain ⟨rfl, e2⟩ := uniqL l l' f f' r r' h.2 h'.2 hr hr' e1
    exact ⟨rfl, e2⟩
/-- And with one row of brackets only, as many as there are. -/
theorem uniqB : ∀ (bs bs' : List (List It)) (f f' : Nat) (r r' : List UInt8), OkB bs f → OkB bs' f' → (NoBr r ∨ bs'.length ≤ bs.length) → NoBr r' → txB bs ++ r = txB bs' ++ r' → bs = bs' ∧ r = r'
  | [], [], _, _, r, r', _, _, _, _, e => by rw [txB] at e; exact ⟨rfl, e⟩
  | [], b' :: bs', _, _, r, r', _, _, hr, _, e => by
    rcases hr with hr | hr
    · rw [txB, txB, List.nil_append] at e
      exact absurd e (hr _)
    · simp at hr
  | b :: bs, [], _, _, r, r', _, _, _, hr', e => by
    rw [txB, txB, List.nil_append] at e
    exact absurd e.symm (hr' _)
  | b :: bs, b' :: bs', f, f', r, r', h, h', hr, hr', e => by
    rw [OkB] at h h'
    rw [txB, txB] at e
    simp only [List.cons_append, List.append_assoc, List.cons.injEq, true_and] at e
    obtain ⟨rfl, e1⟩ := uniqL b b' f f' _ _ h.1 h'.1 (ends_br _) (ends_br _) e
    simp only [List.cons.injEq, true_and] at e1
    obtain ⟨rfl, e2⟩ := uniqB bs bs' f f' r r' h.2 h'.2 (hr.imp id fun q => by simpa using q) hr' e1
    exact ⟨rfl, e2⟩
end

end Go.Proofs.Ytelhogeaobofpaa
