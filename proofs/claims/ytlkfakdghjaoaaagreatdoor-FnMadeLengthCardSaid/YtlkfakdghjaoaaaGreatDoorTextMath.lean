import Derived.Test.YtlkfakdghjaoaaaGreatDoorJ0
namespace Go.Proofs.YtlkfakdghjaoaaaGreatDoor
inductive It where
 | blk (c : UInt8)
 | ask (c : UInt8) (l r : List It)
 | stop
 | frame (again : Bool) (l : List It)
 | leave (n : Nat)
 | set (n : Nat)
 | pick (bs : List (List It))
def dig (n : Nat) : UInt8 := UInt8.ofNat (48 + n)
def opn (b : Bool) : UInt8 := if b then 123 else 40
def cls (b : Bool) : UInt8 := if b then 125 else 41
mutual
def txI : It → List UInt8
 | .blk c => [c]
 | .ask c l r => 63 :: c :: 91 :: (txL l ++ 93 :: 91 :: (txL r ++ [93]))
 | .stop => [46]
 | .frame b l => opn b :: (txL l ++ [cls b])
 | .leave n => [94, dig n]
 | .set n => [61, dig n]
 | .pick bs => 35 :: txB bs
def txL : List It → List UInt8
 | [] => []
 | i :: l => txI i ++ txL l
def txB : List (List It) → List UInt8
 | [] => []
 | b :: bs => 91 :: (txL b ++ 93 :: txB bs)
end
mutual
def OkI : It → Nat → Prop
 | .blk c, _ => letB c = true
 | .ask c l r, f => letB c = true ∧ OkL l f ∧ OkL r f
 | .stop, _ => True
 | .frame _ l, f => f < 9 ∧ OkL l (f + 1)
 | .leave n, f => n < f ∧ n < 10
 | .set n, _ => n < 10
 | .pick bs, f => 0 < bs.length ∧ bs.length ≤ 10 ∧ OkB bs f
def OkL : List It → Nat → Prop
 | [], _ => True
 | i :: l, f => OkI i f ∧ OkL l f
def OkB : List (List It) → Nat → Prop
 | [], _ => True
 | b :: bs, f => OkL b f ∧ OkB bs f
end
def Ends (r : List UInt8) : Prop := r = [] ∨ ∃ t, r = 41 :: t ∨ r = 125 :: t ∨ r = 93 :: t
def NoBr (r : List UInt8) : Prop := ∀ t, r ≠ 91 :: t
def FullI : It → Prop
 | .pick bs => bs.length = 10
 | _ => True
theorem Ends.noBr {r : List UInt8} (h : Ends r) : NoBr r := by
 intro t e
 rcases h with h | ⟨u, h | h | h⟩ <;> rw [h] at e <;> simp at e
def hdI : It → UInt8
 | .blk c => c
 | .ask .. => 63
 | .stop => 46
 | .frame b _ => opn b
 | .leave _ => 94
 | .set _ => 61
 | .pick _ => 35
theorem txI_hd (i : It) : ∃ t, txI i = hdI i :: t := by
 cases i <;> exact ⟨_, by rw [txI]; rfl⟩
theorem no_eq {a b : UInt8} (h : a = b) (n : (a != b) = true) : False := by rw [h] at n; simp at n
theorem no_let {a : UInt8} (h : letB a = true) (n : letB a = false) : False := by rw [h] at n; cases n
theorem hd_not {i : It} {f : Nat} (h : OkI i f) : hdI i ≠ 41 ∧ hdI i ≠ 125 ∧ hdI i ≠ 93 ∧ hdI i ≠ 91 := by
 cases i with
 | blk c =>
  rw [OkI] at h
  refine ⟨?_, ?_, ?_, ?_⟩ <;> (intro e; change c = _ at e; rw [e] at h; revert h; decide)
 | frame b l => cases b <;> exact ⟨fun e => no_eq e rfl, fun e => no_eq e rfl, fun e => no_eq e rfl, fun e => no_eq e rfl⟩
 | _ => exact ⟨fun e => no_eq e rfl, fun e => no_eq e rfl, fun e => no_eq e rfl, fun e => no_eq e rfl⟩
theorem txL_ends {l : List It} {f : Nat} {r : List UInt8} (h : OkL l f) (hr : NoBr r) : NoBr (txL l ++ r) := by
 cases l with
 | nil => rw [txL]; exact hr
 | cons i l =>
  rw [OkL] at h
  intro t e
  obtain ⟨u, hu⟩ := txI_hd i
  rw [txL, hu] at e
  exact (hd_not h.1).2.2.2 (List.cons.inj e).1
theorem cons_not_ends {i : It} {f : Nat} {s : List UInt8} (h : OkI i f) : ¬ Ends (txI i ++ s) := by
 intro e
 obtain ⟨u, hu⟩ := txI_hd i
 rw [hu] at e
 have h4 := hd_not h
 rcases e with e | ⟨t, e | e | e⟩
 ·simp at e
 ·exact h4.1 (List.cons.inj e).1
 ·exact h4.2.1 (List.cons.inj e).1
 ·exact h4.2.2.1 (List.cons.inj e).1
theorem dig_inj {a b : Nat} (ha : a < 10) (hb : b < 10) (h : dig a = dig b) : a = b := by
 unfold dig at h
 have := congrArg UInt8.toNat h
 simp at this
 omega
theorem ends_br (t : List UInt8) : Ends (93 :: t) := .inr ⟨t, .inr (.inr rfl)⟩
theorem ends_cls (b : Bool) (t : List UInt8) : Ends (cls b :: t) := by
 cases b
 ·exact .inr ⟨t, .inl rfl⟩
 ·exact .inr ⟨t, .inr (.inl rfl)⟩
mutual
theorem uniqI : ∀ (i i' : It) (f f' : Nat) (r r' : List UInt8), OkI i f → OkI i' f' → (NoBr r ∨ FullI i) → NoBr r' → txI i ++ r = txI i' ++ r' → i = i' ∧ r = r'
 | i, i', f, f', r, r', h, h', hr, hr', e => by
  have hh : hdI i = hdI i' := by
   obtain ⟨u, hu⟩ := txI_hd i
   obtain ⟨u', hu'⟩ := txI_hd i'
   rw [hu, hu'] at e
   exact (List.cons.inj e).1
  match i, i' with
  | .blk c, .blk c' =>
   rw [txI, txI] at e
   have := List.cons.inj e
   exact ⟨by rw [this.1], this.2⟩
  | .ask c l k, .ask c' l' k' =>
   rw [OkI] at h h'
   rw [txI, txI] at e
   simp only [List.cons_append, List.append_assoc, List.cons.injEq, true_and, List.nil_append] at e
   obtain ⟨rfl, e1⟩ := e
   obtain ⟨rfl, e2⟩ := uniqL l l' f f' _ _ h.2.1 h'.2.1 (ends_br _) (ends_br _) e1
   simp only [List.cons.injEq, true_and] at e2
   obtain ⟨rfl, e3⟩ := uniqL k k' f f' _ _ h.2.2 h'.2.2 (ends_br _) (ends_br _) e2
   simp only [List.cons.injEq, true_and] at e3
   exact ⟨rfl, e3⟩
  | .stop, .stop =>
   rw [txI] at e
   exact ⟨rfl, (List.cons.inj e).2⟩
  | .frame b l, .frame b' l' =>
   have hb : b = b' := by
    cases b <;> cases b' <;> first | rfl | exact (no_eq hh rfl).elim
   subst hb
   rw [OkI] at h h'
   rw [txI, txI] at e
   simp only [List.cons_append, List.append_assoc, List.cons.injEq, true_and, List.nil_append] at e
   obtain ⟨rfl, e1⟩ := uniqL l l' (f + 1) (f' + 1) _ _ h.2 h'.2 (ends_cls _ _) (ends_cls _ _) e
   exact ⟨rfl, (List.cons.inj e1).2⟩
  | .leave n, .leave n' =>
   rw [OkI] at h h'
   rw [txI, txI] at e
   simp only [List.cons_append, List.cons.injEq, true_and, List.nil_append] at e
   exact ⟨by rw [dig_inj h.2 h'.2 e.1], e.2⟩
  | .set n, .set n' =>
   rw [OkI] at h h'
   rw [txI, txI] at e
   simp only [List.cons_append, List.cons.injEq, true_and, List.nil_append] at e
   exact ⟨by rw [dig_inj h h' e.1], e.2⟩
  | .pick bs, .pick bs' =>
   rw [OkI] at h h'
   rw [txI, txI] at e
   simp only [List.cons_append, List.cons.injEq, true_and] at e
   obtain ⟨rfl, e1⟩ := uniqB bs bs' f f' r r' h.2.2 h'.2.2 (hr.imp id fun q => by
    have q' : bs.length = 10 := q
    omega) hr' e
   exact ⟨rfl, e1⟩
  | .blk c, .ask .. | .blk c, .stop | .blk c, .leave _ | .blk c, .set _ | .blk c, .pick _ =>
   rw [OkI] at h; change c = _ at hh; rw [hh] at h; exact (no_let h rfl).elim
  | .blk c, .frame b _ => rw [OkI] at h; change c = opn b at hh; rw [hh] at h; cases b <;> exact (no_let h rfl).elim
  | .ask .., .blk c | .stop, .blk c | .leave _, .blk c | .set _, .blk c | .pick _, .blk c =>
   rw [OkI] at h'; change _ = c at hh; rw [← hh] at h'; exact (no_let h' rfl).elim
  | .frame b _, .blk c => rw [OkI] at h'; change opn b = c at hh; rw [← hh] at h'; cases b <;> exact (no_let h' rfl).elim
  | .ask .., .stop | .ask .., .leave _ | .ask .., .set _ | .ask .., .pick _ | .stop, .ask .. | .stop, .leave _ | .stop, .set _ | .stop, .pick _
  | .leave _, .ask .. | .leave _, .stop | .leave _, .set _ | .leave _, .pick _ | .set _, .ask .. | .set _, .stop | .set _, .leave _ | .set _, .pick _
  | .pick _, .ask .. | .pick _, .stop | .pick _, .leave _ | .pick _, .set _ => exact (no_eq hh rfl).elim
  | .ask .., .frame b _ | .stop, .frame b _ | .leave _, .frame b _ | .set _, .frame b _ | .pick _, .frame b _ => cases b <;> exact (no_eq hh rfl).elim
  | .frame b _, .ask .. | .frame b _, .stop | .frame b _, .leave _ | .frame b _, .set _ | .frame b _, .pick _ => cases b <;> exact (no_eq hh rfl).elim
theorem uniqL : ∀ (l l' : List It) (f f' : Nat) (r r' : List UInt8), OkL l f → OkL l' f' → Ends r → Ends r' → txL l ++ r = txL l' ++ r' → l = l' ∧ r = r'
 | [], [], _, _, r, r', _, _, _, _, e => by rw [txL] at e; exact ⟨rfl, e⟩
 | [], i' :: l', _, f', r, r', _, h', hr, _, e => by
  rw [OkL] at h'
  rw [txL, txL, List.append_assoc] at e
  rw [List.nil_append] at e
  rw [e] at hr
  exact absurd hr (cons_not_ends h'.1)
 | i :: l, [], f, _, r, r', h, _, _, hr', e => by
  rw [OkL] at h
  rw [txL, txL, List.append_assoc, List.nil_append] at e
  rw [← e] at hr'
  exact absurd hr' (cons_not_ends h.1)
 | i :: l, i' :: l', f, f', r, r', h, h', hr, hr', e => by
  rw [OkL] at h h'
  rw [txL, txL, List.append_assoc, List.append_assoc] at e
  obtain ⟨rfl, e1⟩ := uniqI i i' f f' _ _ h.1 h'.1 (.inl (txL_ends h.2 hr.noBr)) (txL_ends h'.2 hr'.noBr) e
  obtain ⟨rfl, e2⟩ := uniqL l l' f f' r r' h.2 h'.2 hr hr' e1
  exact ⟨rfl, e2⟩
theorem uniqB : ∀ (bs bs' : List (List It)) (f f' : Nat) (r r' : List UInt8), OkB bs f → OkB bs' f' → (NoBr r ∨ bs'.length ≤ bs.length) → NoBr r' → txB bs ++ r = txB bs' ++ r' → bs = bs' ∧ r = r'
 | [], [], _, _, r, r', _, _, _, _, e => by rw [txB] at e; exact ⟨rfl, e⟩
 | [], b' :: bs', _, _, r, r', _, _, hr, _, e => by
  rcases hr with hr | hr
  ·rw [txB, txB, List.nil_append] at e
   exact absurd e (hr _)
  ·simp at hr
 | b :: bs, [], _, _, r, r', _, _, _, hr', e => by
  rw [txB, txB, List.nil_append] at e
  exact absurd e.symm (hr' _)
 | b :: bs, b' :: bs', f, f', r, r', h, h', hr, hr', e => by
  rw [OkB] at h h'
  rw [txB, txB] at e
  simp only [List.cons_append, List.append_assoc, List.cons.injEq, true_and] at e
  obtain ⟨rfl, e1⟩ := uniqL b b' f f' _ _ h.1 h'.1 (ends_br _) (ends_br _) e
  simp only [List.cons.injEq, true_and] at e1
  obtain ⟨rfl, e2⟩ := uniqB bs bs' f f' r r' h.2 h'.2 (hr.imp id fun q => by simpa using q) hr' e1
  exact ⟨rfl, e2⟩
end
end Go.Proofs.YtlkfakdghjaoaaaGreatDoor
namespace Go.Proofs.YtlkfakdghjaoaaaGreatDoor
mutual
def evI : It → Nat → List (Nat × It)
 | .blk c, k => [(k, .blk c)]
 | .ask c l r, k => (k, .ask c l r) :: (evL l k ++ evL r k)
 | .stop, k => [(k, .stop)]
 | .frame b l, k => (k, .frame b l) :: evL l (k + 1)
 | .leave n, k => [(k, .leave n)]
 | .set n, k => [(k, .set n)]
 | .pick bs, k => (k, .pick bs) :: evB bs k
def evL : List It → Nat → List (Nat × It)
 | [], _ => []
 | i :: l, k => evI i k ++ evL l k
def evB : List (List It) → Nat → List (Nat × It)
 | [], _ => []
 | b :: bs, k => evL b k ++ evB bs k
end
def kdI : It → UInt8
 | .blk _ => 88
 | .ask .. => 63
 | .stop => 46
 | .frame b _ => opn b
 | .leave _ => 94
 | .set _ => 61
 | .pick _ => 35
def frI : It → Bool
 | .frame _ _ => true
 | _ => false
mutual
def cnI (kd : UInt8) : It → Nat
 | .blk c => if kdI (.blk c) = kd then 1 else 0
 | .ask c l r => (if kdI (.ask c l r) = kd then 1 else 0) + (cnL kd l + cnL kd r)
 | .stop => if kdI .stop = kd then 1 else 0
 | .frame b l => (if kdI (.frame b l) = kd then 1 else 0) + cnL kd l
 | .leave n => if kdI (.leave n) = kd then 1 else 0
 | .set n => if kdI (.set n) = kd then 1 else 0
 | .pick bs => (if kdI (.pick bs) = kd then 1 else 0) + cnB kd bs
def cnL (kd : UInt8) : List It → Nat
 | [] => 0
 | i :: l => cnI kd i + cnL kd l
def cnB (kd : UInt8) : List (List It) → Nat
 | [] => 0
 | b :: bs => cnL kd b + cnB kd bs
end
mutual
def dpI : It → Nat
 | .blk _ => 0
 | .ask _ l r => max (dpL l) (dpL r)
 | .stop => 0
 | .frame _ l => dpL l + 1
 | .leave _ => 0
 | .set _ => 0
 | .pick bs => dpB bs
def dpL : List It → Nat
 | [] => 0
 | i :: l => max (dpI i) (dpL l)
def dpB : List (List It) → Nat
 | [] => 0
 | b :: bs => max (dpL b) (dpB bs)
end
mutual
def faI : It → Nat
 | .blk _ => 0
 | .ask _ l r => max (faL l) (faL r)
 | .stop => 0
 | .frame _ l => faL l
 | .leave n => n + 1
 | .set _ => 0
 | .pick bs => faB bs
def faL : List It → Nat
 | [] => 0
 | i :: l => max (faI i) (faL l)
def faB : List (List It) → Nat
 | [] => 0
 | b :: bs => max (faL b) (faB bs)
end
theorem cnt1 (kd : UInt8) (k : Nat) (i : It) (t : List (Nat × It)) : ((k, i) :: t).countP (fun p => decide (kdI p.2 = kd)) = (if kdI i = kd then 1 else 0) + t.countP (fun p => decide (kdI p.2 = kd)) := by
 rw [List.countP_cons]
 by_cases h : kdI i = kd
 ·rw [if_pos h, if_pos (by simpa using h)]; omega
 ·rw [if_neg h, if_neg (by simpa using h)]; omega
mutual
theorem cn_evI (kd : UInt8) : ∀ (i : It) (k : Nat), (evI i k).countP (fun p => decide (kdI p.2 = kd)) = cnI kd i
 | .blk c, k => by rw [evI, cnI, cnt1]; rfl
 | .ask c l r, k => by rw [evI, cnI, cnt1, List.countP_append, cn_evL kd l, cn_evL kd r]
 | .stop, k => by rw [evI, cnI, cnt1]; rfl
 | .frame b l, k => by rw [evI, cnI, cnt1, cn_evL kd l]
 | .leave n, k => by rw [evI, cnI, cnt1]; rfl
 | .set n, k => by rw [evI, cnI, cnt1]; rfl
 | .pick bs, k => by rw [evI, cnI, cnt1, cn_evB kd bs]
theorem cn_evL (kd : UInt8) : ∀ (l : List It) (k : Nat), (evL l k).countP (fun p => decide (kdI p.2 = kd)) = cnL kd l
 | [], k => by rw [evL, cnL]; rfl
 | i :: l, k => by rw [evL, cnL, List.countP_append, cn_evI kd i, cn_evL kd l]
theorem cn_evB (kd : UInt8) : ∀ (bs : List (List It)) (k : Nat), (evB bs k).countP (fun p => decide (kdI p.2 = kd)) = cnB kd bs
 | [], k => by rw [evB, cnB]; rfl
 | b :: bs, k => by rw [evB, cnB, List.countP_append, cn_evL kd b, cn_evB kd bs]
end
theorem txL_append : ∀ (a b : List It), txL (a ++ b) = txL a ++ txL b
 | [], b => by rw [txL]; rfl
 | i :: a, b => by rw [List.cons_append, txL, txL, txL_append a b, List.append_assoc]
theorem okL_append : ∀ (a b : List It) (f : Nat), OkL (a ++ b) f ↔ OkL a f ∧ OkL b f
 | [], b, f => by rw [OkL]; simp
 | i :: a, b, f => by rw [List.cons_append, OkL, OkL, okL_append a b f, and_assoc]
mutual
theorem dp_okI : ∀ (i : It) (f : Nat), OkI i f → f ≤ 9 → f + dpI i ≤ 9
 | .blk c, f, _, hf => by rw [dpI]; omega
 | .ask c l r, f, h, hf => by rw [OkI] at h; have := dp_okL l f h.2.1 hf; have := dp_okL r f h.2.2 hf; rw [dpI]; omega
 | .stop, f, _, hf => by rw [dpI]; omega
 | .frame b l, f, h, hf => by rw [OkI] at h; have := dp_okL l (f + 1) h.2 (by omega); rw [dpI]; omega
 | .leave n, f, _, hf => by rw [dpI]; omega
 | .set n, f, _, hf => by rw [dpI]; omega
 | .pick bs, f, h, hf => by rw [OkI] at h; have := dp_okB bs f h.2.2 hf; rw [dpI]; omega
theorem dp_okL : ∀ (l : List It) (f : Nat), OkL l f → f ≤ 9 → f + dpL l ≤ 9
 | [], f, _, hf => by rw [dpL]; omega
 | i :: l, f, h, hf => by rw [OkL] at h; have := dp_okI i f h.1 hf; have := dp_okL l f h.2 hf; rw [dpL]; omega
theorem dp_okB : ∀ (bs : List (List It)) (f : Nat), OkB bs f → f ≤ 9 → f + dpB bs ≤ 9
 | [], f, _, hf => by rw [dpB]; omega
 | b :: bs, f, h, hf => by rw [OkB] at h; have := dp_okL b f h.1 hf; have := dp_okB bs f h.2 hf; rw [dpB]; omega
end
mutual
theorem fa_okI : ∀ (i : It) (f : Nat), OkI i f → faI i ≤ f + dpI i
 | .blk c, f, _ => by rw [faI]; omega
 | .ask c l r, f, h => by rw [OkI] at h; have := fa_okL l f h.2.1; have := fa_okL r f h.2.2; rw [faI, dpI]; omega
 | .stop, f, _ => by rw [faI]; omega
 | .frame b l, f, h => by rw [OkI] at h; have := fa_okL l (f + 1) h.2; rw [faI, dpI]; omega
 | .leave n, f, h => by rw [OkI] at h; rw [faI]; omega
 | .set n, f, _ => by rw [faI]; omega
 | .pick bs, f, h => by rw [OkI] at h; have := fa_okB bs f h.2.2; rw [faI, dpI]; omega
theorem fa_okL : ∀ (l : List It) (f : Nat), OkL l f → faL l ≤ f + dpL l
 | [], f, _ => by rw [faL]; omega
 | i :: l, f, h => by rw [OkL] at h; have := fa_okI i f h.1; have := fa_okL l f h.2; rw [faL, dpL]; omega
theorem fa_okB : ∀ (bs : List (List It)) (f : Nat), OkB bs f → faB bs ≤ f + dpB bs
 | [], f, _ => by rw [faB]; omega
 | b :: bs, f, h => by rw [OkB] at h; have := fa_okL b f h.1; have := fa_okB bs f h.2; rw [faB, dpB]; omega
end
end Go.Proofs.YtlkfakdghjaoaaaGreatDoor
namespace Go.Proofs.YtlkfakdghjaoaaaGreatDoor
def bc (x : UInt8) (s : List UInt8) : Nat := s.countP fun c => decide (c = x)
theorem bc_nil (x : UInt8) : bc x [] = 0 := rfl
theorem bc_append (x : UInt8) (s t : List UInt8) : bc x (s ++ t) = bc x s + bc x t := List.countP_append
theorem bc_cons (x c : UInt8) (s : List UInt8) : bc x (c :: s) = (if c = x then 1 else 0) + bc x s := by
 unfold bc
 rw [List.countP_cons]
 by_cases h : c = x
 ·rw [if_pos h, if_pos (by simpa using h)]; omega
 ·rw [if_neg h, if_neg (by simpa using h)]; omega
def Sgn (x : UInt8) : Prop := letB x = false ∧ ∀ n, n < 10 → dig n ≠ x
theorem Sgn.let_ne {x c : UInt8} (h : Sgn x) (hc : letB c = true) : c ≠ x := fun e => by rw [e, h.1] at hc; cases hc
theorem k0 {i : It} {x : UInt8} (h : (kdI i == x) = false) : (if kdI i = x then 1 else 0) = (0 : Nat) := if_neg (by simpa using h)
theorem k1 {i : It} {x : UInt8} (h : (kdI i == x) = true) : (if kdI i = x then 1 else 0) = (1 : Nat) := if_pos (by simpa using h)
mutual
theorem bc_okI {x : UInt8} (hx : Sgn x) (h1 : x ≠ 91) (h2 : x ≠ 93) (h3 : x ≠ 41) (h4 : x ≠ 125) (h5 : x ≠ 88) : ∀ (i : It) (f : Nat), OkI i f → bc x (txI i) = cnI x i
 | .blk c, f, h => by rw [OkI] at h; rw [txI, cnI, bc_cons, bc_nil, if_neg (hx.let_ne h), if_neg (show ¬ kdI (.blk c) = x from fun e => h5 e.symm)]
 | .ask c l r, f, h => by
  rw [OkI] at h
  rw [txI, cnI, bc_cons, bc_cons, bc_cons, bc_append, bc_cons, bc_cons, bc_append, bc_cons, bc_nil, bc_okL hx h1 h2 h3 h4 h5 l f h.2.1, bc_okL hx h1 h2 h3 h4 h5 r f h.2.2, if_neg (hx.let_ne h.1), if_neg (Ne.symm h1), if_neg (Ne.symm h2)]
  show (if (63 : UInt8) = x then 1 else 0) + _ = (if (63 : UInt8) = x then 1 else 0) + _
  omega
 | .stop, f, h => by rw [txI, cnI, bc_cons, bc_nil]; rfl
 | .frame b l, f, h => by
  rw [OkI] at h
  have hc : cls b ≠ x := by cases b; exact Ne.symm h3; exact Ne.symm h4
  rw [txI, cnI, bc_cons, bc_append, bc_cons, bc_nil, bc_okL hx h1 h2 h3 h4 h5 l (f + 1) h.2, if_neg hc]
  rfl
 | .leave n, f, h => by rw [OkI] at h; rw [txI, cnI, bc_cons, bc_cons, bc_nil, if_neg (hx.2 n h.2)]; rfl
 | .set n, f, h => by rw [OkI] at h; rw [txI, cnI, bc_cons, bc_cons, bc_nil, if_neg (hx.2 n h)]; rfl
 | .pick bs, f, h => by rw [OkI] at h; rw [txI, cnI, bc_cons, bc_okB hx h1 h2 h3 h4 h5 bs f h.2.2]; rfl
theorem bc_okL {x : UInt8} (hx : Sgn x) (h1 : x ≠ 91) (h2 : x ≠ 93) (h3 : x ≠ 41) (h4 : x ≠ 125) (h5 : x ≠ 88) : ∀ (l : List It) (f : Nat), OkL l f → bc x (txL l) = cnL x l
 | [], f, _ => by rw [txL, cnL, bc_nil]
 | i :: l, f, h => by rw [OkL] at h; rw [txL, cnL, bc_append, bc_okI hx h1 h2 h3 h4 h5 i f h.1, bc_okL hx h1 h2 h3 h4 h5 l f h.2]
theorem bc_okB {x : UInt8} (hx : Sgn x) (h1 : x ≠ 91) (h2 : x ≠ 93) (h3 : x ≠ 41) (h4 : x ≠ 125) (h5 : x ≠ 88) : ∀ (bs : List (List It)) (f : Nat), OkB bs f → bc x (txB bs) = cnB x bs
 | [], f, _ => by rw [txB, cnB, bc_nil]
 | b :: bs, f, h => by rw [OkB] at h; rw [txB, cnB, bc_cons, bc_append, bc_cons, bc_okL hx h1 h2 h3 h4 h5 b f h.1, bc_okB hx h1 h2 h3 h4 h5 bs f h.2, if_neg (Ne.symm h1), if_neg (Ne.symm h2)]; omega
end
end Go.Proofs.YtlkfakdghjaoaaaGreatDoor
namespace Go.Proofs.YtlkfakdghjaoaaaGreatDoor
def RdL (f : Nat) (s : List UInt8) (l : List It) (r : List UInt8) : Prop := OkL l f ∧ Ends r ∧ s = txL l ++ r
def RdI (f : Nat) (s : List UInt8) (i : It) (r : List UInt8) : Prop := OkI i f ∧ (NoBr r ∨ FullI i) ∧ s = txI i ++ r
def RdB (f : Nat) (s : List UInt8) (l : List It) (r : List UInt8) : Prop := OkL l f ∧ s = 91 :: (txL l ++ 93 :: r)
def NoL (f : Nat) (s : List UInt8) : Prop := ∀ l r, ¬ RdL f s l r
def NoI (f : Nat) (s : List UInt8) : Prop := ∀ i r, OkI i f → NoBr r → s ≠ txI i ++ r
def NoB (f : Nat) (s : List UInt8) : Prop := ∀ l r, ¬ RdB f s l r
theorem RdI.not_ends {f : Nat} {s : List UInt8} {i : It} {r : List UInt8} (h : RdI f s i r) : ¬ Ends s := by rw [h.2.2]; exact cons_not_ends h.1
theorem RdI.shorter {f : Nat} {s : List UInt8} {i : It} {r : List UInt8} (h : RdI f s i r) : r.length < s.length := by
 obtain ⟨u, hu⟩ := txI_hd i
 rw [h.2.2, hu, List.length_append, List.length_cons]; omega
theorem RdB.shorter {f : Nat} {s : List UInt8} {l : List It} {r : List UInt8} (h : RdB f s l r) : r.length < s.length := by
 rw [h.2]; simp; omega
theorem RdL.le {f : Nat} {s : List UInt8} {l : List It} {r : List UInt8} (h : RdL f s l r) : r.length ≤ s.length := by
 rw [h.2.2]; simp
theorem rdL_uniq {f f' : Nat} {s : List UInt8} {l l' : List It} {r r' : List UInt8} (h : RdL f s l r) (h' : RdL f' s l' r') : l = l' ∧ r = r' :=
 uniqL l l' f f' r r' h.1 h'.1 h.2.1 h'.2.1 (h.2.2.symm.trans h'.2.2)
theorem rdB_uniq {f f' : Nat} {s : List UInt8} {l l' : List It} {r r' : List UInt8} (h : RdB f s l r) (h' : RdB f' s l' r') : l = l' ∧ r = r' := by
 have e := (h.2.symm.trans h'.2)
 simp only [List.cons.injEq, true_and] at e
 obtain ⟨e1, e2⟩ := uniqL l l' f f' _ _ h.1 h'.1 (ends_br _) (ends_br _) e
 simp only [List.cons.injEq, true_and] at e2
 exact ⟨e1, e2⟩
theorem rdI_uniq {f f' : Nat} {s : List UInt8} {i i' : It} {r r' : List UInt8} (h : RdI f s i r) (h' : OkI i' f') (hr : NoBr r') (e : s = txI i' ++ r') : i = i' ∧ r = r' :=
 uniqI i i' f f' r r' h.1 h' h.2.1 hr (h.2.2.symm.trans e)
def SoL (f : Nat) (s : List UInt8) (l : List It) (t : List UInt8) : Prop :=
 OkL l f ∧ s = txL l ++ t ∧ ∀ l' r, RdL f s l' r → ∃ k, OkL k f ∧ l' = l ++ k ∧ t = txL k ++ r
theorem soL_start (f : Nat) (s : List UInt8) : SoL f s [] s := ⟨by rw [OkL]; trivial, by rw [txL]; rfl, fun l' _ h => ⟨l', h.1, rfl, h.2.2⟩⟩
theorem soL_end {f : Nat} {s t : List UInt8} {l : List It} (h : SoL f s l t) (he : Ends t) : RdL f s l t := ⟨h.1, he, h.2.1⟩
theorem soL_next {f : Nat} {s t r : List UInt8} {l : List It} {i : It} (h : SoL f s l t) (hi : RdI f t i r) : SoL f s (l ++ [i]) r := by
 refine ⟨(okL_append _ _ _).2 ⟨h.1, by rw [OkL, OkL]; exact ⟨hi.1, trivial⟩⟩, ?_, fun l' q hq => ?_⟩
 ·rw [txL_append, txL, txL, List.append_nil, List.append_assoc, ← hi.2.2]; exact h.2.1
 ·obtain ⟨k, hk, e1, e2⟩ := h.2.2 l' q hq
  cases k with
  | nil =>
   rw [txL, List.nil_append] at e2
   exact absurd (e2 ▸ hq.2.1) hi.not_ends
  | cons j k =>
   rw [OkL] at hk
   rw [txL, List.append_assoc] at e2
   obtain ⟨rfl, e3⟩ := rdI_uniq hi hk.1 (txL_ends hk.2 hq.2.1.noBr) e2
   exact ⟨k, hk.2, by rw [e1]; simp, e3⟩
theorem soL_no {f : Nat} {s t : List UInt8} {l : List It} (h : SoL f s l t) (he : ¬ Ends t) (hi : NoI f t) : NoL f s := by
 intro l' q hq
 obtain ⟨k, hk, _, e2⟩ := h.2.2 l' q hq
 cases k with
 | nil => rw [txL, List.nil_append] at e2; exact he (e2 ▸ hq.2.1)
 | cons j k =>
  rw [OkL] at hk
  rw [txL, List.append_assoc] at e2
  exact hi j _ hk.1 (txL_ends hk.2 hq.2.1.noBr) e2
theorem rdB_of {f : Nat} {t r : List UInt8} {l : List It} (h : RdL f t l (93 :: r)) : RdB f (91 :: t) l r := ⟨h.1, by rw [h.2.2]⟩
theorem noB_hd {f : Nat} {s : List UInt8} (h : ∀ t, s ≠ 91 :: t) : NoB f s := fun _ _ k => h _ k.2
theorem noB_items {f : Nat} {t : List UInt8} (h : NoL f t) : NoB f (91 :: t) := fun l r k => h l (93 :: r) ⟨k.1, ends_br _, (List.cons.inj k.2).2⟩
theorem noB_end {f : Nat} {t r : List UInt8} {l : List It} (h : RdL f t l r) (hr : ∀ u, r ≠ 93 :: u) : NoB f (91 :: t) := fun l' r' k => by
 have := rdL_uniq h (⟨k.1, ends_br r', (List.cons.inj k.2).2⟩ : RdL f t l' (93 :: r'))
 exact hr _ this.2
theorem noI_nil (f : Nat) : NoI f [] := fun i r _ _ e => by
 obtain ⟨u, hu⟩ := txI_hd i
 rw [hu] at e; cases e
theorem rd_blk {f : Nat} {c : UInt8} {t : List UInt8} (h : letB c = true) (hb : NoBr t ∨ FullI (.blk c)) : RdI f (c :: t) (.blk c) t := ⟨by rw [OkI]; exact h, hb, by rw [txI]; rfl⟩
theorem hd_of {c : UInt8} {t r : List UInt8} {i : It} (e : c :: t = txI i ++ r) : hdI i = c := by
 obtain ⟨u, hu⟩ := txI_hd i
 rw [hu] at e
 exact (List.cons.inj e).1.symm
theorem hd_ask {f : Nat} {i : It} (h : OkI i f) (e : hdI i = 63) : ∃ c l r, i = .ask c l r := by
 cases i with
 | ask c l r => exact ⟨c, l, r, rfl⟩
 | blk c => rw [OkI] at h; change c = 63 at e; rw [e] at h; exact (no_let h rfl).elim
 | frame b l => cases b <;> exact (no_eq e rfl).elim
 | _ => exact (no_eq e rfl).elim
theorem hd_frame {f : Nat} {i : It} (b : Bool) (h : OkI i f) (e : hdI i = opn b) : ∃ l, i = .frame b l := by
 cases i with
 | frame b' l =>
  have : b' = b := by cases b <;> cases b' <;> first | rfl | exact (no_eq e rfl).elim
  exact ⟨l, by rw [this]⟩
 | blk c => rw [OkI] at h; change c = opn b at e; rw [e] at h; cases b <;> exact (no_let h rfl).elim
 | _ => cases b <;> exact (no_eq e rfl).elim
theorem hd_leave {f : Nat} {i : It} (h : OkI i f) (e : hdI i = 94) : ∃ n, i = .leave n := by
 cases i with
 | leave n => exact ⟨n, rfl⟩
 | blk c => rw [OkI] at h; change c = 94 at e; rw [e] at h; exact (no_let h rfl).elim
 | frame b l => cases b <;> exact (no_eq e rfl).elim
 | _ => exact (no_eq e rfl).elim
theorem hd_set {f : Nat} {i : It} (h : OkI i f) (e : hdI i = 61) : ∃ n, i = .set n := by
 cases i with
 | set n => exact ⟨n, rfl⟩
 | blk c => rw [OkI] at h; change c = 61 at e; rw [e] at h; exact (no_let h rfl).elim
 | frame b l => cases b <;> exact (no_eq e rfl).elim
 | _ => exact (no_eq e rfl).elim
theorem hd_pick {f : Nat} {i : It} (h : OkI i f) (e : hdI i = 35) : ∃ bs, i = .pick bs := by
 cases i with
 | pick bs => exact ⟨bs, rfl⟩
 | blk c => rw [OkI] at h; change c = 35 at e; rw [e] at h; exact (no_let h rfl).elim
 | frame b l => cases b <;> exact (no_eq e rfl).elim
 | _ => exact (no_eq e rfl).elim
theorem noI_hd {f : Nat} {c : UInt8} {t : List UInt8} (hl : letB c = false) (h : c ≠ 63 ∧ c ≠ 46 ∧ c ≠ 40 ∧ c ≠ 123 ∧ c ≠ 94 ∧ c ≠ 61 ∧ c ≠ 35) : NoI f (c :: t) := fun i r hi _ e => by
 have hh := hd_of e
 cases i with
 | blk x => rw [OkI] at hi; change x = c at hh; rw [hh, hl] at hi; cases hi
 | ask => exact h.1 hh.symm
 | stop => exact h.2.1 hh.symm
 | frame b l => cases b; exact h.2.2.1 hh.symm; exact h.2.2.2.1 hh.symm
 | leave => exact h.2.2.2.2.1 hh.symm
 | set => exact h.2.2.2.2.2.1 hh.symm
 | pick => exact h.2.2.2.2.2.2 hh.symm
-- a choice
theorem rd_ask {f : Nat} {c : UInt8} {t u v : List UInt8} {l r : List It} (hc : letB c = true) (h1 : RdB f t l u) (h2 : RdB f u r v) (hv : NoBr v ∨ FullI (.ask c l r)) : RdI f (63 :: c :: t) (.ask c l r) v :=
 ⟨by rw [OkI]; exact ⟨hc, h1.1, h2.1⟩, hv, by rw [h1.2, h2.2, txI]; simp⟩
theorem ask_parts {f : Nat} {t r : List UInt8} {i : It} (hi : OkI i f) (e : 63 :: t = txI i ++ r) : ∃ c l k u v, i = .ask c l k ∧ t = c :: u ∧ letB c = true ∧ RdB f u l v ∧ RdB f v k r := by
 obtain ⟨c, l, k, rfl⟩ := hd_ask hi (hd_of e)
 rw [OkI] at hi
 rw [txI] at e
 simp only [List.cons_append, List.append_assoc, List.cons.injEq, true_and, List.nil_append] at e
 exact ⟨c, l, k, 91 :: (txL l ++ 93 :: 91 :: (txL k ++ 93 :: r)), 91 :: (txL k ++ 93 :: r), rfl, e, hi.1, ⟨hi.2.1, rfl⟩, ⟨hi.2.2, rfl⟩⟩
theorem noI_ask_end (f : Nat) : NoI f [63] := fun i r hi _ e => by
 obtain ⟨c, l, k, u, v, _, e2, _⟩ := ask_parts hi e
 cases e2
theorem noI_ask_name {f : Nat} {c : UInt8} {t : List UInt8} (h : letB c = false) : NoI f (63 :: c :: t) := fun i r hi _ e => by
 obtain ⟨c', l, k, u, v, _, e2, hc, _⟩ := ask_parts hi e
 rw [← (List.cons.inj e2).1, h] at hc; cases hc
theorem noI_ask1 {f : Nat} {c : UInt8} {t : List UInt8} (h : NoB f t) : NoI f (63 :: c :: t) := fun i r hi _ e => by
 obtain ⟨c', l, k, u, v, _, e2, hc, h1, _⟩ := ask_parts hi e
 rw [← (List.cons.inj e2).2] at h1
 exact h l v h1
theorem noI_ask2 {f : Nat} {c : UInt8} {t u : List UInt8} {l : List It} (h1 : RdB f t l u) (h : NoB f u) : NoI f (63 :: c :: t) := fun i r hi _ e => by
 obtain ⟨c', l', k, u', v, _, e2, hc, h1', h2⟩ := ask_parts hi e
 rw [← (List.cons.inj e2).2] at h1'
 rw [← (rdB_uniq h1 h1').2] at h2
 exact h k r h2
-- a frame
theorem rd_frame {f : Nat} (b : Bool) {t v : List UInt8} {l : List It} (hf : f < 9) (h : RdL (f + 1) t l (cls b :: v)) (hv : NoBr v ∨ FullI (.frame b l)) : RdI f (opn b :: t) (.frame b l) v :=
 ⟨by rw [OkI]; exact ⟨hf, h.1⟩, hv, by rw [h.2.2, txI]; simp⟩
theorem frame_parts {f : Nat} (b : Bool) {t r : List UInt8} {i : It} (hi : OkI i f) (e : opn b :: t = txI i ++ r) : ∃ l, i = .frame b l ∧ f < 9 ∧ RdL (f + 1) t l (cls b :: r) := by
 obtain ⟨l, rfl⟩ := hd_frame b hi (hd_of e)
 rw [OkI] at hi
 rw [txI] at e
 simp only [List.cons_append, List.append_assoc, List.cons.injEq, true_and, List.nil_append] at e
 exact ⟨l, rfl, hi.1, hi.2, ends_cls _ _, e⟩
theorem noI_frame_full {f : Nat} (b : Bool) {t : List UInt8} (h : 9 ≤ f) : NoI f (opn b :: t) := fun i r hi _ e => by
 obtain ⟨l, _, hf, _⟩ := frame_parts b hi e; omega
theorem noI_frame {f : Nat} (b : Bool) {t : List UInt8} (h : NoL (f + 1) t) : NoI f (opn b :: t) := fun i r hi _ e => by
 obtain ⟨l, _, _, hl⟩ := frame_parts b hi e; exact h _ _ hl
theorem noI_frame_end {f : Nat} (b : Bool) {t u : List UInt8} {l : List It} (h : RdL (f + 1) t l u) (hu : ∀ v, u ≠ cls b :: v) : NoI f (opn b :: t) := fun i r hi _ e => by
 obtain ⟨l', _, _, hl⟩ := frame_parts b hi e
 exact hu _ (rdL_uniq h hl).2
-- a step, a number
theorem rd_leave {f n : Nat} {t : List UInt8} (h : n < f) (h10 : n < 10) (hv : NoBr t ∨ FullI (.leave n)) : RdI f (94 :: dig n :: t) (.leave n) t := ⟨by rw [OkI]; exact ⟨h, h10⟩, hv, by rw [txI]; rfl⟩
theorem rd_set {f n : Nat} {t : List UInt8} (h10 : n < 10) (hv : NoBr t ∨ FullI (.set n)) : RdI f (61 :: dig n :: t) (.set n) t := ⟨by rw [OkI]; exact h10, hv, by rw [txI]; rfl⟩
theorem noI_leave {f : Nat} {t : List UInt8} (h : ∀ n u, n < f → n < 10 → t ≠ dig n :: u) : NoI f (94 :: t) := fun i r hi _ e => by
 obtain ⟨n, rfl⟩ := hd_leave hi (hd_of e)
 rw [OkI] at hi
 rw [txI] at e
 simp only [List.cons_append, List.cons.injEq, true_and, List.nil_append] at e
 exact h n r hi.1 hi.2 e
theorem noI_set {f : Nat} {t : List UInt8} (h : ∀ n u, n < 10 → t ≠ dig n :: u) : NoI f (61 :: t) := fun i r hi _ e => by
 obtain ⟨n, rfl⟩ := hd_set hi (hd_of e)
 rw [OkI] at hi
 rw [txI] at e
 simp only [List.cons_append, List.cons.injEq, true_and, List.nil_append] at e
 exact h n r hi e
-- brackets by the number
theorem txB_snoc : ∀ (bs : List (List It)) (l : List It), txB (bs ++ [l]) = txB bs ++ (91 :: (txL l ++ [93]))
 | [], l => by rw [List.nil_append, txB, txB, txB]; rfl
 | b :: bs, l => by rw [List.cons_append, txB, txB, txB_snoc bs l]; simp
theorem okB_append : ∀ (a b : List (List It)) (f : Nat), OkB (a ++ b) f ↔ OkB a f ∧ OkB b f
 | [], b, f => by rw [OkB]; simp
 | i :: a, b, f => by rw [List.cons_append, OkB, OkB, okB_append a b f, and_assoc]
def SoB (f : Nat) (s : List UInt8) (bs : List (List It)) (t : List UInt8) : Prop :=
 OkB bs f ∧ s = txB bs ++ t ∧ ∀ bs' r, OkB bs' f → NoBr r → bs.length ≤ bs'.length → s = txB bs' ++ r → ∃ k, OkB k f ∧ bs' = bs ++ k ∧ t = txB k ++ r
theorem soB_start (f : Nat) (s : List UInt8) : SoB f s [] s := ⟨by rw [OkB]; trivial, by rw [txB]; rfl, fun bs' _ h _ _ e => ⟨bs', h, rfl, e⟩⟩
theorem soB_next {f : Nat} {s t r : List UInt8} {bs : List (List It)} {l : List It} (h : SoB f s bs t) (hl : RdB f t l r) : SoB f s (bs ++ [l]) r := by
 refine ⟨(okB_append _ _ _).2 ⟨h.1, by rw [OkB, OkB]; exact ⟨hl.1, trivial⟩⟩, ?_, fun bs' q hb hq hlen e => ?_⟩
 ·rw [txB_snoc, List.append_assoc, List.cons_append, List.append_assoc]
  rw [h.2.1, hl.2]; rfl
 ·rw [List.length_append, List.length_singleton] at hlen
  obtain ⟨k, hk, e1, e2⟩ := h.2.2 bs' q hb hq (by omega) e
  cases k with
  | nil => rw [e1, List.append_nil] at hlen; omega
  | cons j k =>
   rw [OkB] at hk
   rw [txB] at e2
   obtain ⟨rfl, e3⟩ := rdB_uniq hl (⟨hk.1, by rw [e2]; simp⟩ : RdB f t j (txB k ++ q))
   exact ⟨k, hk.2, by rw [e1]; simp, e3⟩
theorem rd_pick {f : Nat} {s t : List UInt8} {bs : List (List It)} (h : SoB f s bs t) (h0 : 0 < bs.length) (h10 : bs.length ≤ 10) (ht : NoBr t ∨ bs.length = 10) : RdI f (35 :: s) (.pick bs) t :=
 ⟨by rw [OkI]; exact ⟨h0, h10, h.1⟩, ht, by rw [h.2.1, txI]; rfl⟩
theorem pick_parts {f : Nat} {t r : List UInt8} {i : It} (hi : OkI i f) (e : 35 :: t = txI i ++ r) : ∃ bs, i = .pick bs ∧ 0 < bs.length ∧ bs.length ≤ 10 ∧ OkB bs f ∧ t = txB bs ++ r := by
 obtain ⟨bs, rfl⟩ := hd_pick hi (hd_of e)
 rw [OkI] at hi
 rw [txI] at e
 exact ⟨bs, rfl, hi.1, hi.2.1, hi.2.2, (List.cons.inj e).2⟩
theorem noI_pick0 {f : Nat} {s : List UInt8} (h : NoB f s) : NoI f (35 :: s) := fun i r hi hr e => by
 obtain ⟨bs, _, h0, _, hb, e2⟩ := pick_parts hi e
 cases bs with
 | nil => simp at h0
 | cons l bs =>
  rw [OkB] at hb
  rw [txB] at e2
  exact h l (txB bs ++ r) ⟨hb.1, by rw [e2]; simp⟩
theorem noI_pick {f : Nat} {s t : List UInt8} {bs : List (List It)} (h : SoB f s bs (91 :: t)) (hn : NoB f (91 :: t)) : NoI f (35 :: s) := fun i r hi hr e => by
 obtain ⟨bs', _, h0, _, hb, e2⟩ := pick_parts hi e
 by_cases hlen : bs.length ≤ bs'.length
 ·obtain ⟨k, hk, _, e3⟩ := h.2.2 bs' r hb hr hlen e2
  cases k with
  | nil => rw [txB, List.nil_append] at e3; exact hr _ e3.symm
  | cons l k =>
   rw [OkB] at hk
   rw [txB] at e3
   exact hn l (txB k ++ r) ⟨hk.1, by rw [e3]; simp⟩
 ·-- fewer brackets, and then none: but here one begins
  have e4 : txB bs' ++ r = txB bs ++ 91 :: t := e2.symm.trans h.2.1
  obtain ⟨e5, _⟩ := uniqB bs bs' f f (91 :: t) r h.1 hb (.inr (by omega)) hr e4.symm
  rw [e5] at hlen; exact hlen (Nat.le_refl _)
def textOk (s : List UInt8) (l : List It) : Prop := s.length ≤ 200 ∧ OkL l 0 ∧ s = txL l
theorem ends_nil : Ends [] := .inl rfl
theorem textOk_rd {s : List UInt8} {l : List It} : textOk s l ↔ s.length ≤ 200 ∧ RdL 0 s l [] := by
 unfold textOk RdL
 rw [List.append_nil]
 exact ⟨fun h => ⟨h.1, h.2.1, ends_nil, h.2.2⟩, fun h => ⟨h.1, h.2.1, h.2.2.2⟩⟩
theorem textOk_uniq {s : List UInt8} {l l' : List It} (h : textOk s l) (h' : textOk s l') : l = l' := (rdL_uniq (textOk_rd.1 h).2 (textOk_rd.1 h').2).1
theorem textNo_rest {s r : List UInt8} {l l' : List It} (h : RdL 0 s l r) (hr : r ≠ []) : ¬ textOk s l' := fun h' => hr (rdL_uniq h (textOk_rd.1 h').2).2
theorem textNo {s : List UInt8} {l : List It} (h : NoL 0 s) : ¬ textOk s l := fun h' => h _ _ (textOk_rd.1 h').2
end Go.Proofs.YtlkfakdghjaoaaaGreatDoor
