import Derived.Test.YtlkfakdghjaoaaaGreatDoorJ0
namespace Go.Proofs.YtlkfakdghjaoaaaGreatDoor
inductive It where
 | blk (c : UInt8)
 | ask (c : UInt8) (l r : List It)
 | stop
 | frame (again : Bool) (l : List It)
 | leave (n : Nat)
 | set (n : Nat)
 | pick (bs : List (List It))
def dH (n : Nat) : UInt8 := UInt8.ofNat (48 + n)
def eG (b : Bool) : UInt8 := if b then 123 else 40
def gj (b : Bool) : UInt8 := if b then 125 else 41
mutual
def aK : It → List UInt8
 | .blk c => [c]
 | .ask c l r => 63 :: c :: 91 :: (aH l ++ 93 :: 91 :: (aH r ++ [93]))
 | .stop => [46]
 | .frame b l => eG b :: (aH l ++ [gj b])
 | .leave n => [94, dH n]
 | .set n => [61, dH n]
 | .pick bs => 35 :: bV bs
def aH : List It → List UInt8
 | [] => []
 | i :: l => aK i ++ aH l
def bV : List (List It) → List UInt8
 | [] => []
 | b :: bs => 91 :: (aH b ++ 93 :: bV bs)
end
mutual
def aC : It → Nat → Prop
 | .blk c, _ => a7 c = true
 | .ask c l r, f => a7 c = true ∧ az l f ∧ az r f
 | .stop, _ => True
 | .frame _ l, f => f < 9 ∧ az l (f + 1)
 | .leave n, f => n < f ∧ n < 10
 | .set n, _ => n < 10
 | .pick bs, f => 0 < bs.length ∧ bs.length ≤ 10 ∧ dx bs f
def az : List It → Nat → Prop
 | [], _ => True
 | i :: l, f => aC i f ∧ az l f
def dx : List (List It) → Nat → Prop
 | [], _ => True
 | b :: bs, f => az b f ∧ dx bs f
end
def Ends (r : List UInt8) : Prop := r = [] ∨ ∃ t, r = 41 :: t ∨ r = 125 :: t ∨ r = 93 :: t
def eP (r : List UInt8) : Prop := ∀ t, r ≠ 91 :: t
def mU : It → Prop
 | .pick bs => bs.length = 10
 | _ => True
theorem Ends.noBr {r : List UInt8} (h : Ends r) : eP r := by
 intro t e
 rcases h with h | ⟨u, h | h | h⟩ <;> rw [h] at e <;> simp at e
def lP : It → UInt8
 | .blk c => c
 | .ask .. => 63
 | .stop => 46
 | .frame b _ => eG b
 | .leave _ => 94
 | .set _ => 61
 | .pick _ => 35
theorem jh (i : It) : ∃ t, aK i = lP i :: t := by
 cases i <;> exact ⟨_, by rw [aK]; rfl⟩
theorem du {a b : UInt8} (h : a = b) (n : (a != b) = true) : False := by rw [h] at n; simp at n
theorem ir {a : UInt8} (h : a7 a = true) (n : a7 a = false) : False := by rw [h] at n; cases n
theorem Ch {i : It} {f : Nat} (h : aC i f) : lP i ≠ 41 ∧ lP i ≠ 125 ∧ lP i ≠ 93 ∧ lP i ≠ 91 := by
 cases i with
 | blk c =>
  rw [aC] at h
  refine ⟨?_, ?_, ?_, ?_⟩ <;> (intro e; change c = _ at e; rw [e] at h; revert h; decide)
 | frame b l => cases b <;> exact ⟨fun e => du e rfl, fun e => du e rfl, fun e => du e rfl, fun e => du e rfl⟩
 | _ => exact ⟨fun e => du e rfl, fun e => du e rfl, fun e => du e rfl, fun e => du e rfl⟩
theorem ku {l : List It} {f : Nat} {r : List UInt8} (h : az l f) (hr : eP r) : eP (aH l ++ r) := by
 cases l with
 | nil => rw [aH]; exact hr
 | cons i l =>
  rw [az] at h
  intro t e
  obtain ⟨u, hu⟩ := jh i
  rw [aH, hu] at e
  exact (Ch h.1).2.2.2 (List.cons.inj e).1
theorem ju {i : It} {f : Nat} {s : List UInt8} (h : aC i f) : ¬ Ends (aK i ++ s) := by
 intro e
 obtain ⟨u, hu⟩ := jh i
 rw [hu] at e
 have h4 := Ch h
 rcases e with e | ⟨t, e | e | e⟩
 ·simp at e
 ·exact h4.1 (List.cons.inj e).1
 ·exact h4.2.1 (List.cons.inj e).1
 ·exact h4.2.2.1 (List.cons.inj e).1
theorem so {a b : Nat} (ha : a < 10) (hb : b < 10) (h : dH a = dH b) : a = b := by
 unfold dH at h
 have := congrArg UInt8.toNat h
 simp at this
 omega
theorem fE (t : List UInt8) : Ends (93 :: t) := .inr ⟨t, .inr (.inr rfl)⟩
theorem p5 (b : Bool) (t : List UInt8) : Ends (gj b :: t) := by
 cases b
 ·exact .inr ⟨t, .inl rfl⟩
 ·exact .inr ⟨t, .inr (.inl rfl)⟩
mutual
theorem Ek : ∀ (i i' : It) (f f' : Nat) (r r' : List UInt8), aC i f → aC i' f' → (eP r ∨ mU i) → eP r' → aK i ++ r = aK i' ++ r' → i = i' ∧ r = r'
 | i, i', f, f', r, r', h, h', hr, hr', e => by
  have hh : lP i = lP i' := by
   obtain ⟨u, hu⟩ := jh i
   obtain ⟨u', hu'⟩ := jh i'
   rw [hu, hu'] at e
   exact (List.cons.inj e).1
  match i, i' with
  | .blk c, .blk c' =>
   rw [aK, aK] at e
   have := List.cons.inj e
   exact ⟨by rw [this.1], this.2⟩
  | .ask c l k, .ask c' l' k' =>
   rw [aC] at h h'
   rw [aK, aK] at e
   simp only [List.cons_append, List.append_assoc, List.cons.injEq, true_and, List.nil_append] at e
   obtain ⟨rfl, e1⟩ := e
   obtain ⟨rfl, e2⟩ := kU l l' f f' _ _ h.2.1 h'.2.1 (fE _) (fE _) e1
   simp only [List.cons.injEq, true_and] at e2
   obtain ⟨rfl, e3⟩ := kU k k' f f' _ _ h.2.2 h'.2.2 (fE _) (fE _) e2
   simp only [List.cons.injEq, true_and] at e3
   exact ⟨rfl, e3⟩
  | .stop, .stop =>
   rw [aK] at e
   exact ⟨rfl, (List.cons.inj e).2⟩
  | .frame b l, .frame b' l' =>
   have hb : b = b' := by
    cases b <;> cases b' <;> first | rfl | exact (du hh rfl).elim
   subst hb
   rw [aC] at h h'
   rw [aK, aK] at e
   simp only [List.cons_append, List.append_assoc, List.cons.injEq, true_and, List.nil_append] at e
   obtain ⟨rfl, e1⟩ := kU l l' (f + 1) (f' + 1) _ _ h.2 h'.2 (p5 _ _) (p5 _ _) e
   exact ⟨rfl, (List.cons.inj e1).2⟩
  | .leave n, .leave n' =>
   rw [aC] at h h'
   rw [aK, aK] at e
   simp only [List.cons_append, List.cons.injEq, true_and, List.nil_append] at e
   exact ⟨by rw [so h.2 h'.2 e.1], e.2⟩
  | .set n, .set n' =>
   rw [aC] at h h'
   rw [aK, aK] at e
   simp only [List.cons_append, List.cons.injEq, true_and, List.nil_append] at e
   exact ⟨by rw [so h h' e.1], e.2⟩
  | .pick bs, .pick bs' =>
   rw [aC] at h h'
   rw [aK, aK] at e
   simp only [List.cons_append, List.cons.injEq, true_and] at e
   obtain ⟨rfl, e1⟩ := uH bs bs' f f' r r' h.2.2 h'.2.2 (hr.imp id fun q => by
    have q' : bs.length = 10 := q
    omega) hr' e
   exact ⟨rfl, e1⟩
  | .blk c, .ask .. | .blk c, .stop | .blk c, .leave _ | .blk c, .set _ | .blk c, .pick _ =>
   rw [aC] at h; change c = _ at hh; rw [hh] at h; exact (ir h rfl).elim
  | .blk c, .frame b _ => rw [aC] at h; change c = eG b at hh; rw [hh] at h; cases b <;> exact (ir h rfl).elim
  | .ask .., .blk c | .stop, .blk c | .leave _, .blk c | .set _, .blk c | .pick _, .blk c =>
   rw [aC] at h'; change _ = c at hh; rw [← hh] at h'; exact (ir h' rfl).elim
  | .frame b _, .blk c => rw [aC] at h'; change eG b = c at hh; rw [← hh] at h'; cases b <;> exact (ir h' rfl).elim
  | .ask .., .stop | .ask .., .leave _ | .ask .., .set _ | .ask .., .pick _ | .stop, .ask .. | .stop, .leave _ | .stop, .set _ | .stop, .pick _
  | .leave _, .ask .. | .leave _, .stop | .leave _, .set _ | .leave _, .pick _ | .set _, .ask .. | .set _, .stop | .set _, .leave _ | .set _, .pick _
  | .pick _, .ask .. | .pick _, .stop | .pick _, .leave _ | .pick _, .set _ => exact (du hh rfl).elim
  | .ask .., .frame b _ | .stop, .frame b _ | .leave _, .frame b _ | .set _, .frame b _ | .pick _, .frame b _ => cases b <;> exact (du hh rfl).elim
  | .frame b _, .ask .. | .frame b _, .stop | .frame b _, .leave _ | .frame b _, .set _ | .frame b _, .pick _ => cases b <;> exact (du hh rfl).elim
theorem kU : ∀ (l l' : List It) (f f' : Nat) (r r' : List UInt8), az l f → az l' f' → Ends r → Ends r' → aH l ++ r = aH l' ++ r' → l = l' ∧ r = r'
 | [], [], _, _, r, r', _, _, _, _, e => by rw [aH] at e; exact ⟨rfl, e⟩
 | [], i' :: l', _, f', r, r', _, h', hr, _, e => by
  rw [az] at h'
  rw [aH, aH, List.append_assoc] at e
  rw [List.nil_append] at e
  rw [e] at hr
  exact absurd hr (ju h'.1)
 | i :: l, [], f, _, r, r', h, _, _, hr', e => by
  rw [az] at h
  rw [aH, aH, List.append_assoc, List.nil_append] at e
  rw [← e] at hr'
  exact absurd hr' (ju h.1)
 | i :: l, i' :: l', f, f', r, r', h, h', hr, hr', e => by
  rw [az] at h h'
  rw [aH, aH, List.append_assoc, List.append_assoc] at e
  obtain ⟨rfl, e1⟩ := Ek i i' f f' _ _ h.1 h'.1 (.inl (ku h.2 hr.noBr)) (ku h'.2 hr'.noBr) e
  obtain ⟨rfl, e2⟩ := kU l l' f f' r r' h.2 h'.2 hr hr' e1
  exact ⟨rfl, e2⟩
theorem uH : ∀ (bs bs' : List (List It)) (f f' : Nat) (r r' : List UInt8), dx bs f → dx bs' f' → (eP r ∨ bs'.length ≤ bs.length) → eP r' → bV bs ++ r = bV bs' ++ r' → bs = bs' ∧ r = r'
 | [], [], _, _, r, r', _, _, _, _, e => by rw [bV] at e; exact ⟨rfl, e⟩
 | [], b' :: bs', _, _, r, r', _, _, hr, _, e => by
  rcases hr with hr | hr
  ·rw [bV, bV, List.nil_append] at e
   exact absurd e (hr _)
  ·simp at hr
 | b :: bs, [], _, _, r, r', _, _, _, hr', e => by
  rw [bV, bV, List.nil_append] at e
  exact absurd e.symm (hr' _)
 | b :: bs, b' :: bs', f, f', r, r', h, h', hr, hr', e => by
  rw [dx] at h h'
  rw [bV, bV] at e
  simp only [List.cons_append, List.append_assoc, List.cons.injEq, true_and] at e
  obtain ⟨rfl, e1⟩ := kU b b' f f' _ _ h.1 h'.1 (fE _) (fE _) e
  simp only [List.cons.injEq, true_and] at e1
  obtain ⟨rfl, e2⟩ := uH bs bs' f f' r r' h.2 h'.2 (hr.imp id fun q => by simpa using q) hr' e1
  exact ⟨rfl, e2⟩
end
end Go.Proofs.YtlkfakdghjaoaaaGreatDoor
namespace Go.Proofs.YtlkfakdghjaoaaaGreatDoor
mutual
def dr : It → Nat → List (Nat × It)
 | .blk c, k => [(k, .blk c)]
 | .ask c l r, k => (k, .ask c l r) :: (bI l k ++ bI r k)
 | .stop, k => [(k, .stop)]
 | .frame b l, k => (k, .frame b l) :: bI l (k + 1)
 | .leave n, k => [(k, .leave n)]
 | .set n, k => [(k, .set n)]
 | .pick bs, k => (k, .pick bs) :: da bs k
def bI : List It → Nat → List (Nat × It)
 | [], _ => []
 | i :: l, k => dr i k ++ bI l k
def da : List (List It) → Nat → List (Nat × It)
 | [], _ => []
 | b :: bs, k => bI b k ++ da bs k
end
def cJ : It → UInt8
 | .blk _ => 88
 | .ask .. => 63
 | .stop => 46
 | .frame b _ => eG b
 | .leave _ => 94
 | .set _ => 61
 | .pick _ => 35
def nf : It → Bool
 | .frame _ _ => true
 | _ => false
mutual
def eZ (kd : UInt8) : It → Nat
 | .blk c => if cJ (.blk c) = kd then 1 else 0
 | .ask c l r => (if cJ (.ask c l r) = kd then 1 else 0) + (ce kd l + ce kd r)
 | .stop => if cJ .stop = kd then 1 else 0
 | .frame b l => (if cJ (.frame b l) = kd then 1 else 0) + ce kd l
 | .leave n => if cJ (.leave n) = kd then 1 else 0
 | .set n => if cJ (.set n) = kd then 1 else 0
 | .pick bs => (if cJ (.pick bs) = kd then 1 else 0) + tU kd bs
def ce (kd : UInt8) : List It → Nat
 | [] => 0
 | i :: l => eZ kd i + ce kd l
def tU (kd : UInt8) : List (List It) → Nat
 | [] => 0
 | b :: bs => ce kd b + tU kd bs
end
mutual
def lQ : It → Nat
 | .blk _ => 0
 | .ask _ l r => max (pq l) (pq r)
 | .stop => 0
 | .frame _ l => pq l + 1
 | .leave _ => 0
 | .set _ => 0
 | .pick bs => wP bs
def pq : List It → Nat
 | [] => 0
 | i :: l => max (lQ i) (pq l)
def wP : List (List It) → Nat
 | [] => 0
 | b :: bs => max (pq b) (wP bs)
end
mutual
def rz : It → Nat
 | .blk _ => 0
 | .ask _ l r => max (rA l) (rA r)
 | .stop => 0
 | .frame _ l => rA l
 | .leave n => n + 1
 | .set _ => 0
 | .pick bs => Ci bs
def rA : List It → Nat
 | [] => 0
 | i :: l => max (rz i) (rA l)
def Ci : List (List It) → Nat
 | [] => 0
 | b :: bs => max (rA b) (Ci bs)
end
theorem p6 (kd : UInt8) (k : Nat) (i : It) (t : List (Nat × It)) : ((k, i) :: t).countP (fun p => decide (cJ p.2 = kd)) = (if cJ i = kd then 1 else 0) + t.countP (fun p => decide (cJ p.2 = kd)) := by
 rw [List.countP_cons]
 by_cases h : cJ i = kd
 ·rw [if_pos h, if_pos (by simpa using h)]; omega
 ·rw [if_neg h, if_neg (by simpa using h)]; omega
mutual
theorem FY (kd : UInt8) : ∀ (i : It) (k : Nat), (dr i k).countP (fun p => decide (cJ p.2 = kd)) = eZ kd i
 | .blk c, k => by rw [dr, eZ, p6]; rfl
 | .ask c l r, k => by rw [dr, eZ, p6, List.countP_append, ji kd l, ji kd r]
 | .stop, k => by rw [dr, eZ, p6]; rfl
 | .frame b l, k => by rw [dr, eZ, p6, ji kd l]
 | .leave n, k => by rw [dr, eZ, p6]; rfl
 | .set n, k => by rw [dr, eZ, p6]; rfl
 | .pick bs, k => by rw [dr, eZ, p6, Cj kd bs]
theorem ji (kd : UInt8) : ∀ (l : List It) (k : Nat), (bI l k).countP (fun p => decide (cJ p.2 = kd)) = ce kd l
 | [], k => by rw [bI, ce]; rfl
 | i :: l, k => by rw [bI, ce, List.countP_append, FY kd i, ji kd l]
theorem Cj (kd : UInt8) : ∀ (bs : List (List It)) (k : Nat), (da bs k).countP (fun p => decide (cJ p.2 = kd)) = tU kd bs
 | [], k => by rw [da, tU]; rfl
 | b :: bs, k => by rw [da, tU, List.countP_append, ji kd b, Cj kd bs]
end
theorem rB : ∀ (a b : List It), aH (a ++ b) = aH a ++ aH b
 | [], b => by rw [aH]; rfl
 | i :: a, b => by rw [List.cons_append, aH, aH, rB a b, List.append_assoc]
theorem rC : ∀ (a b : List It) (f : Nat), az (a ++ b) f ↔ az a f ∧ az b f
 | [], b, f => by rw [az]; simp
 | i :: a, b, f => by rw [List.cons_append, az, az, rC a b f, and_assoc]
mutual
theorem FZ : ∀ (i : It) (f : Nat), aC i f → f ≤ 9 → f + lQ i ≤ 9
 | .blk c, f, _, hf => by rw [lQ]; omega
 | .ask c l r, f, h, hf => by rw [aC] at h; have := lR l f h.2.1 hf; have := lR r f h.2.2 hf; rw [lQ]; omega
 | .stop, f, _, hf => by rw [lQ]; omega
 | .frame b l, f, h, hf => by rw [aC] at h; have := lR l (f + 1) h.2 (by omega); rw [lQ]; omega
 | .leave n, f, _, hf => by rw [lQ]; omega
 | .set n, f, _, hf => by rw [lQ]; omega
 | .pick bs, f, h, hf => by rw [aC] at h; have := Ck bs f h.2.2 hf; rw [lQ]; omega
theorem lR : ∀ (l : List It) (f : Nat), az l f → f ≤ 9 → f + pq l ≤ 9
 | [], f, _, hf => by rw [pq]; omega
 | i :: l, f, h, hf => by rw [az] at h; have := FZ i f h.1 hf; have := lR l f h.2 hf; rw [pq]; omega
theorem Ck : ∀ (bs : List (List It)) (f : Nat), dx bs f → f ≤ 9 → f + wP bs ≤ 9
 | [], f, _, hf => by rw [wP]; omega
 | b :: bs, f, h, hf => by rw [dx] at h; have := lR b f h.1 hf; have := Ck bs f h.2 hf; rw [wP]; omega
end
mutual
theorem F0 : ∀ (i : It) (f : Nat), aC i f → rz i ≤ f + lQ i
 | .blk c, f, _ => by rw [rz]; omega
 | .ask c l r, f, h => by rw [aC] at h; have := lS l f h.2.1; have := lS r f h.2.2; rw [rz, lQ]; omega
 | .stop, f, _ => by rw [rz]; omega
 | .frame b l, f, h => by rw [aC] at h; have := lS l (f + 1) h.2; rw [rz, lQ]; omega
 | .leave n, f, h => by rw [aC] at h; rw [rz]; omega
 | .set n, f, _ => by rw [rz]; omega
 | .pick bs, f, h => by rw [aC] at h; have := Cl bs f h.2.2; rw [rz, lQ]; omega
theorem lS : ∀ (l : List It) (f : Nat), az l f → rA l ≤ f + pq l
 | [], f, _ => by rw [rA]; omega
 | i :: l, f, h => by rw [az] at h; have := F0 i f h.1; have := lS l f h.2; rw [rA, pq]; omega
theorem Cl : ∀ (bs : List (List It)) (f : Nat), dx bs f → Ci bs ≤ f + wP bs
 | [], f, _ => by rw [Ci]; omega
 | b :: bs, f, h => by rw [dx] at h; have := lS b f h.1; have := Cl bs f h.2; rw [Ci, wP]; omega
end
end Go.Proofs.YtlkfakdghjaoaaaGreatDoor
namespace Go.Proofs.YtlkfakdghjaoaaaGreatDoor
def bc (x : UInt8) (s : List UInt8) : Nat := s.countP fun c => decide (c = x)
theorem jk (x : UInt8) : bc x [] = 0 := rfl
theorem jl (x : UInt8) (s t : List UInt8) : bc x (s ++ t) = bc x s + bc x t := List.countP_append
theorem de (x c : UInt8) (s : List UInt8) : bc x (c :: s) = (if c = x then 1 else 0) + bc x s := by
 unfold bc
 rw [List.countP_cons]
 by_cases h : c = x
 ·rw [if_pos h, if_pos (by simpa using h)]; omega
 ·rw [if_neg h, if_neg (by simpa using h)]; omega
def Sgn (x : UInt8) : Prop := a7 x = false ∧ ∀ n, n < 10 → dH n ≠ x
theorem Sgn.let_ne {x c : UInt8} (h : Sgn x) (hc : a7 c = true) : c ≠ x := fun e => by rw [e, h.1] at hc; cases hc
theorem k0 {i : It} {x : UInt8} (h : (cJ i == x) = false) : (if cJ i = x then 1 else 0) = (0 : Nat) := if_neg (by simpa using h)
theorem k1 {i : It} {x : UInt8} (h : (cJ i == x) = true) : (if cJ i = x then 1 else 0) = (1 : Nat) := if_pos (by simpa using h)
mutual
theorem F1 {x : UInt8} (hx : Sgn x) (h1 : x ≠ 91) (h2 : x ≠ 93) (h3 : x ≠ 41) (h4 : x ≠ 125) (h5 : x ≠ 88) : ∀ (i : It) (f : Nat), aC i f → bc x (aK i) = eZ x i
 | .blk c, f, h => by rw [aC] at h; rw [aK, eZ, de, jk, if_neg (hx.let_ne h), if_neg (show ¬ cJ (.blk c) = x from fun e => h5 e.symm)]
 | .ask c l r, f, h => by
  rw [aC] at h
  rw [aK, eZ, de, de, de, jl, de, de, jl, de, jk, lT hx h1 h2 h3 h4 h5 l f h.2.1, lT hx h1 h2 h3 h4 h5 r f h.2.2, if_neg (hx.let_ne h.1), if_neg (Ne.symm h1), if_neg (Ne.symm h2)]
  show (if (63 : UInt8) = x then 1 else 0) + _ = (if (63 : UInt8) = x then 1 else 0) + _
  omega
 | .stop, f, h => by rw [aK, eZ, de, jk]; rfl
 | .frame b l, f, h => by
  rw [aC] at h
  have hc : gj b ≠ x := by cases b; exact Ne.symm h3; exact Ne.symm h4
  rw [aK, eZ, de, jl, de, jk, lT hx h1 h2 h3 h4 h5 l (f + 1) h.2, if_neg hc]
  rfl
 | .leave n, f, h => by rw [aC] at h; rw [aK, eZ, de, de, jk, if_neg (hx.2 n h.2)]; rfl
 | .set n, f, h => by rw [aC] at h; rw [aK, eZ, de, de, jk, if_neg (hx.2 n h)]; rfl
 | .pick bs, f, h => by rw [aC] at h; rw [aK, eZ, de, Cm hx h1 h2 h3 h4 h5 bs f h.2.2]; rfl
theorem lT {x : UInt8} (hx : Sgn x) (h1 : x ≠ 91) (h2 : x ≠ 93) (h3 : x ≠ 41) (h4 : x ≠ 125) (h5 : x ≠ 88) : ∀ (l : List It) (f : Nat), az l f → bc x (aH l) = ce x l
 | [], f, _ => by rw [aH, ce, jk]
 | i :: l, f, h => by rw [az] at h; rw [aH, ce, jl, F1 hx h1 h2 h3 h4 h5 i f h.1, lT hx h1 h2 h3 h4 h5 l f h.2]
theorem Cm {x : UInt8} (hx : Sgn x) (h1 : x ≠ 91) (h2 : x ≠ 93) (h3 : x ≠ 41) (h4 : x ≠ 125) (h5 : x ≠ 88) : ∀ (bs : List (List It)) (f : Nat), dx bs f → bc x (bV bs) = tU x bs
 | [], f, _ => by rw [bV, tU, jk]
 | b :: bs, f, h => by rw [dx] at h; rw [bV, tU, de, jl, de, lT hx h1 h2 h3 h4 h5 b f h.1, Cm hx h1 h2 h3 h4 h5 bs f h.2, if_neg (Ne.symm h1), if_neg (Ne.symm h2)]; omega
end
end Go.Proofs.YtlkfakdghjaoaaaGreatDoor
namespace Go.Proofs.YtlkfakdghjaoaaaGreatDoor
def RdL (f : Nat) (s : List UInt8) (l : List It) (r : List UInt8) : Prop := az l f ∧ Ends r ∧ s = aH l ++ r
def RdI (f : Nat) (s : List UInt8) (i : It) (r : List UInt8) : Prop := aC i f ∧ (eP r ∨ mU i) ∧ s = aK i ++ r
def RdB (f : Nat) (s : List UInt8) (l : List It) (r : List UInt8) : Prop := az l f ∧ s = 91 :: (aH l ++ 93 :: r)
def Cn (f : Nat) (s : List UInt8) : Prop := ∀ l r, ¬ RdL f s l r
def dB (f : Nat) (s : List UInt8) : Prop := ∀ i r, aC i f → eP r → s ≠ aK i ++ r
def tV (f : Nat) (s : List UInt8) : Prop := ∀ l r, ¬ RdB f s l r
theorem RdI.not_ends {f : Nat} {s : List UInt8} {i : It} {r : List UInt8} (h : RdI f s i r) : ¬ Ends s := by rw [h.2.2]; exact ju h.1
theorem RdI.shorter {f : Nat} {s : List UInt8} {i : It} {r : List UInt8} (h : RdI f s i r) : r.length < s.length := by
 obtain ⟨u, hu⟩ := jh i
 rw [h.2.2, hu, List.length_append, List.length_cons]; omega
theorem RdB.shorter {f : Nat} {s : List UInt8} {l : List It} {r : List UInt8} (h : RdB f s l r) : r.length < s.length := by
 rw [h.2]; simp; omega
theorem RdL.le {f : Nat} {s : List UInt8} {l : List It} {r : List UInt8} (h : RdL f s l r) : r.length ≤ s.length := by
 rw [h.2.2]; simp
theorem mV {f f' : Nat} {s : List UInt8} {l l' : List It} {r r' : List UInt8} (h : RdL f s l r) (h' : RdL f' s l' r') : l = l' ∧ r = r' :=
 kU l l' f f' r r' h.1 h'.1 h.2.1 h'.2.1 (h.2.2.symm.trans h'.2.2)
theorem wQ {f f' : Nat} {s : List UInt8} {l l' : List It} {r r' : List UInt8} (h : RdB f s l r) (h' : RdB f' s l' r') : l = l' ∧ r = r' := by
 have e := (h.2.symm.trans h'.2)
 simp only [List.cons.injEq, true_and] at e
 obtain ⟨e1, e2⟩ := kU l l' f f' _ _ h.1 h'.1 (fE _) (fE _) e
 simp only [List.cons.injEq, true_and] at e2
 exact ⟨e1, e2⟩
theorem DW {f f' : Nat} {s : List UInt8} {i i' : It} {r r' : List UInt8} (h : RdI f s i r) (h' : aC i' f') (hr : eP r') (e : s = aK i' ++ r') : i = i' ∧ r = r' :=
 Ek i i' f f' r r' h.1 h' h.2.1 hr (h.2.2.symm.trans e)
def tX (f : Nat) (s : List UInt8) (l : List It) (t : List UInt8) : Prop :=
 az l f ∧ s = aH l ++ t ∧ ∀ l' r, RdL f s l' r → ∃ k, az k f ∧ l' = l ++ k ∧ t = aH k ++ r
theorem tY (f : Nat) (s : List UInt8) : tX f s [] s := ⟨by rw [az]; trivial, by rw [aH]; rfl, fun l' _ h => ⟨l', h.1, rfl, h.2.2⟩⟩
theorem yR {f : Nat} {s t : List UInt8} {l : List It} (h : tX f s l t) (he : Ends t) : RdL f s l t := ⟨h.1, he, h.2.1⟩
theorem wR {f : Nat} {s t r : List UInt8} {l : List It} {i : It} (h : tX f s l t) (hi : RdI f t i r) : tX f s (l ++ [i]) r := by
 refine ⟨(rC _ _ _).2 ⟨h.1, by rw [az, az]; exact ⟨hi.1, trivial⟩⟩, ?_, fun l' q hq => ?_⟩
 ·rw [rB, aH, aH, List.append_nil, List.append_assoc, ← hi.2.2]; exact h.2.1
 ·obtain ⟨k, hk, e1, e2⟩ := h.2.2 l' q hq
  cases k with
  | nil =>
   rw [aH, List.nil_append] at e2
   exact absurd (e2 ▸ hq.2.1) hi.not_ends
  | cons j k =>
   rw [az] at hk
   rw [aH, List.append_assoc] at e2
   obtain ⟨rfl, e3⟩ := DW hi hk.1 (ku hk.2 hq.2.1.noBr) e2
   exact ⟨k, hk.2, by rw [e1]; simp, e3⟩
theorem F3 {f : Nat} {s t : List UInt8} {l : List It} (h : tX f s l t) (he : ¬ Ends t) (hi : dB f t) : Cn f s := by
 intro l' q hq
 obtain ⟨k, hk, _, e2⟩ := h.2.2 l' q hq
 cases k with
 | nil => rw [aH, List.nil_append] at e2; exact he (e2 ▸ hq.2.1)
 | cons j k =>
  rw [az] at hk
  rw [aH, List.append_assoc] at e2
  exact hi j _ hk.1 (ku hk.2 hq.2.1.noBr) e2
theorem F4 {f : Nat} {t r : List UInt8} {l : List It} (h : RdL f t l (93 :: r)) : RdB f (91 :: t) l r := ⟨h.1, by rw [h.2.2]⟩
theorem F5 {f : Nat} {s : List UInt8} (h : ∀ t, s ≠ 91 :: t) : tV f s := fun _ _ k => h _ k.2
theorem Co {f : Nat} {t : List UInt8} (h : Cn f t) : tV f (91 :: t) := fun l r k => h l (93 :: r) ⟨k.1, fE _, (List.cons.inj k.2).2⟩
theorem Ff {f : Nat} {t r : List UInt8} {l : List It} (h : RdL f t l r) (hr : ∀ u, r ≠ 93 :: u) : tV f (91 :: t) := fun l' r' k => by
 have := mV h (⟨k.1, fE r', (List.cons.inj k.2).2⟩ : RdL f t l' (93 :: r'))
 exact hr _ this.2
theorem Fg (f : Nat) : dB f [] := fun i r _ _ e => by
 obtain ⟨u, hu⟩ := jh i
 rw [hu] at e; cases e
theorem Cp {f : Nat} {c : UInt8} {t : List UInt8} (h : a7 c = true) (hb : eP t ∨ mU (.blk c)) : RdI f (c :: t) (.blk c) t := ⟨by rw [aC]; exact h, hb, by rw [aK]; rfl⟩
theorem oL {c : UInt8} {t r : List UInt8} {i : It} (e : c :: t = aK i ++ r) : lP i = c := by
 obtain ⟨u, hu⟩ := jh i
 rw [hu] at e
 exact (List.cons.inj e).1.symm
theorem F6 {f : Nat} {i : It} (h : aC i f) (e : lP i = 63) : ∃ c l r, i = .ask c l r := by
 cases i with
 | ask c l r => exact ⟨c, l, r, rfl⟩
 | blk c => rw [aC] at h; change c = 63 at e; rw [e] at h; exact (ir h rfl).elim
 | frame b l => cases b <;> exact (du e rfl).elim
 | _ => exact (du e rfl).elim
theorem DX {f : Nat} {i : It} (b : Bool) (h : aC i f) (e : lP i = eG b) : ∃ l, i = .frame b l := by
 cases i with
 | frame b' l =>
  have : b' = b := by cases b <;> cases b' <;> first | rfl | exact (du e rfl).elim
  exact ⟨l, by rw [this]⟩
 | blk c => rw [aC] at h; change c = eG b at e; rw [e] at h; cases b <;> exact (ir h rfl).elim
 | _ => cases b <;> exact (du e rfl).elim
theorem DY {f : Nat} {i : It} (h : aC i f) (e : lP i = 94) : ∃ n, i = .leave n := by
 cases i with
 | leave n => exact ⟨n, rfl⟩
 | blk c => rw [aC] at h; change c = 94 at e; rw [e] at h; exact (ir h rfl).elim
 | frame b l => cases b <;> exact (du e rfl).elim
 | _ => exact (du e rfl).elim
theorem F7 {f : Nat} {i : It} (h : aC i f) (e : lP i = 61) : ∃ n, i = .set n := by
 cases i with
 | set n => exact ⟨n, rfl⟩
 | blk c => rw [aC] at h; change c = 61 at e; rw [e] at h; exact (ir h rfl).elim
 | frame b l => cases b <;> exact (du e rfl).elim
 | _ => exact (du e rfl).elim
theorem Fh {f : Nat} {i : It} (h : aC i f) (e : lP i = 35) : ∃ bs, i = .pick bs := by
 cases i with
 | pick bs => exact ⟨bs, rfl⟩
 | blk c => rw [aC] at h; change c = 35 at e; rw [e] at h; exact (ir h rfl).elim
 | frame b l => cases b <;> exact (du e rfl).elim
 | _ => exact (du e rfl).elim
theorem Cq {f : Nat} {c : UInt8} {t : List UInt8} (hl : a7 c = false) (h : c ≠ 63 ∧ c ≠ 46 ∧ c ≠ 40 ∧ c ≠ 123 ∧ c ≠ 94 ∧ c ≠ 61 ∧ c ≠ 35) : dB f (c :: t) := fun i r hi _ e => by
 have hh := oL e
 cases i with
 | blk x => rw [aC] at hi; change x = c at hh; rw [hh, hl] at hi; cases hi
 | ask => exact h.1 hh.symm
 | stop => exact h.2.1 hh.symm
 | frame b l => cases b; exact h.2.2.1 hh.symm; exact h.2.2.2.1 hh.symm
 | leave => exact h.2.2.2.2.1 hh.symm
 | set => exact h.2.2.2.2.2.1 hh.symm
 | pick => exact h.2.2.2.2.2.2 hh.symm
-- a choice
theorem Cr {f : Nat} {c : UInt8} {t u v : List UInt8} {l r : List It} (hc : a7 c = true) (h1 : RdB f t l u) (h2 : RdB f u r v) (hv : eP v ∨ mU (.ask c l r)) : RdI f (63 :: c :: t) (.ask c l r) v :=
 ⟨by rw [aC]; exact ⟨hc, h1.1, h2.1⟩, hv, by rw [h1.2, h2.2, aK]; simp⟩
theorem kV {f : Nat} {t r : List UInt8} {i : It} (hi : aC i f) (e : 63 :: t = aK i ++ r) : ∃ c l k u v, i = .ask c l k ∧ t = c :: u ∧ a7 c = true ∧ RdB f u l v ∧ RdB f v k r := by
 obtain ⟨c, l, k, rfl⟩ := F6 hi (oL e)
 rw [aC] at hi
 rw [aK] at e
 simp only [List.cons_append, List.append_assoc, List.cons.injEq, true_and, List.nil_append] at e
 exact ⟨c, l, k, 91 :: (aH l ++ 93 :: 91 :: (aH k ++ 93 :: r)), 91 :: (aH k ++ 93 :: r), rfl, e, hi.1, ⟨hi.2.1, rfl⟩, ⟨hi.2.2, rfl⟩⟩
theorem pr (f : Nat) : dB f [63] := fun i r hi _ e => by
 obtain ⟨c, l, k, u, v, _, e2, _⟩ := kV hi e
 cases e2
theorem om {f : Nat} {c : UInt8} {t : List UInt8} (h : a7 c = false) : dB f (63 :: c :: t) := fun i r hi _ e => by
 obtain ⟨c', l, k, u, v, _, e2, hc, _⟩ := kV hi e
 rw [← (List.cons.inj e2).1, h] at hc; cases hc
theorem wS {f : Nat} {c : UInt8} {t : List UInt8} (h : tV f t) : dB f (63 :: c :: t) := fun i r hi _ e => by
 obtain ⟨c', l, k, u, v, _, e2, hc, h1, _⟩ := kV hi e
 rw [← (List.cons.inj e2).2] at h1
 exact h l v h1
theorem wT {f : Nat} {c : UInt8} {t u : List UInt8} {l : List It} (h1 : RdB f t l u) (h : tV f u) : dB f (63 :: c :: t) := fun i r hi _ e => by
 obtain ⟨c', l', k, u', v, _, e2, hc, h1', h2⟩ := kV hi e
 rw [← (List.cons.inj e2).2] at h1'
 rw [← (wQ h1 h1').2] at h2
 exact h k r h2
-- a frame
theorem wU {f : Nat} (b : Bool) {t v : List UInt8} {l : List It} (hf : f < 9) (h : RdL (f + 1) t l (gj b :: v)) (hv : eP v ∨ mU (.frame b l)) : RdI f (eG b :: t) (.frame b l) v :=
 ⟨by rw [aC]; exact ⟨hf, h.1⟩, hv, by rw [h.2.2, aK]; simp⟩
theorem i5 {f : Nat} (b : Bool) {t r : List UInt8} {i : It} (hi : aC i f) (e : eG b :: t = aK i ++ r) : ∃ l, i = .frame b l ∧ f < 9 ∧ RdL (f + 1) t l (gj b :: r) := by
 obtain ⟨l, rfl⟩ := DX b hi (oL e)
 rw [aC] at hi
 rw [aK] at e
 simp only [List.cons_append, List.append_assoc, List.cons.injEq, true_and, List.nil_append] at e
 exact ⟨l, rfl, hi.1, hi.2, p5 _ _, e⟩
theorem lU {f : Nat} (b : Bool) {t : List UInt8} (h : 9 ≤ f) : dB f (eG b :: t) := fun i r hi _ e => by
 obtain ⟨l, _, hf, _⟩ := i5 b hi e; omega
theorem Cs {f : Nat} (b : Bool) {t : List UInt8} (h : Cn (f + 1) t) : dB f (eG b :: t) := fun i r hi _ e => by
 obtain ⟨l, _, _, hl⟩ := i5 b hi e; exact h _ _ hl
theorem uC {f : Nat} (b : Bool) {t u : List UInt8} {l : List It} (h : RdL (f + 1) t l u) (hu : ∀ v, u ≠ gj b :: v) : dB f (eG b :: t) := fun i r hi _ e => by
 obtain ⟨l', _, _, hl⟩ := i5 b hi e
 exact hu _ (mV h hl).2
-- a step, a number
theorem wV {f n : Nat} {t : List UInt8} (h : n < f) (h10 : n < 10) (hv : eP t ∨ mU (.leave n)) : RdI f (94 :: dH n :: t) (.leave n) t := ⟨by rw [aC]; exact ⟨h, h10⟩, hv, by rw [aK]; rfl⟩
theorem Ct {f n : Nat} {t : List UInt8} (h10 : n < 10) (hv : eP t ∨ mU (.set n)) : RdI f (61 :: dH n :: t) (.set n) t := ⟨by rw [aC]; exact h10, hv, by rw [aK]; rfl⟩
theorem oo {f : Nat} {t : List UInt8} (h : ∀ n u, n < f → n < 10 → t ≠ dH n :: u) : dB f (94 :: t) := fun i r hi _ e => by
 obtain ⟨n, rfl⟩ := DY hi (oL e)
 rw [aC] at hi
 rw [aK] at e
 simp only [List.cons_append, List.cons.injEq, true_and, List.nil_append] at e
 exact h n r hi.1 hi.2 e
theorem yS {f : Nat} {t : List UInt8} (h : ∀ n u, n < 10 → t ≠ dH n :: u) : dB f (61 :: t) := fun i r hi _ e => by
 obtain ⟨n, rfl⟩ := F7 hi (oL e)
 rw [aC] at hi
 rw [aK] at e
 simp only [List.cons_append, List.cons.injEq, true_and, List.nil_append] at e
 exact h n r hi e
-- brackets by the number
theorem wW : ∀ (bs : List (List It)) (l : List It), bV (bs ++ [l]) = bV bs ++ (91 :: (aH l ++ [93]))
 | [], l => by rw [List.nil_append, bV, bV, bV]; rfl
 | b :: bs, l => by rw [List.cons_append, bV, bV, wW bs l]; simp
theorem rD : ∀ (a b : List (List It)) (f : Nat), dx (a ++ b) f ↔ dx a f ∧ dx b f
 | [], b, f => by rw [dx]; simp
 | i :: a, b, f => by rw [List.cons_append, dx, dx, rD a b f, and_assoc]
def rE (f : Nat) (s : List UInt8) (bs : List (List It)) (t : List UInt8) : Prop :=
 dx bs f ∧ s = bV bs ++ t ∧ ∀ bs' r, dx bs' f → eP r → bs.length ≤ bs'.length → s = bV bs' ++ r → ∃ k, dx k f ∧ bs' = bs ++ k ∧ t = bV k ++ r
theorem tZ (f : Nat) (s : List UInt8) : rE f s [] s := ⟨by rw [dx]; trivial, by rw [bV]; rfl, fun bs' _ h _ _ e => ⟨bs', h, rfl, e⟩⟩
theorem p7 {f : Nat} {s t r : List UInt8} {bs : List (List It)} {l : List It} (h : rE f s bs t) (hl : RdB f t l r) : rE f s (bs ++ [l]) r := by
 refine ⟨(rD _ _ _).2 ⟨h.1, by rw [dx, dx]; exact ⟨hl.1, trivial⟩⟩, ?_, fun bs' q hb hq hlen e => ?_⟩
 ·rw [wW, List.append_assoc, List.cons_append, List.append_assoc]
  rw [h.2.1, hl.2]; rfl
 ·rw [List.length_append, List.length_singleton] at hlen
  obtain ⟨k, hk, e1, e2⟩ := h.2.2 bs' q hb hq (by omega) e
  cases k with
  | nil => rw [e1, List.append_nil] at hlen; omega
  | cons j k =>
   rw [dx] at hk
   rw [bV] at e2
   obtain ⟨rfl, e3⟩ := wQ hl (⟨hk.1, by rw [e2]; simp⟩ : RdB f t j (bV k ++ q))
   exact ⟨k, hk.2, by rw [e1]; simp, e3⟩
theorem yT {f : Nat} {s t : List UInt8} {bs : List (List It)} (h : rE f s bs t) (h0 : 0 < bs.length) (h10 : bs.length ≤ 10) (ht : eP t ∨ bs.length = 10) : RdI f (35 :: s) (.pick bs) t :=
 ⟨by rw [aC]; exact ⟨h0, h10, h.1⟩, ht, by rw [h.2.1, aK]; rfl⟩
theorem mW {f : Nat} {t r : List UInt8} {i : It} (hi : aC i f) (e : 35 :: t = aK i ++ r) : ∃ bs, i = .pick bs ∧ 0 < bs.length ∧ bs.length ≤ 10 ∧ dx bs f ∧ t = bV bs ++ r := by
 obtain ⟨bs, rfl⟩ := Fh hi (oL e)
 rw [aC] at hi
 rw [aK] at e
 exact ⟨bs, rfl, hi.1, hi.2.1, hi.2.2, (List.cons.inj e).2⟩
theorem Cu {f : Nat} {s : List UInt8} (h : tV f s) : dB f (35 :: s) := fun i r hi hr e => by
 obtain ⟨bs, _, h0, _, hb, e2⟩ := mW hi e
 cases bs with
 | nil => simp at h0
 | cons l bs =>
  rw [dx] at hb
  rw [bV] at e2
  exact h l (bV bs ++ r) ⟨hb.1, by rw [e2]; simp⟩
theorem wX {f : Nat} {s t : List UInt8} {bs : List (List It)} (h : rE f s bs (91 :: t)) (hn : tV f (91 :: t)) : dB f (35 :: s) := fun i r hi hr e => by
 obtain ⟨bs', _, h0, _, hb, e2⟩ := mW hi e
 by_cases hlen : bs.length ≤ bs'.length
 ·obtain ⟨k, hk, _, e3⟩ := h.2.2 bs' r hb hr hlen e2
  cases k with
  | nil => rw [bV, List.nil_append] at e3; exact hr _ e3.symm
  | cons l k =>
   rw [dx] at hk
   rw [bV] at e3
   exact hn l (bV k ++ r) ⟨hk.1, by rw [e3]; simp⟩
 ·-- fewer brackets, and then none: but here one begins
  have e4 : bV bs' ++ r = bV bs ++ 91 :: t := e2.symm.trans h.2.1
  obtain ⟨e5, _⟩ := uH bs bs' f f (91 :: t) r h.1 hb (.inr (by omega)) hr e4.symm
  rw [e5] at hlen; exact hlen (Nat.le_refl _)
def bh (s : List UInt8) (l : List It) : Prop := s.length ≤ 200 ∧ az l 0 ∧ s = aH l
theorem wY : Ends [] := .inl rfl
theorem jm {s : List UInt8} {l : List It} : bh s l ↔ s.length ≤ 200 ∧ RdL 0 s l [] := by
 unfold bh RdL
 rw [List.append_nil]
 exact ⟨fun h => ⟨h.1, h.2.1, wY, h.2.2⟩, fun h => ⟨h.1, h.2.1, h.2.2.2⟩⟩
theorem lu {s : List UInt8} {l l' : List It} (h : bh s l) (h' : bh s l') : l = l' := (mV (jm.1 h).2 (jm.1 h').2).1
theorem x8 {s r : List UInt8} {l l' : List It} (h : RdL 0 s l r) (hr : r ≠ []) : ¬ bh s l' := fun h' => hr (mV h (jm.1 h').2).2
theorem F8 {s : List UInt8} {l : List It} (h : Cn 0 s) : ¬ bh s l := fun h' => h _ _ (jm.1 h').2
end Go.Proofs.YtlkfakdghjaoaaaGreatDoor
