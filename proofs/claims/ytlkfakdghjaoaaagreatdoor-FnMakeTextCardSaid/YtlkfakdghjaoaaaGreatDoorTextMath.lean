import Derived.Test.YtlkfakdghjaoaaaGreatDoorJ0
namespace Go.Proofs.YtlkfakdghjaoaaaGreatDoor
inductive It where
 | blk (c : UInt8)
 | ask (c : UInt8) (l r : List It)
 | stop
 | frame (again : Bool) (l : List It)
 | leave (n : Nat)
 | set (n : Nat)
 | pick (bs : List (List It))
def dz (n : Nat) : UInt8 := UInt8.ofNat (48 + n)
def et (b : Bool) : UInt8 := if b then 123 else 40
def fC (b : Bool) : UInt8 := if b then 125 else 41
mutual
def aJ : It → List UInt8
 | .blk c => [c]
 | .ask c l r => 63 :: c :: 91 :: (aF l ++ 93 :: 91 :: (aF r ++ [93]))
 | .stop => [46]
 | .frame b l => et b :: (aF l ++ [fC b])
 | .leave n => [94, dz n]
 | .set n => [61, dz n]
 | .pick bs => 35 :: bN bs
def aF : List It → List UInt8
 | [] => []
 | i :: l => aJ i ++ aF l
def bN : List (List It) → List UInt8
 | [] => []
 | b :: bs => 91 :: (aF b ++ 93 :: bN bs)
end
mutual
def aB : It → Nat → Prop
 | .blk c, _ => aW c = true
 | .ask c l r, f => aW c = true ∧ az l f ∧ az r f
 | .stop, _ => True
 | .frame _ l, f => f < 9 ∧ az l (f + 1)
 | .leave n, f => n < f ∧ n < 10
 | .set n, _ => n < 10
 | .pick bs, f => 0 < bs.length ∧ bs.length ≤ 10 ∧ di bs f
def az : List It → Nat → Prop
 | [], _ => True
 | i :: l, f => aB i f ∧ az l f
def di : List (List It) → Nat → Prop
 | [], _ => True
 | b :: bs, f => az b f ∧ di bs f
end
def Ends (r : List UInt8) : Prop := r = [] ∨ ∃ t, r = 41 :: t ∨ r = 125 :: t ∨ r = 93 :: t
def eC (r : List UInt8) : Prop := ∀ t, r ≠ 91 :: t
def mq : It → Prop
 | .pick bs => bs.length = 10
 | _ => True
theorem Ends.noBr {r : List UInt8} (h : Ends r) : eC r := by
 intro t e
 rcases h with h | ⟨u, h | h | h⟩ <;> rw [h] at e <;> simp at e
def lh : It → UInt8
 | .blk c => c
 | .ask .. => 63
 | .stop => 46
 | .frame b _ => et b
 | .leave _ => 94
 | .set _ => 61
 | .pick _ => 35
theorem iJ (i : It) : ∃ t, aJ i = lh i :: t := by
 cases i <;> exact ⟨_, by rw [aJ]; rfl⟩
theorem dg {a b : UInt8} (h : a = b) (n : (a != b) = true) : False := by rw [h] at n; simp at n
theorem gM {a : UInt8} (h : aW a = true) (n : aW a = false) : False := by rw [h] at n; cases n
theorem Ba {i : It} {f : Nat} (h : aB i f) : lh i ≠ 41 ∧ lh i ≠ 125 ∧ lh i ≠ 93 ∧ lh i ≠ 91 := by
 cases i with
 | blk c =>
  rw [aB] at h
  refine ⟨?_, ?_, ?_, ?_⟩ <;> (intro e; change c = _ at e; rw [e] at h; revert h; decide)
 | frame b l => cases b <;> exact ⟨fun e => dg e rfl, fun e => dg e rfl, fun e => dg e rfl, fun e => dg e rfl⟩
 | _ => exact ⟨fun e => dg e rfl, fun e => dg e rfl, fun e => dg e rfl, fun e => dg e rfl⟩
theorem jL {l : List It} {f : Nat} {r : List UInt8} (h : az l f) (hr : eC r) : eC (aF l ++ r) := by
 cases l with
 | nil => rw [aF]; exact hr
 | cons i l =>
  rw [az] at h
  intro t e
  obtain ⟨u, hu⟩ := iJ i
  rw [aF, hu] at e
  exact (Ba h.1).2.2.2 (List.cons.inj e).1
theorem iU {i : It} {f : Nat} {s : List UInt8} (h : aB i f) : ¬ Ends (aJ i ++ s) := by
 intro e
 obtain ⟨u, hu⟩ := iJ i
 rw [hu] at e
 have h4 := Ba h
 rcases e with e | ⟨t, e | e | e⟩
 ·simp at e
 ·exact h4.1 (List.cons.inj e).1
 ·exact h4.2.1 (List.cons.inj e).1
 ·exact h4.2.2.1 (List.cons.inj e).1
theorem rK {a b : Nat} (ha : a < 10) (hb : b < 10) (h : dz a = dz b) : a = b := by
 unfold dz at h
 have := congrArg UInt8.toNat h
 simp at this
 omega
theorem fh (t : List UInt8) : Ends (93 :: t) := .inr ⟨t, .inr (.inr rfl)⟩
theorem pC (b : Bool) (t : List UInt8) : Ends (fC b :: t) := by
 cases b
 ·exact .inr ⟨t, .inl rfl⟩
 ·exact .inr ⟨t, .inr (.inl rfl)⟩
mutual
theorem Df : ∀ (i i' : It) (f f' : Nat) (r r' : List UInt8), aB i f → aB i' f' → (eC r ∨ mq i) → eC r' → aJ i ++ r = aJ i' ++ r' → i = i' ∧ r = r'
 | i, i', f, f', r, r', h, h', hr, hr', e => by
  have hh : lh i = lh i' := by
   obtain ⟨u, hu⟩ := iJ i
   obtain ⟨u', hu'⟩ := iJ i'
   rw [hu, hu'] at e
   exact (List.cons.inj e).1
  match i, i' with
  | .blk c, .blk c' =>
   rw [aJ, aJ] at e
   have := List.cons.inj e
   exact ⟨by rw [this.1], this.2⟩
  | .ask c l k, .ask c' l' k' =>
   rw [aB] at h h'
   rw [aJ, aJ] at e
   simp only [List.cons_append, List.append_assoc, List.cons.injEq, true_and, List.nil_append] at e
   obtain ⟨rfl, e1⟩ := e
   obtain ⟨rfl, e2⟩ := j9 l l' f f' _ _ h.2.1 h'.2.1 (fh _) (fh _) e1
   simp only [List.cons.injEq, true_and] at e2
   obtain ⟨rfl, e3⟩ := j9 k k' f f' _ _ h.2.2 h'.2.2 (fh _) (fh _) e2
   simp only [List.cons.injEq, true_and] at e3
   exact ⟨rfl, e3⟩
  | .stop, .stop =>
   rw [aJ] at e
   exact ⟨rfl, (List.cons.inj e).2⟩
  | .frame b l, .frame b' l' =>
   have hb : b = b' := by
    cases b <;> cases b' <;> first | rfl | exact (dg hh rfl).elim
   subst hb
   rw [aB] at h h'
   rw [aJ, aJ] at e
   simp only [List.cons_append, List.append_assoc, List.cons.injEq, true_and, List.nil_append] at e
   obtain ⟨rfl, e1⟩ := j9 l l' (f + 1) (f' + 1) _ _ h.2 h'.2 (pC _ _) (pC _ _) e
   exact ⟨rfl, (List.cons.inj e1).2⟩
  | .leave n, .leave n' =>
   rw [aB] at h h'
   rw [aJ, aJ] at e
   simp only [List.cons_append, List.cons.injEq, true_and, List.nil_append] at e
   exact ⟨by rw [rK h.2 h'.2 e.1], e.2⟩
  | .set n, .set n' =>
   rw [aB] at h h'
   rw [aJ, aJ] at e
   simp only [List.cons_append, List.cons.injEq, true_and, List.nil_append] at e
   exact ⟨by rw [rK h h' e.1], e.2⟩
  | .pick bs, .pick bs' =>
   rw [aB] at h h'
   rw [aJ, aJ] at e
   simp only [List.cons_append, List.cons.injEq, true_and] at e
   obtain ⟨rfl, e1⟩ := tI bs bs' f f' r r' h.2.2 h'.2.2 (hr.imp id fun q => by
    have q' : bs.length = 10 := q
    omega) hr' e
   exact ⟨rfl, e1⟩
  | .blk c, .ask .. | .blk c, .stop | .blk c, .leave _ | .blk c, .set _ | .blk c, .pick _ =>
   rw [aB] at h; change c = _ at hh; rw [hh] at h; exact (gM h rfl).elim
  | .blk c, .frame b _ => rw [aB] at h; change c = et b at hh; rw [hh] at h; cases b <;> exact (gM h rfl).elim
  | .ask .., .blk c | .stop, .blk c | .leave _, .blk c | .set _, .blk c | .pick _, .blk c =>
   rw [aB] at h'; change _ = c at hh; rw [← hh] at h'; exact (gM h' rfl).elim
  | .frame b _, .blk c => rw [aB] at h'; change et b = c at hh; rw [← hh] at h'; cases b <;> exact (gM h' rfl).elim
  | .ask .., .stop | .ask .., .leave _ | .ask .., .set _ | .ask .., .pick _ | .stop, .ask .. | .stop, .leave _ | .stop, .set _ | .stop, .pick _
  | .leave _, .ask .. | .leave _, .stop | .leave _, .set _ | .leave _, .pick _ | .set _, .ask .. | .set _, .stop | .set _, .leave _ | .set _, .pick _
  | .pick _, .ask .. | .pick _, .stop | .pick _, .leave _ | .pick _, .set _ => exact (dg hh rfl).elim
  | .ask .., .frame b _ | .stop, .frame b _ | .leave _, .frame b _ | .set _, .frame b _ | .pick _, .frame b _ => cases b <;> exact (dg hh rfl).elim
  | .frame b _, .ask .. | .frame b _, .stop | .frame b _, .leave _ | .frame b _, .set _ | .frame b _, .pick _ => cases b <;> exact (dg hh rfl).elim
theorem j9 : ∀ (l l' : List It) (f f' : Nat) (r r' : List UInt8), az l f → az l' f' → Ends r → Ends r' → aF l ++ r = aF l' ++ r' → l = l' ∧ r = r'
 | [], [], _, _, r, r', _, _, _, _, e => by rw [aF] at e; exact ⟨rfl, e⟩
 | [], i' :: l', _, f', r, r', _, h', hr, _, e => by
  rw [az] at h'
  rw [aF, aF, List.append_assoc] at e
  rw [List.nil_append] at e
  rw [e] at hr
  exact absurd hr (iU h'.1)
 | i :: l, [], f, _, r, r', h, _, _, hr', e => by
  rw [az] at h
  rw [aF, aF, List.append_assoc, List.nil_append] at e
  rw [← e] at hr'
  exact absurd hr' (iU h.1)
 | i :: l, i' :: l', f, f', r, r', h, h', hr, hr', e => by
  rw [az] at h h'
  rw [aF, aF, List.append_assoc, List.append_assoc] at e
  obtain ⟨rfl, e1⟩ := Df i i' f f' _ _ h.1 h'.1 (.inl (jL h.2 hr.noBr)) (jL h'.2 hr'.noBr) e
  obtain ⟨rfl, e2⟩ := j9 l l' f f' r r' h.2 h'.2 hr hr' e1
  exact ⟨rfl, e2⟩
theorem tI : ∀ (bs bs' : List (List It)) (f f' : Nat) (r r' : List UInt8), di bs f → di bs' f' → (eC r ∨ bs'.length ≤ bs.length) → eC r' → bN bs ++ r = bN bs' ++ r' → bs = bs' ∧ r = r'
 | [], [], _, _, r, r', _, _, _, _, e => by rw [bN] at e; exact ⟨rfl, e⟩
 | [], b' :: bs', _, _, r, r', _, _, hr, _, e => by
  rcases hr with hr | hr
  ·rw [bN, bN, List.nil_append] at e
   exact absurd e (hr _)
  ·simp at hr
 | b :: bs, [], _, _, r, r', _, _, _, hr', e => by
  rw [bN, bN, List.nil_append] at e
  exact absurd e.symm (hr' _)
 | b :: bs, b' :: bs', f, f', r, r', h, h', hr, hr', e => by
  rw [di] at h h'
  rw [bN, bN] at e
  simp only [List.cons_append, List.append_assoc, List.cons.injEq, true_and] at e
  obtain ⟨rfl, e1⟩ := j9 b b' f f' _ _ h.1 h'.1 (fh _) (fh _) e
  simp only [List.cons.injEq, true_and] at e1
  obtain ⟨rfl, e2⟩ := tI bs bs' f f' r r' h.2 h'.2 (hr.imp id fun q => by simpa using q) hr' e1
  exact ⟨rfl, e2⟩
end
end Go.Proofs.YtlkfakdghjaoaaaGreatDoor
namespace Go.Proofs.YtlkfakdghjaoaaaGreatDoor
mutual
def d9 : It → Nat → List (Nat × It)
 | .blk c, k => [(k, .blk c)]
 | .ask c l r, k => (k, .ask c l r) :: (bO l k ++ bO r k)
 | .stop, k => [(k, .stop)]
 | .frame b l, k => (k, .frame b l) :: bO l (k + 1)
 | .leave n, k => [(k, .leave n)]
 | .set n, k => [(k, .set n)]
 | .pick bs, k => (k, .pick bs) :: dj bs k
def bO : List It → Nat → List (Nat × It)
 | [], _ => []
 | i :: l, k => d9 i k ++ bO l k
def dj : List (List It) → Nat → List (Nat × It)
 | [], _ => []
 | b :: bs, k => bO b k ++ dj bs k
end
def dR : It → UInt8
 | .blk _ => 88
 | .ask .. => 63
 | .stop => 46
 | .frame b _ => et b
 | .leave _ => 94
 | .set _ => 61
 | .pick _ => 35
def li : It → List UInt8
 | .blk c => [c]
 | .ask c _ _ => [c]
 | _ => []
def mJ : It → Bool
 | .frame _ _ => true
 | _ => false
mutual
def eN (kd : UInt8) : It → Nat
 | .blk c => if dR (.blk c) = kd then 1 else 0
 | .ask c l r => (if dR (.ask c l r) = kd then 1 else 0) + (cn kd l + cn kd r)
 | .stop => if dR .stop = kd then 1 else 0
 | .frame b l => (if dR (.frame b l) = kd then 1 else 0) + cn kd l
 | .leave n => if dR (.leave n) = kd then 1 else 0
 | .set n => if dR (.set n) = kd then 1 else 0
 | .pick bs => (if dR (.pick bs) = kd then 1 else 0) + sO kd bs
def cn (kd : UInt8) : List It → Nat
 | [] => 0
 | i :: l => eN kd i + cn kd l
def sO (kd : UInt8) : List (List It) → Nat
 | [] => 0
 | b :: bs => cn kd b + sO kd bs
end
mutual
def iZ : It → List UInt8
 | .blk c => [c]
 | .ask c l r => c :: (da l ++ da r)
 | .frame _ l => da l
 | .pick bs => Bb bs
 | .stop => []
 | .leave _ => []
 | .set _ => []
def da : List It → List UInt8
 | [] => []
 | i :: l => iZ i ++ da l
def Bb : List (List It) → List UInt8
 | [] => []
 | b :: bs => da b ++ Bb bs
end
mutual
def lj : It → Nat
 | .blk _ => 0
 | .ask _ l r => max (oQ l) (oQ r)
 | .stop => 0
 | .frame _ l => oQ l + 1
 | .leave _ => 0
 | .set _ => 0
 | .pick bs => vD bs
def oQ : List It → Nat
 | [] => 0
 | i :: l => max (lj i) (oQ l)
def vD : List (List It) → Nat
 | [] => 0
 | b :: bs => max (oQ b) (vD bs)
end
mutual
def qR : It → Nat
 | .blk _ => 0
 | .ask _ l r => max (qS l) (qS r)
 | .stop => 0
 | .frame _ l => qS l
 | .leave n => n + 1
 | .set _ => 0
 | .pick bs => Bc bs
def qS : List It → Nat
 | [] => 0
 | i :: l => max (qR i) (qS l)
def Bc : List (List It) → Nat
 | [] => 0
 | b :: bs => max (qS b) (Bc bs)
end
theorem pD (kd : UInt8) (k : Nat) (i : It) (t : List (Nat × It)) : ((k, i) :: t).countP (fun p => decide (dR p.2 = kd)) = (if dR i = kd then 1 else 0) + t.countP (fun p => decide (dR p.2 = kd)) := by
 rw [List.countP_cons]
 by_cases h : dR i = kd
 ·rw [if_pos h, if_pos (by simpa using h)]; omega
 ·rw [if_neg h, if_neg (by simpa using h)]; omega
mutual
theorem Fc (kd : UInt8) : ∀ (i : It) (k : Nat), (d9 i k).countP (fun p => decide (dR p.2 = kd)) = eN kd i
 | .blk c, k => by rw [d9, eN, pD]; rfl
 | .ask c l r, k => by rw [d9, eN, pD, List.countP_append, jM kd l, jM kd r]
 | .stop, k => by rw [d9, eN, pD]; rfl
 | .frame b l, k => by rw [d9, eN, pD, jM kd l]
 | .leave n, k => by rw [d9, eN, pD]; rfl
 | .set n, k => by rw [d9, eN, pD]; rfl
 | .pick bs, k => by rw [d9, eN, pD, Be kd bs]
theorem jM (kd : UInt8) : ∀ (l : List It) (k : Nat), (bO l k).countP (fun p => decide (dR p.2 = kd)) = cn kd l
 | [], k => by rw [bO, cn]; rfl
 | i :: l, k => by rw [bO, cn, List.countP_append, Fc kd i, jM kd l]
theorem Be (kd : UInt8) : ∀ (bs : List (List It)) (k : Nat), (dj bs k).countP (fun p => decide (dR p.2 = kd)) = sO kd bs
 | [], k => by rw [dj, sO]; rfl
 | b :: bs, k => by rw [dj, sO, List.countP_append, jM kd b, Be kd bs]
end
mutual
theorem Fd : ∀ (i : It) (k : Nat), (d9 i k).flatMap (fun p => li p.2) = iZ i
 | .blk c, k => by rw [d9, iZ]; rfl
 | .ask c l r, k => by rw [d9, iZ, List.flatMap_cons, List.flatMap_append, jN l, jN r]; rfl
 | .stop, k => by rw [d9, iZ]; rfl
 | .frame b l, k => by rw [d9, iZ, List.flatMap_cons, jN l]; rfl
 | .leave n, k => by rw [d9, iZ]; rfl
 | .set n, k => by rw [d9, iZ]; rfl
 | .pick bs, k => by rw [d9, iZ, List.flatMap_cons, Bf bs]; rfl
theorem jN : ∀ (l : List It) (k : Nat), (bO l k).flatMap (fun p => li p.2) = da l
 | [], k => by rw [bO, da]; rfl
 | i :: l, k => by rw [bO, da, List.flatMap_append, Fd i, jN l]
theorem Bf : ∀ (bs : List (List It)) (k : Nat), (dj bs k).flatMap (fun p => li p.2) = Bb bs
 | [], k => by rw [dj, Bb]; rfl
 | b :: bs, k => by rw [dj, Bb, List.flatMap_append, jN b, Bf bs]
end
theorem qT : ∀ (a b : List It), aF (a ++ b) = aF a ++ aF b
 | [], b => by rw [aF]; rfl
 | i :: a, b => by rw [List.cons_append, aF, aF, qT a b, List.append_assoc]
theorem qU : ∀ (a b : List It) (f : Nat), az (a ++ b) f ↔ az a f ∧ az b f
 | [], b, f => by rw [az]; simp
 | i :: a, b, f => by rw [List.cons_append, az, az, qU a b f, and_assoc]
mutual
theorem Fe : ∀ (i : It) (f : Nat), aB i f → f ≤ 9 → f + lj i ≤ 9
 | .blk c, f, _, hf => by rw [lj]; omega
 | .ask c l r, f, h, hf => by rw [aB] at h; have := ll l f h.2.1 hf; have := ll r f h.2.2 hf; rw [lj]; omega
 | .stop, f, _, hf => by rw [lj]; omega
 | .frame b l, f, h, hf => by rw [aB] at h; have := ll l (f + 1) h.2 (by omega); rw [lj]; omega
 | .leave n, f, _, hf => by rw [lj]; omega
 | .set n, f, _, hf => by rw [lj]; omega
 | .pick bs, f, h, hf => by rw [aB] at h; have := Bg bs f h.2.2 hf; rw [lj]; omega
theorem ll : ∀ (l : List It) (f : Nat), az l f → f ≤ 9 → f + oQ l ≤ 9
 | [], f, _, hf => by rw [oQ]; omega
 | i :: l, f, h, hf => by rw [az] at h; have := Fe i f h.1 hf; have := ll l f h.2 hf; rw [oQ]; omega
theorem Bg : ∀ (bs : List (List It)) (f : Nat), di bs f → f ≤ 9 → f + vD bs ≤ 9
 | [], f, _, hf => by rw [vD]; omega
 | b :: bs, f, h, hf => by rw [di] at h; have := ll b f h.1 hf; have := Bg bs f h.2 hf; rw [vD]; omega
end
mutual
theorem Ff : ∀ (i : It) (f : Nat), aB i f → qR i ≤ f + lj i
 | .blk c, f, _ => by rw [qR]; omega
 | .ask c l r, f, h => by rw [aB] at h; have := lm l f h.2.1; have := lm r f h.2.2; rw [qR, lj]; omega
 | .stop, f, _ => by rw [qR]; omega
 | .frame b l, f, h => by rw [aB] at h; have := lm l (f + 1) h.2; rw [qR, lj]; omega
 | .leave n, f, h => by rw [aB] at h; rw [qR]; omega
 | .set n, f, _ => by rw [qR]; omega
 | .pick bs, f, h => by rw [aB] at h; have := Bh bs f h.2.2; rw [qR, lj]; omega
theorem lm : ∀ (l : List It) (f : Nat), az l f → qS l ≤ f + oQ l
 | [], f, _ => by rw [qS]; omega
 | i :: l, f, h => by rw [az] at h; have := Ff i f h.1; have := lm l f h.2; rw [qS, oQ]; omega
theorem Bh : ∀ (bs : List (List It)) (f : Nat), di bs f → Bc bs ≤ f + vD bs
 | [], f, _ => by rw [Bc]; omega
 | b :: bs, f, h => by rw [di] at h; have := lm b f h.1; have := Bh bs f h.2; rw [Bc, vD]; omega
end
end Go.Proofs.YtlkfakdghjaoaaaGreatDoor
namespace Go.Proofs.YtlkfakdghjaoaaaGreatDoor
def bc (x : UInt8) (s : List UInt8) : Nat := s.countP fun c => decide (c = x)
theorem iK (x : UInt8) : bc x [] = 0 := rfl
theorem iL (x : UInt8) (s t : List UInt8) : bc x (s ++ t) = bc x s + bc x t := List.countP_append
theorem cJ (x c : UInt8) (s : List UInt8) : bc x (c :: s) = (if c = x then 1 else 0) + bc x s := by
 unfold bc
 rw [List.countP_cons]
 by_cases h : c = x
 ·rw [if_pos h, if_pos (by simpa using h)]; omega
 ·rw [if_neg h, if_neg (by simpa using h)]; omega
def Sgn (x : UInt8) : Prop := aW x = false ∧ ∀ n, n < 10 → dz n ≠ x
theorem Sgn.let_ne {x c : UInt8} (h : Sgn x) (hc : aW c = true) : c ≠ x := fun e => by rw [e, h.1] at hc; cases hc
theorem k0 {i : It} {x : UInt8} (h : (dR i == x) = false) : (if dR i = x then 1 else 0) = (0 : Nat) := if_neg (by simpa using h)
theorem k1 {i : It} {x : UInt8} (h : (dR i == x) = true) : (if dR i = x then 1 else 0) = (1 : Nat) := if_pos (by simpa using h)
mutual
theorem Fg {x : UInt8} (hx : Sgn x) (h1 : x ≠ 91) (h2 : x ≠ 93) (h3 : x ≠ 41) (h4 : x ≠ 125) (h5 : x ≠ 88) : ∀ (i : It) (f : Nat), aB i f → bc x (aJ i) = eN x i
 | .blk c, f, h => by rw [aB] at h; rw [aJ, eN, cJ, iK, if_neg (hx.let_ne h), if_neg (show ¬ dR (.blk c) = x from fun e => h5 e.symm)]
 | .ask c l r, f, h => by
  rw [aB] at h
  rw [aJ, eN, cJ, cJ, cJ, iL, cJ, cJ, iL, cJ, iK, lp hx h1 h2 h3 h4 h5 l f h.2.1, lp hx h1 h2 h3 h4 h5 r f h.2.2, if_neg (hx.let_ne h.1), if_neg (Ne.symm h1), if_neg (Ne.symm h2)]
  show (if (63 : UInt8) = x then 1 else 0) + _ = (if (63 : UInt8) = x then 1 else 0) + _
  omega
 | .stop, f, h => by rw [aJ, eN, cJ, iK]; rfl
 | .frame b l, f, h => by
  rw [aB] at h
  have hc : fC b ≠ x := by cases b; exact Ne.symm h3; exact Ne.symm h4
  rw [aJ, eN, cJ, iL, cJ, iK, lp hx h1 h2 h3 h4 h5 l (f + 1) h.2, if_neg hc]
  rfl
 | .leave n, f, h => by rw [aB] at h; rw [aJ, eN, cJ, cJ, iK, if_neg (hx.2 n h.2)]; rfl
 | .set n, f, h => by rw [aB] at h; rw [aJ, eN, cJ, cJ, iK, if_neg (hx.2 n h)]; rfl
 | .pick bs, f, h => by rw [aB] at h; rw [aJ, eN, cJ, Bi hx h1 h2 h3 h4 h5 bs f h.2.2]; rfl
theorem lp {x : UInt8} (hx : Sgn x) (h1 : x ≠ 91) (h2 : x ≠ 93) (h3 : x ≠ 41) (h4 : x ≠ 125) (h5 : x ≠ 88) : ∀ (l : List It) (f : Nat), az l f → bc x (aF l) = cn x l
 | [], f, _ => by rw [aF, cn, iK]
 | i :: l, f, h => by rw [az] at h; rw [aF, cn, iL, Fg hx h1 h2 h3 h4 h5 i f h.1, lp hx h1 h2 h3 h4 h5 l f h.2]
theorem Bi {x : UInt8} (hx : Sgn x) (h1 : x ≠ 91) (h2 : x ≠ 93) (h3 : x ≠ 41) (h4 : x ≠ 125) (h5 : x ≠ 88) : ∀ (bs : List (List It)) (f : Nat), di bs f → bc x (bN bs) = sO x bs
 | [], f, _ => by rw [bN, sO, iK]
 | b :: bs, f, h => by rw [di] at h; rw [bN, sO, cJ, iL, cJ, lp hx h1 h2 h3 h4 h5 b f h.1, Bi hx h1 h2 h3 h4 h5 bs f h.2, if_neg (Ne.symm h1), if_neg (Ne.symm h2)]; omega
end
end Go.Proofs.YtlkfakdghjaoaaaGreatDoor
namespace Go.Proofs.YtlkfakdghjaoaaaGreatDoor
def RdL (f : Nat) (s : List UInt8) (l : List It) (r : List UInt8) : Prop := az l f ∧ Ends r ∧ s = aF l ++ r
def RdI (f : Nat) (s : List UInt8) (i : It) (r : List UInt8) : Prop := aB i f ∧ (eC r ∨ mq i) ∧ s = aJ i ++ r
def RdB (f : Nat) (s : List UInt8) (l : List It) (r : List UInt8) : Prop := az l f ∧ s = 91 :: (aF l ++ 93 :: r)
def Bj (f : Nat) (s : List UInt8) : Prop := ∀ l r, ¬ RdL f s l r
def dr (f : Nat) (s : List UInt8) : Prop := ∀ i r, aB i f → eC r → s ≠ aJ i ++ r
def sP (f : Nat) (s : List UInt8) : Prop := ∀ l r, ¬ RdB f s l r
theorem RdI.not_ends {f : Nat} {s : List UInt8} {i : It} {r : List UInt8} (h : RdI f s i r) : ¬ Ends s := by rw [h.2.2]; exact iU h.1
theorem RdI.shorter {f : Nat} {s : List UInt8} {i : It} {r : List UInt8} (h : RdI f s i r) : r.length < s.length := by
 obtain ⟨u, hu⟩ := iJ i
 rw [h.2.2, hu, List.length_append, List.length_cons]; omega
theorem RdB.shorter {f : Nat} {s : List UInt8} {l : List It} {r : List UInt8} (h : RdB f s l r) : r.length < s.length := by
 rw [h.2]; simp; omega
theorem RdL.le {f : Nat} {s : List UInt8} {l : List It} {r : List UInt8} (h : RdL f s l r) : r.length ≤ s.length := by
 rw [h.2.2]; simp
theorem mr {f f' : Nat} {s : List UInt8} {l l' : List It} {r r' : List UInt8} (h : RdL f s l r) (h' : RdL f' s l' r') : l = l' ∧ r = r' :=
 j9 l l' f f' r r' h.1 h'.1 h.2.1 h'.2.1 (h.2.2.symm.trans h'.2.2)
theorem vE {f f' : Nat} {s : List UInt8} {l l' : List It} {r r' : List UInt8} (h : RdB f s l r) (h' : RdB f' s l' r') : l = l' ∧ r = r' := by
 have e := (h.2.symm.trans h'.2)
 simp only [List.cons.injEq, true_and] at e
 obtain ⟨e1, e2⟩ := j9 l l' f f' _ _ h.1 h'.1 (fh _) (fh _) e
 simp only [List.cons.injEq, true_and] at e2
 exact ⟨e1, e2⟩
theorem CR {f f' : Nat} {s : List UInt8} {i i' : It} {r r' : List UInt8} (h : RdI f s i r) (h' : aB i' f') (hr : eC r') (e : s = aJ i' ++ r') : i = i' ∧ r = r' :=
 Df i i' f f' r r' h.1 h' h.2.1 hr (h.2.2.symm.trans e)
def sQ (f : Nat) (s : List UInt8) (l : List It) (t : List UInt8) : Prop :=
 az l f ∧ s = aF l ++ t ∧ ∀ l' r, RdL f s l' r → ∃ k, az k f ∧ l' = l ++ k ∧ t = aF k ++ r
theorem sR (f : Nat) (s : List UInt8) : sQ f s [] s := ⟨by rw [az]; trivial, by rw [aF]; rfl, fun l' _ h => ⟨l', h.1, rfl, h.2.2⟩⟩
theorem xO {f : Nat} {s t : List UInt8} {l : List It} (h : sQ f s l t) (he : Ends t) : RdL f s l t := ⟨h.1, he, h.2.1⟩
theorem vF {f : Nat} {s t r : List UInt8} {l : List It} {i : It} (h : sQ f s l t) (hi : RdI f t i r) : sQ f s (l ++ [i]) r := by
 refine ⟨(qU _ _ _).2 ⟨h.1, by rw [az, az]; exact ⟨hi.1, trivial⟩⟩, ?_, fun l' q hq => ?_⟩
 ·rw [qT, aF, aF, List.append_nil, List.append_assoc, ← hi.2.2]; exact h.2.1
 ·obtain ⟨k, hk, e1, e2⟩ := h.2.2 l' q hq
  cases k with
  | nil =>
   rw [aF, List.nil_append] at e2
   exact absurd (e2 ▸ hq.2.1) hi.not_ends
  | cons j k =>
   rw [az] at hk
   rw [aF, List.append_assoc] at e2
   obtain ⟨rfl, e3⟩ := CR hi hk.1 (jL hk.2 hq.2.1.noBr) e2
   exact ⟨k, hk.2, by rw [e1]; simp, e3⟩
theorem Fh {f : Nat} {s t : List UInt8} {l : List It} (h : sQ f s l t) (he : ¬ Ends t) (hi : dr f t) : Bj f s := by
 intro l' q hq
 obtain ⟨k, hk, _, e2⟩ := h.2.2 l' q hq
 cases k with
 | nil => rw [aF, List.nil_append] at e2; exact he (e2 ▸ hq.2.1)
 | cons j k =>
  rw [az] at hk
  rw [aF, List.append_assoc] at e2
  exact hi j _ hk.1 (jL hk.2 hq.2.1.noBr) e2
theorem Fi {f : Nat} {t r : List UInt8} {l : List It} (h : RdL f t l (93 :: r)) : RdB f (91 :: t) l r := ⟨h.1, by rw [h.2.2]⟩
theorem Fj {f : Nat} {s : List UInt8} (h : ∀ t, s ≠ 91 :: t) : sP f s := fun _ _ k => h _ k.2
theorem Bk {f : Nat} {t : List UInt8} (h : Bj f t) : sP f (91 :: t) := fun l r k => h l (93 :: r) ⟨k.1, fh _, (List.cons.inj k.2).2⟩
theorem Eo {f : Nat} {t r : List UInt8} {l : List It} (h : RdL f t l r) (hr : ∀ u, r ≠ 93 :: u) : sP f (91 :: t) := fun l' r' k => by
 have := mr h (⟨k.1, fh r', (List.cons.inj k.2).2⟩ : RdL f t l' (93 :: r'))
 exact hr _ this.2
theorem Ep (f : Nat) : dr f [] := fun i r _ _ e => by
 obtain ⟨u, hu⟩ := iJ i
 rw [hu] at e; cases e
theorem Bm {f : Nat} {c : UInt8} {t : List UInt8} (h : aW c = true) (hb : eC t ∨ mq (.blk c)) : RdI f (c :: t) (.blk c) t := ⟨by rw [aB]; exact h, hb, by rw [aJ]; rfl⟩
theorem og {c : UInt8} {t r : List UInt8} {i : It} (e : c :: t = aJ i ++ r) : lh i = c := by
 obtain ⟨u, hu⟩ := iJ i
 rw [hu] at e
 exact (List.cons.inj e).1.symm
theorem Fk {f : Nat} {i : It} (h : aB i f) (e : lh i = 63) : ∃ c l r, i = .ask c l r := by
 cases i with
 | ask c l r => exact ⟨c, l, r, rfl⟩
 | blk c => rw [aB] at h; change c = 63 at e; rw [e] at h; exact (gM h rfl).elim
 | frame b l => cases b <;> exact (dg e rfl).elim
 | _ => exact (dg e rfl).elim
theorem CT {f : Nat} {i : It} (b : Bool) (h : aB i f) (e : lh i = et b) : ∃ l, i = .frame b l := by
 cases i with
 | frame b' l =>
  have : b' = b := by cases b <;> cases b' <;> first | rfl | exact (dg e rfl).elim
  exact ⟨l, by rw [this]⟩
 | blk c => rw [aB] at h; change c = et b at e; rw [e] at h; cases b <;> exact (gM h rfl).elim
 | _ => cases b <;> exact (dg e rfl).elim
theorem CU {f : Nat} {i : It} (h : aB i f) (e : lh i = 94) : ∃ n, i = .leave n := by
 cases i with
 | leave n => exact ⟨n, rfl⟩
 | blk c => rw [aB] at h; change c = 94 at e; rw [e] at h; exact (gM h rfl).elim
 | frame b l => cases b <;> exact (dg e rfl).elim
 | _ => exact (dg e rfl).elim
theorem Fl {f : Nat} {i : It} (h : aB i f) (e : lh i = 61) : ∃ n, i = .set n := by
 cases i with
 | set n => exact ⟨n, rfl⟩
 | blk c => rw [aB] at h; change c = 61 at e; rw [e] at h; exact (gM h rfl).elim
 | frame b l => cases b <;> exact (dg e rfl).elim
 | _ => exact (dg e rfl).elim
theorem Eq {f : Nat} {i : It} (h : aB i f) (e : lh i = 35) : ∃ bs, i = .pick bs := by
 cases i with
 | pick bs => exact ⟨bs, rfl⟩
 | blk c => rw [aB] at h; change c = 35 at e; rw [e] at h; exact (gM h rfl).elim
 | frame b l => cases b <;> exact (dg e rfl).elim
 | _ => exact (dg e rfl).elim
theorem Bn {f : Nat} {c : UInt8} {t : List UInt8} (hl : aW c = false) (h : c ≠ 63 ∧ c ≠ 46 ∧ c ≠ 40 ∧ c ≠ 123 ∧ c ≠ 94 ∧ c ≠ 61 ∧ c ≠ 35) : dr f (c :: t) := fun i r hi _ e => by
 have hh := og e
 cases i with
 | blk x => rw [aB] at hi; change x = c at hh; rw [hh, hl] at hi; cases hi
 | ask => exact h.1 hh.symm
 | stop => exact h.2.1 hh.symm
 | frame b l => cases b; exact h.2.2.1 hh.symm; exact h.2.2.2.1 hh.symm
 | leave => exact h.2.2.2.2.1 hh.symm
 | set => exact h.2.2.2.2.2.1 hh.symm
 | pick => exact h.2.2.2.2.2.2 hh.symm
-- a choice
theorem Bo {f : Nat} {c : UInt8} {t u v : List UInt8} {l r : List It} (hc : aW c = true) (h1 : RdB f t l u) (h2 : RdB f u r v) (hv : eC v ∨ mq (.ask c l r)) : RdI f (63 :: c :: t) (.ask c l r) v :=
 ⟨by rw [aB]; exact ⟨hc, h1.1, h2.1⟩, hv, by rw [h1.2, h2.2, aJ]; simp⟩
theorem ke {f : Nat} {t r : List UInt8} {i : It} (hi : aB i f) (e : 63 :: t = aJ i ++ r) : ∃ c l k u v, i = .ask c l k ∧ t = c :: u ∧ aW c = true ∧ RdB f u l v ∧ RdB f v k r := by
 obtain ⟨c, l, k, rfl⟩ := Fk hi (og e)
 rw [aB] at hi
 rw [aJ] at e
 simp only [List.cons_append, List.append_assoc, List.cons.injEq, true_and, List.nil_append] at e
 exact ⟨c, l, k, 91 :: (aF l ++ 93 :: 91 :: (aF k ++ 93 :: r)), 91 :: (aF k ++ 93 :: r), rfl, e, hi.1, ⟨hi.2.1, rfl⟩, ⟨hi.2.2, rfl⟩⟩
theorem oR (f : Nat) : dr f [63] := fun i r hi _ e => by
 obtain ⟨c, l, k, u, v, _, e2, _⟩ := ke hi e
 cases e2
theorem nQ {f : Nat} {c : UInt8} {t : List UInt8} (h : aW c = false) : dr f (63 :: c :: t) := fun i r hi _ e => by
 obtain ⟨c', l, k, u, v, _, e2, hc, _⟩ := ke hi e
 rw [← (List.cons.inj e2).1, h] at hc; cases hc
theorem vG {f : Nat} {c : UInt8} {t : List UInt8} (h : sP f t) : dr f (63 :: c :: t) := fun i r hi _ e => by
 obtain ⟨c', l, k, u, v, _, e2, hc, h1, _⟩ := ke hi e
 rw [← (List.cons.inj e2).2] at h1
 exact h l v h1
theorem vH {f : Nat} {c : UInt8} {t u : List UInt8} {l : List It} (h1 : RdB f t l u) (h : sP f u) : dr f (63 :: c :: t) := fun i r hi _ e => by
 obtain ⟨c', l', k, u', v, _, e2, hc, h1', h2⟩ := ke hi e
 rw [← (List.cons.inj e2).2] at h1'
 rw [← (vE h1 h1').2] at h2
 exact h k r h2
-- a frame
theorem vI {f : Nat} (b : Bool) {t v : List UInt8} {l : List It} (hf : f < 9) (h : RdL (f + 1) t l (fC b :: v)) (hv : eC v ∨ mq (.frame b l)) : RdI f (et b :: t) (.frame b l) v :=
 ⟨by rw [aB]; exact ⟨hf, h.1⟩, hv, by rw [h.2.2, aJ]; simp⟩
theorem iu {f : Nat} (b : Bool) {t r : List UInt8} {i : It} (hi : aB i f) (e : et b :: t = aJ i ++ r) : ∃ l, i = .frame b l ∧ f < 9 ∧ RdL (f + 1) t l (fC b :: r) := by
 obtain ⟨l, rfl⟩ := CT b hi (og e)
 rw [aB] at hi
 rw [aJ] at e
 simp only [List.cons_append, List.append_assoc, List.cons.injEq, true_and, List.nil_append] at e
 exact ⟨l, rfl, hi.1, hi.2, pC _ _, e⟩
theorem lq {f : Nat} (b : Bool) {t : List UInt8} (h : 9 ≤ f) : dr f (et b :: t) := fun i r hi _ e => by
 obtain ⟨l, _, hf, _⟩ := iu b hi e; omega
theorem Bp {f : Nat} (b : Bool) {t : List UInt8} (h : Bj (f + 1) t) : dr f (et b :: t) := fun i r hi _ e => by
 obtain ⟨l, _, _, hl⟩ := iu b hi e; exact h _ _ hl
theorem tD {f : Nat} (b : Bool) {t u : List UInt8} {l : List It} (h : RdL (f + 1) t l u) (hu : ∀ v, u ≠ fC b :: v) : dr f (et b :: t) := fun i r hi _ e => by
 obtain ⟨l', _, _, hl⟩ := iu b hi e
 exact hu _ (mr h hl).2
-- a step, a number
theorem vJ {f n : Nat} {t : List UInt8} (h : n < f) (h10 : n < 10) (hv : eC t ∨ mq (.leave n)) : RdI f (94 :: dz n :: t) (.leave n) t := ⟨by rw [aB]; exact ⟨h, h10⟩, hv, by rw [aJ]; rfl⟩
theorem Br {f n : Nat} {t : List UInt8} (h10 : n < 10) (hv : eC t ∨ mq (.set n)) : RdI f (61 :: dz n :: t) (.set n) t := ⟨by rw [aB]; exact h10, hv, by rw [aJ]; rfl⟩
theorem nR {f : Nat} {t : List UInt8} (h : ∀ n u, n < f → n < 10 → t ≠ dz n :: u) : dr f (94 :: t) := fun i r hi _ e => by
 obtain ⟨n, rfl⟩ := CU hi (og e)
 rw [aB] at hi
 rw [aJ] at e
 simp only [List.cons_append, List.cons.injEq, true_and, List.nil_append] at e
 exact h n r hi.1 hi.2 e
theorem xP {f : Nat} {t : List UInt8} (h : ∀ n u, n < 10 → t ≠ dz n :: u) : dr f (61 :: t) := fun i r hi _ e => by
 obtain ⟨n, rfl⟩ := Fl hi (og e)
 rw [aB] at hi
 rw [aJ] at e
 simp only [List.cons_append, List.cons.injEq, true_and, List.nil_append] at e
 exact h n r hi e
-- brackets by the number
theorem vK : ∀ (bs : List (List It)) (l : List It), bN (bs ++ [l]) = bN bs ++ (91 :: (aF l ++ [93]))
 | [], l => by rw [List.nil_append, bN, bN, bN]; rfl
 | b :: bs, l => by rw [List.cons_append, bN, bN, vK bs l]; simp
theorem qV : ∀ (a b : List (List It)) (f : Nat), di (a ++ b) f ↔ di a f ∧ di b f
 | [], b, f => by rw [di]; simp
 | i :: a, b, f => by rw [List.cons_append, di, di, qV a b f, and_assoc]
def qW (f : Nat) (s : List UInt8) (bs : List (List It)) (t : List UInt8) : Prop :=
 di bs f ∧ s = bN bs ++ t ∧ ∀ bs' r, di bs' f → eC r → bs.length ≤ bs'.length → s = bN bs' ++ r → ∃ k, di k f ∧ bs' = bs ++ k ∧ t = bN k ++ r
theorem sS (f : Nat) (s : List UInt8) : qW f s [] s := ⟨by rw [di]; trivial, by rw [bN]; rfl, fun bs' _ h _ _ e => ⟨bs', h, rfl, e⟩⟩
theorem pE {f : Nat} {s t r : List UInt8} {bs : List (List It)} {l : List It} (h : qW f s bs t) (hl : RdB f t l r) : qW f s (bs ++ [l]) r := by
 refine ⟨(qV _ _ _).2 ⟨h.1, by rw [di, di]; exact ⟨hl.1, trivial⟩⟩, ?_, fun bs' q hb hq hlen e => ?_⟩
 ·rw [vK, List.append_assoc, List.cons_append, List.append_assoc]
  rw [h.2.1, hl.2]; rfl
 ·rw [List.length_append, List.length_singleton] at hlen
  obtain ⟨k, hk, e1, e2⟩ := h.2.2 bs' q hb hq (by omega) e
  cases k with
  | nil => rw [e1, List.append_nil] at hlen; omega
  | cons j k =>
   rw [di] at hk
   rw [bN] at e2
   obtain ⟨rfl, e3⟩ := vE hl (⟨hk.1, by rw [e2]; simp⟩ : RdB f t j (bN k ++ q))
   exact ⟨k, hk.2, by rw [e1]; simp, e3⟩
theorem xQ {f : Nat} {s t : List UInt8} {bs : List (List It)} (h : qW f s bs t) (h0 : 0 < bs.length) (h10 : bs.length ≤ 10) (ht : eC t ∨ bs.length = 10) : RdI f (35 :: s) (.pick bs) t :=
 ⟨by rw [aB]; exact ⟨h0, h10, h.1⟩, ht, by rw [h.2.1, aJ]; rfl⟩
theorem ms {f : Nat} {t r : List UInt8} {i : It} (hi : aB i f) (e : 35 :: t = aJ i ++ r) : ∃ bs, i = .pick bs ∧ 0 < bs.length ∧ bs.length ≤ 10 ∧ di bs f ∧ t = bN bs ++ r := by
 obtain ⟨bs, rfl⟩ := Eq hi (og e)
 rw [aB] at hi
 rw [aJ] at e
 exact ⟨bs, rfl, hi.1, hi.2.1, hi.2.2, (List.cons.inj e).2⟩
theorem Bs {f : Nat} {s : List UInt8} (h : sP f s) : dr f (35 :: s) := fun i r hi hr e => by
 obtain ⟨bs, _, h0, _, hb, e2⟩ := ms hi e
 cases bs with
 | nil => simp at h0
 | cons l bs =>
  rw [di] at hb
  rw [bN] at e2
  exact h l (bN bs ++ r) ⟨hb.1, by rw [e2]; simp⟩
theorem vL {f : Nat} {s t : List UInt8} {bs : List (List It)} (h : qW f s bs (91 :: t)) (hn : sP f (91 :: t)) : dr f (35 :: s) := fun i r hi hr e => by
 obtain ⟨bs', _, h0, _, hb, e2⟩ := ms hi e
 by_cases hlen : bs.length ≤ bs'.length
 ·obtain ⟨k, hk, _, e3⟩ := h.2.2 bs' r hb hr hlen e2
  cases k with
  | nil => rw [bN, List.nil_append] at e3; exact hr _ e3.symm
  | cons l k =>
   rw [di] at hk
   rw [bN] at e3
   exact hn l (bN k ++ r) ⟨hk.1, by rw [e3]; simp⟩
 ·-- fewer brackets, and then none: but here one begins
  have e4 : bN bs' ++ r = bN bs ++ 91 :: t := e2.symm.trans h.2.1
  obtain ⟨e5, _⟩ := tI bs bs' f f (91 :: t) r h.1 hb (.inr (by omega)) hr e4.symm
  rw [e5] at hlen; exact hlen (Nat.le_refl _)
def aP (s : List UInt8) (l : List It) : Prop := s.length ≤ 200 ∧ az l 0 ∧ s = aF l
theorem vM : Ends [] := .inl rfl
theorem iM {s : List UInt8} {l : List It} : aP s l ↔ s.length ≤ 200 ∧ RdL 0 s l [] := by
 unfold aP RdL
 rw [List.append_nil]
 exact ⟨fun h => ⟨h.1, h.2.1, vM, h.2.2⟩, fun h => ⟨h.1, h.2.1, h.2.2.2⟩⟩
theorem fi {s : List UInt8} {l l' : List It} (h : aP s l) (h' : aP s l') : l = l' := (mr (iM.1 h).2 (iM.1 h').2).1
theorem wY {s r : List UInt8} {l l' : List It} (h : RdL 0 s l r) (hr : r ≠ []) : ¬ aP s l' := fun h' => hr (mr h (iM.1 h').2).2
theorem Fm {s : List UInt8} {l : List It} (h : Bj 0 s) : ¬ aP s l := fun h' => h _ _ (iM.1 h').2
end Go.Proofs.YtlkfakdghjaoaaaGreatDoor
