/-
  What a text with frames has: its items in order, its blocks, how many of a kind, how many frames within each other: plain facts.
-/
import Derived.Test.YtelhogeaobofpaaTextMath
namespace Go.Proofs.Ytelhogeaobofpaa

mutual
/-- An item and all within it, each ahead of those within it, and how many frames lie around it. -/
def evI : It → Nat → List (Nat × It)
  | .blk c, k => [(k, .blk c)]
  | .ask c l r, k => (k, .ask c l r) :: (evL l k ++ evL r k)
  | .stop, k => [(k, .stop)]
  | .frame b l, k => (k, .frame b l) :: evL l (k + 1)
  | .leave n, k => [(k, .leave n)]
  | .set n, k => [(k, .set n)]
  | .pick bs, k => (k, .pick bs) :: evB bs k
def evL : List It → Nat → List (Nat × It)
  | [], _ => []
  | i :: l, k => evI i k ++ evL l k
def evB : List (List It) → Nat → List (Nat × It)
  | [], _ => []
  | b :: bs, k => evL b k ++ evB bs k
end

/-- The byte of an item's kind. -/
def kdI : It → UInt8
  | .blk _ => 88
  | .ask .. => 63
  | .stop => 46
  | .frame b _ => opn b
  | .leave _ => 94
  | .set _ => 61
  | .pick _ => 35
/-- The block that an item is or begins with. -/
def nmI : It → List UInt8
  | .blk c => [c]
  | .ask c _ _ => [c]
  | _ => []
/-- How many frames an item itself leaves. -/
def lvI : It → Nat
  | .leave n => n + 1
  | _ => 0
/-- Is it a frame? -/
def frI : It → Bool
  | .frame _ _ => true
  | _ => false

mutual
def cnI (kd : UInt8) : It → Nat
  | .blk c => if kdI (.blk c) = kd then 1 else 0
  | .ask c l r => (if kdI (.ask c l r) = kd then 1 else 0) + (cnL kd l + cnL kd r)
  | .stop => if kdI .stop = kd then 1 else 0
  | .frame b l => (if kdI (.frame b l) = kd then 1 else 0) + cnL kd l
  | .leave n => if kdI (.leave n) = kd then 1 else 0
  | .set n => if kdI (.set n) = kd then 1 else 0
  | .pick bs => (if kdI (.pick bs) = kd then 1 else 0) + cnB kd bs
def cnL (kd : UInt8) : List It → Nat
  | [] => 0
  | i :: l => cnI kd i + cnL kd l
def cnB (kd : UInt8) : List (List It) → Nat
  | [] => 0
  | b :: bs => cnL kd b + cnB kd bs
end

mutual
def blI : It → List UInt8
  | .blk c => [c]
  | .ask c l r => c :: (blL l ++ blL r)
  | .frame _ l => blL l
  | .pick bs => blB bs
  | .stop => []
  | .leave _ => []
  | .set _ => []
def blL : List It → List UInt8
  | [] => []
  | i :: l => blI i ++ blL l
def blB : List (List It) → List UInt8
  | [] => []
  | b :: bs => blL b ++ blB bs
end

mutual
/-- How many frames lie within each other. -/
def dpI : It → Nat
  | .blk _ => 0
  | .ask _ l r => max (dpL l) (dpL r)
  | .stop => 0
  | .frame _ l => dpL l + 1
  | .leave _ => 0
  | .set _ => 0
  | .pick bs => dpB bs
def dpL : List It → Nat
  | [] => 0
  | i :: l => max (dpI i) (dpL l)
def dpB : List (List It) → Nat
  | [] => 0
  | b :: bs => max (dpL b) (dpB bs)
end

mutual
/-- How many frames a step leaves at most. -/
def faI : It → Nat
  | .blk _ => 0
  | .ask _ l r => max (faL l) (faL r)
  | .stop => 0
  | .frame _ l => faL l
  | .leave n => n + 1
  | .set _ => 0
  | .pick bs => faB bs
def faL : List It → Nat
  | [] => 0
  | i :: l => max (faI i) (faL l)
def faB : List (List It) → Nat
  | [] => 0
  | b :: bs => max (faL b) (faB bs)
end

mutual
/-- How many brackets there are. -/
def brI : It → Nat
  | .blk _ => 0
  | .ask _ l r => 2 + (brL l + brL r)
  | .stop => 0
  | .frame _ l => brL l
  | .leave _ => 0
  | .set _ => 0
  | .pick bs => brB bs
def brL : List It → Nat
  | [] => 0
  | i :: l => brI i + brL l
def brB : List (List It) → Nat
  | [] => 0
  | b :: bs => 1 + brL b + brB bs
end

/-- How many of a kind, by the items in order. -/
theorem cnt1 (kd : UInt8) (k : Nat) (i : It) (t : List (Nat × It)) : ((k, i) :: t).countP (fun p => decide (kdI p.2 = kd)) = (if kdI i = kd then 1 else 0) + t.countP (fun p => decide (kdI p.2 = kd)) := by
  rw [List.countP_cons]
  by_cases h : kdI i = kd
  · rw [if_pos h, if_pos (by simpa using h)]; omega
  · rw [if_neg h, if_neg (by simpa using h)]; omega

mutual
theorem cn_evI (kd : UInt8) : ∀ (i : It) (k : Nat), (evI i k).countP (fun p => decide (kdI p.2 = kd)) = cnI kd i
  | .blk c, k => by rw [evI, cnI, cnt1]; rfl
  | .ask c l r, k => by rw [evI, cnI, cnt1, List.countP_append, cn_evL kd l, cn_evL kd r]
  | .stop, k => by rw [evI, cnI, cnt1]; rfl
  | .frame b l, k => by rw [evI, cnI, cnt1, cn_evL kd l]
  | .leave n, k => by rw [evI, cnI, cnt1]; rfl
  | .set n, k => by rw [evI, cnI, cnt1]; rfl
  | .pick bs, k => by rw [evI, cnI, cnt1, cn_evB kd bs]
theorem cn_evL (kd : UInt8) : ∀ (l : List It) (k : Nat), (evL l k).countP (fun p => decide (kdI p.2 = kd)) = cnL kd l
  | [], k => by rw [evL, cnL]; rfl
  | i :: l, k => by rw [evL, cnL, List.countP_append, cn_evI kd i, cn_evL kd l]
theorem cn_evB (kd : UInt8) : ∀ (bs : List (List It)) (k : Nat), (evB bs k).countP (fun p => decide (kdI p.2 = kd)) = cnB kd bs
  | [], k => by rw [evB, cnB]; rfl
  | b :: bs, k => by rw [evB, cnB, List.countP_append, cn_evL kd b, cn_evB kd bs]
end

mutual
theorem bl_evI : ∀ (i : It) (k : Nat), (evI i k).flatMap (fun p => nmI p.2) = blI i
  | .blk c, k => by rw [evI, blI]; rfl
  | .ask c l r, k => by rw [evI, blI, List.flatMap_cons, List.flatMap_append, bl_evL l, bl_evL r]; rfl
  | .stop, k => by rw [evI, blI]; rfl
  | .frame b l, k => by rw [evI, blI, List.flatMap_cons, bl_evL l]; rfl
  | .leave n, k => by rw [evI, blI]; rfl
  | .set n, k => by rw [evI, blI]; rfl
  | .pick bs, k => by rw [evI, blI, List.flatMap_cons, bl_evB bs]; rfl
theorem bl_evL : ∀ (l : List It) (k : Nat), (evL l k).flatMap (fun p => nmI p.2) = blL l
  | [], k => by rw [evL, blL]; rfl
  | i :: l, k => by rw [evL, blL, List.flatMap_append, bl_evI i, bl_evL l]
theorem bl_evB : ∀ (bs : List (List It)) (k : Nat), (evB bs k).flatMap (fun p => nmI p.2) = blB bs
  | [], k => by rw [evB, blB]; rfl
  | b :: bs, k => by rw [evB, blB, List.flatMap_append, bl_evL b, bl_evB bs]
end

/-- The most of a row, from a number on. -/
def mostF {α : Type} (p : α → Nat) (m : Nat) (l : List α) : Nat := l.foldl (fun m x => max m (p x)) m
theorem mostF_append {α : Type} (p : α → Nat) (m : Nat) (l k : List α) : mostF p m (l ++ k) = mostF p (mostF p m l) k := by unfold mostF; rw [List.foldl_append]
theorem mostF_cons {α : Type} (p : α → Nat) (m : Nat) (x : α) (l : List α) : mostF p m (x :: l) = mostF p (max m (p x)) l := rfl

mutual
theorem fa_evI : ∀ (i : It) (k m : Nat), mostF (fun p => lvI p.2) m (evI i k) = max m (faI i)
  | .blk c, k, m => by rw [evI, faI]; simp [mostF, lvI]
  | .ask c l r, k, m => by rw [evI, faI, mostF_cons, mostF_append, fa_evL l, fa_evL r]; simp only [lvI]; omega
  | .stop, k, m => by rw [evI, faI]; simp [mostF, lvI]
  | .frame b l, k, m => by rw [evI, faI, mostF_cons, fa_evL l]; simp only [lvI]; omega
  | .leave n, k, m => by rw [evI, faI]; simp [mostF, lvI]
  | .set n, k, m => by rw [evI, faI]; simp [mostF, lvI]
  | .pick bs, k, m => by rw [evI, faI, mostF_cons, fa_evB bs]; simp only [lvI]; omega
theorem fa_evL : ∀ (l : List It) (k m : Nat), mostF (fun p => lvI p.2) m (evL l k) = max m (faL l)
  | [], k, m => by rw [evL, faL]; simp [mostF]
  | i :: l, k, m => by rw [evL, faL, mostF_append, fa_evI i, fa_evL l]; omega
theorem fa_evB : ∀ (bs : List (List It)) (k m : Nat), mostF (fun p => lvI p.2) m (evB bs k) = max m (faB bs)
  | [], k, m => by rw [evB, faB]; simp [mostF]
  | b :: bs, k, m => by rw [evB, faB, mostF_append, fa_evL b, fa_evB bs]; omega
end

/-- From so many frames on, so many. -/
def upD (k d : Nat) : Nat := if d = 0 then 0 else k + d
theorem upD_max (k a b : Nat) : upD k (max a b) = max (upD k a) (upD k b) := by
  unfold upD
  by_cases ha : a = 0
  · by_cases hb : b = 0
    · subst ha hb; simp
    · rw [if_pos ha, if_neg hb, if_neg (by omega)]; omega
  · by_cases hb : b = 0
    · rw [if_neg ha, if_pos hb, if_neg (by omega)]; omega
    · rw [if_neg ha, if_neg hb, if_neg (by omega)]; omega
theorem upD_next (k d : Nat) : max (k + 1) (upD (k + 1) d) = upD k (d + 1) := by
  unfold upD
  by_cases h : d = 0
  · rw [if_pos h, if_neg (by omega)]; omega
  · rw [if_neg h, if_neg (by omega)]; omega

def frF (p : Nat × It) : Nat := if frI p.2 = true then p.1 + 1 else 0
mutual
theorem dp_evI : ∀ (i : It) (k m : Nat), mostF frF m (evI i k) = max m (upD k (dpI i))
  | .blk c, k, m => by rw [evI, dpI]; simp [mostF, frF, frI, upD]
  | .ask c l r, k, m => by rw [evI, dpI, mostF_cons, mostF_append, dp_evL l, dp_evL r, upD_max]; simp only [frF, frI]; (try simp) <;> (try omega)
  | .stop, k, m => by rw [evI, dpI]; simp [mostF, frF, frI, upD]
  | .frame b l, k, m => by rw [evI, dpI, mostF_cons, dp_evL l, ← upD_next]; simp only [frF, frI]; (try simp) <;> (try omega)
  | .leave n, k, m => by rw [evI, dpI]; simp [mostF, frF, frI, upD]
  | .set n, k, m => by rw [evI, dpI]; simp [mostF, frF, frI, upD]
  | .pick bs, k, m => by rw [evI, dpI, mostF_cons, dp_evB bs]; simp only [frF, frI]; simp
theorem dp_evL : ∀ (l : List It) (k m : Nat), mostF frF m (evL l k) = max m (upD k (dpL l))
  | [], k, m => by rw [evL, dpL]; simp [mostF, upD]
  | i :: l, k, m => by rw [evL, dpL, mostF_append, dp_evI i, dp_evL l, upD_max]; omega
theorem dp_evB : ∀ (bs : List (List It)) (k m : Nat), mostF frF m (evB bs k) = max m (upD k (dpB bs))
  | [], k, m => by rw [evB, dpB]; simp [mostF, upD]
  | b :: bs, k, m => by rw [evB, dpB, mostF_append, dp_evL b, dp_evB bs, upD_max]; omega
end

/-- In all, from no frames on. -/
theorem dp_all (l : List It) : mostF frF 0 (evL l 0) = dpL l := by
  rw [dp_evL]; unfold upD
  by_cases h : dpL l = 0
  · rw [if_pos h, h]; rfl
  · rw [if_neg h]; omega
theorem fa_all (l : List It) : mostF (fun p : Nat × It => lvI p.2) 0 (evL l 0) = faL l := by rw [fa_evL]; omega

/-- Rows one behind the other. -/
theorem txL_append : ∀ (a b : List It), txL (a ++ b) = txL a ++ txL b
  | [], b => by rw [txL]; rfl
  | i :: a, b => by rw [List.cons_append, txL, txL, txL_append a b, List.append_assoc]
theorem okL_append : ∀ (a b : List It) (f : Nat), OkL (a ++ b) f ↔ OkL a f ∧ OkL b f
  | [], b, f => by rw [OkL]; simp
  | i :: a, b, f => by rw [List.cons_append, OkL, OkL, okL_append a b f, and_assoc]
theorem cnL_append (kd : UInt8) : ∀ (a b : List It), cnL kd (a ++ b) = cnL kd a + cnL kd b
  | [], b => by rw [cnL]; simp
  | i :: a, b => by rw [List.cons_append, cnL, cnL, cnL_append kd a b]; omega
theorem blL_append : ∀ (a b : List It), blL (a ++ b) = blL a ++ blL b
  | [], b => by rw [blL]; rfl
  | i :: a, b => by rw [List.cons_append, blL, blL, blL_append a b, List.append_assoc]
theorem dpL_append : ∀ (a b : List It), dpL (a ++ b) = max (dpL a) (dpL b)
  | [], b => by rw [dpL]; simp
  | i :: a, b => by rw [List.cons_append, dpL, dpL, dpL_append a b]; omega
theorem faL_append : ∀ (a b : List It), faL (a ++ b) = max (faL a) (faL b)
  | [], b => by rw [faL]; simp
  | i :: a, b => by rw [List.cons_append, faL, faL, faL_append a b]; omega

mutual
/-- No more than nine frames lie around anything. -/
theorem dp_okI : ∀ (i : It) (f : Nat), OkI i f → f ≤ 9 → f + dpI i ≤ 9
  | .blk c, f, _, hf => by rw [dpI]; omega
  | .ask c l r, f, h, hf => by rw [OkI] at h; have := dp_okL l f h.2.1 hf; have := dp_okL r f h.2.2 hf; rw [dpI]; omega
  | .stop, f, _, hf => by rw [dpI]; omega
  | .frame b l, f, h, hf => by rw [OkI] at h; have := dp_okL l (f + 1) h.2 (by omega); rw [dpI]; omega
  | .leave n, f, _, hf => by rw [dpI]; omega
  | .set n, f, _, hf => by rw [dpI]; omega
  | .pick bs, f, h, hf => by rw [OkI] at h; have := dp_okB bs f h.2.2 hf; rw [dpI]; omega
theorem dp_okL : ∀ (l : List It) (f : Nat), OkL l f → f ≤ 9 → f + dpL l ≤ 9
  | [], f, _, hf => by rw [dpL]; omega
  | i :: l, f, h, hf => by rw [OkL] at h; have := dp_okI i f h.1 hf; have := dp_okL l f h.2 hf; rw [dpL]; omega
theorem dp_okB : ∀ (bs : List (List It)) (f : Nat), OkB bs f → f ≤ 9 → f + dpB bs ≤ 9
  | [], f, _, hf => by rw [dpB]; omega
  | b :: bs, f, h, hf => by rw [OkB] at h; have := dp_okL b f h.1 hf; have := dp_okB bs f h.2 hf; rw [dpB]; omega
end

mutual
/-- One more frame around it all. -/
theorem ok_nextI : ∀ (i : It) (f : Nat), OkI i f → f + 1 + dpI i ≤ 9 → OkI i (f + 1)
  | .blk c, f, h, _ => by rw [OkI] at h ⊢; exact h
  | .ask c l r, f, h, hd => by rw [OkI] at h ⊢; rw [dpI] at hd; exact ⟨h.1, ok_nextL l f h.2.1 (by omega), ok_nextL r f h.2.2 (by omega)⟩
  | .stop, f, _, _ => by rw [OkI]; trivial
  | .frame b l, f, h, hd => by rw [OkI] at h ⊢; rw [dpI] at hd; exact ⟨by omega, ok_nextL l (f + 1) h.2 (by omega)⟩
  | .leave n, f, h, _ => by rw [OkI] at h ⊢; omega
  | .set n, f, h, _ => by rw [OkI] at h ⊢; exact h
  | .pick bs, f, h, hd => by rw [OkI] at h ⊢; rw [dpI] at hd; exact ⟨h.1, h.2.1, ok_nextB bs f h.2.2 hd⟩
theorem ok_nextL : ∀ (l : List It) (f : Nat), OkL l f → f + 1 + dpL l ≤ 9 → OkL l (f + 1)
  | [], f, _, _ => by rw [OkL]; trivial
  | i :: l, f, h, hd => by rw [OkL] at h ⊢; rw [dpL] at hd; exact ⟨ok_nextI i f h.1 (by omega), ok_nextL l f h.2 (by omega)⟩
theorem ok_nextB : ∀ (bs : List (List It)) (f : Nat), OkB bs f → f + 1 + dpB bs ≤ 9 → OkB bs (f + 1)
  | [], f, _, _ => by rw [OkB]; trivial
  | b :: bs, f, h, hd => by rw [OkB] at h ⊢; rw [dpB] at hd; exact ⟨ok_nextL b f h.1 (by omega), ok_nextB bs f h.2 (by omega)⟩
end

mutual
/-- No step leaves more frames than there are. -/
theorem fa_okI : ∀ (i : It) (f : Nat), OkI i f → faI i ≤ f + dpI i
  | .blk c, f, _ => by rw [faI]; omega
  | .ask c l r, f, h => by rw [OkI] at h; have := fa_okL l f h.2.1; have := fa_okL r f h.2.2; rw [faI, dpI]; omega
  | .stop, f, _ => by rw [faI]; omega
  | .frame b l, f, h => by rw [OkI] at h; have := fa_okL l (f + 1) h.2; rw [faI, dpI]; omega
  | .leave n, f, h => by rw [OkI] at h; rw [faI]; omega
  | .set n, f, _ => by rw [faI]; omega
  | .pick bs, f, h => by rw [OkI] at h; have := fa_okB bs f h.2.2; rw [faI, dpI]; omega
theorem fa_okL : ∀ (l : List It) (f : Nat), OkL l f → faL l ≤ f + dpL l
  | [], f, _ => by rw [faL]; omega
  | i :: l, f, h => by rw [OkL] at h; have := fa_okI i f h.1; have := fa_okL l f h.2; rw [faL, dpL]; omega
theorem fa_okB : ∀ (bs : List (List It)) (f : Nat), OkB bs f → faB bs ≤ f + dpB bs
  | [], f, _ => by rw [faB]; omega
  | b :: bs, f, h => by rw [OkB] at h; have := fa_okL b f h.1; have := fa_okB bs f h.2; rw [faB, dpB]; omega
end

mutual
/-- There is a step if one leaves a frame. -/
theorem fa_cnI : ∀ (i : It), 0 < faI i ↔ 0 < cnI 94 i
  | .blk c => by rw [faI, cnI, show (if kdI (.blk c) = 94 then 1 else 0) = 0 from rfl]
  | .ask c l r => by
    have h1 := fa_cnL l
    have h2 := fa_cnL r
    rw [faI, cnI, show (if kdI (.ask c l r) = 94 then 1 else 0) = 0 from rfl]; omega
  | .stop => by rw [faI, cnI, show (if kdI .stop = 94 then 1 else 0) = 0 from rfl]
  | .frame b l => by
    have h1 := fa_cnL l
    rw [faI, cnI, show (if kdI (.frame b l) = 94 then 1 else 0) = 0 by cases b <;> rfl]; omega
  | .leave n => by rw [faI, cnI]; exact ⟨fun _ => by rw [show (if kdI (.leave n) = 94 then 1 else 0) = 1 from rfl]; omega, fun _ => by omega⟩
  | .set n => by rw [faI, cnI, show (if kdI (.set n) = 94 then 1 else 0) = 0 from rfl]
  | .pick bs => by
    have h1 := fa_cnB bs
    rw [faI, cnI, show (if kdI (.pick bs) = 94 then 1 else 0) = 0 from rfl]; omega
theorem fa_cnL : ∀ (l : List It), 0 < faL l ↔ 0 < cnL 94 l
  | [] => by rw [faL, cnL]
  | i :: l => by have h1 := fa_cnI i; have h2 := fa_cnL l; rw [faL, cnL]; omega
theorem fa_cnB : ∀ (bs : List (List It)), 0 < faB bs ↔ 0 < cnB 94 bs
  | [] => by rw [faB, cnB]
  | b :: bs => by have h1 := fa_cnL b; have h2 := fa_cnB bs; rw [faB, cnB]; omega
end
end Go.Proofs.Ytelhogeaobofpaa
