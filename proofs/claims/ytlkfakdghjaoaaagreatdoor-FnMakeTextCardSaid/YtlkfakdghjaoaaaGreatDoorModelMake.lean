import Derived.Test.YtlkfakdghjaoaaaGreatDoorSpecBack
import Derived.Test.YtlkfakdghjaoaaaGreatDoorJ2
set_option maxRecDepth 100000
set_option maxHeartbeats 6400000
namespace Go.Proofs.YtlkfakdghjaoaaaGreatDoor
open Go.RowKit Go.Sort
def ec (g : List Bl) : Prop := ∀ i t, Rch g [] i → t ∈ ai g i → ah g i < ah g t ∨ Dm g t i
theorem kY {g : List Bl} (hv : aa g = true) (h : (bD g c6).length = 0) : ec g := by
 intro i t hi ht
 by_cases hp : ah g i < ah g t
 ·exact .inl hp
 ·cases hd : bL g t i with
  | true => exact .inr ((eY hv).1 hd)
  | false =>
   have : (i, t) ∈ bD g c6 := (jR hv).2 ⟨hi, ht, by show c6 (aH g i t) = true; rw [rZ hp hd]; rfl⟩
   rw [List.eq_nil_of_length_eq_zero h] at this
   cases this
theorem xz {g : List Bl} {i t : Nat} : dx (aH g i t) = true ↔ ah g i < ah g t := by
 unfold dx
 rw [beq_iff_eq]
 by_cases h : ah g i < ah g t
 ·exact ⟨fun _ => h, fun _ => jw h⟩
 ·refine ⟨fun e => ?_, fun h' => absurd h' h⟩
  exact absurd e (m9.2 (by omega))
theorem DM {l : List Nat} {a b : Nat} (ha : a ∈ l) (hb : b ∈ l) (h : a ≠ b) : 2 ≤ l.length := by
 match l, ha, hb with
 | [x], ha, hb => rw [List.mem_singleton] at ha hb; exact absurd (ha.trans hb.symm) h
 | _ :: _ :: _, _, _ => simp
theorem DN {g : List Bl} (hv : aa g = true) {n i t : Nat} (ht : t ∉ aw g) (hn : Rch g [] n) (h1 : t ∈ ai g n) (h2 : ah g n < ah g t) (hi : Rch g [] i) (h3 : t ∈ ai g i) (h4 : ah g i < ah g t) : i = n := by
 refine Decidable.byContradiction fun hne => ht ?_
 unfold aw f7
 rw [List.mem_filter, aN hv, decide_eq_true_iff]
 exact ⟨.step hn h1 (by simp), DM ((jx hv).2 ⟨hi, h3, xz.2 h4⟩) ((jx hv).2 ⟨hn, h1, xz.2 h2⟩) hne⟩
theorem ob {g : List Bl} (hv : aa g = true) (hT : ec g) {n t : Nat} (ht : t ∉ aw g) (hn : Rch g [] n) (h1 : t ∈ ai g n) (h2 : ah g n < ah g t) : dC g n t := by
 have h0 : t ≠ 0 := fun e => by rw [e, ko hv] at h2; omega
 have hno : ∀ x, Rch g [n] x → x ≠ t ∧ ¬ Dm g t x := by
  intro x hx
  induction hx with
  | start ha => exact ⟨fun e => h0 e.symm, fun h => h0 (Dm.of_entry h)⟩
  | @step i x h hnx ha ih =>
   have hio : i ≠ n := fun e => h.out (by rw [e]; simp)
   have hir : Rch g [] i := h.free
   have key : x ≠ t := fun e => by
    subst e
    rcases hT i x hir hnx with h5 | h5
    ·exact hio (DN hv ht hn h1 h2 hir hnx h5)
    ·exact ih.2 h5
   refine ⟨key, fun hd => ?_⟩
   rcases hd.back hnx with e | e
   ·exact key e.symm
   ·exact ih.2 e
 have hd : Dm g n t := .inr fun h => (hno t h).1 rfl
 refine ⟨fun e => by rw [e] at h2; omega, hn, fun a => ⟨fun ha => ?_, fun ha => ?_⟩⟩
 ·rcases ha.back h1 with e | e
  ·exact .inl e
  ·exact .inr e
 ·rcases ha with rfl | ha
  ·exact .refl g a
  ·exact ha.trans hd
theorem gt {g : List Bl} {p n : Nat} (h : dC g p n) : Dm g p n := (h.2.2 p).2 (.inr (.refl g p))
theorem eL {g : List Bl} (hv : aa g = true) {p n : Nat} (hn : Rch g [] n) (h : dC g p n) : ah g p < ah g n := nf hv hn (gt h) h.1
abbrev Fr := List (Nat × Bool)
def aq (g : List Bl) (n : Nat) : List Nat := ((af g).filter fun c => decide (c ∈ aw g) && decide (bB g c = some n)).reverse
theorem dM {g : List Bl} (hv : aa g = true) {n c : Nat} : c ∈ aq g n ↔ Rch g [] c ∧ c ∈ aw g ∧ dC g n c := by
 unfold aq
 rw [List.mem_reverse, List.mem_filter, aD hv, Bool.and_eq_true, decide_eq_true_iff, decide_eq_true_iff]
 constructor
 ·rintro ⟨h1, h2, h3⟩; exact ⟨h1, h2, (cR hv h1).1 h3⟩
 ·rintro ⟨h1, h2, h3⟩; exact ⟨h1, h2, (cR hv h1).2 h3⟩
theorem uE {g : List Bl} (hv : aa g = true) : (af g).Pairwise fun a b => ah g a < ah g b := by
 rw [List.pairwise_iff_getElem]
 intro i j hi hj hij
 unfold ah
 rw [i8 (ba hv) hi, i8 (ba hv) hj]
 exact hij
theorem gG {g : List Bl} (hv : aa g = true) (n : Nat) : (aq g n).Pairwise fun a b => ah g b < ah g a := by
 unfold aq
 rw [List.pairwise_reverse]
 exact (uE hv).filter _
def InvIn (g : List Bl) (n : Nat) (bs : List Nat) (fr : Fr) : Prop :=
 (∀ h ∈ aS g, Dm g h n → (h, true) ∈ fr) ∧
 ∀ t ∈ aw g, ∀ p, dC g p t → Dm g p n → ah g n < ah g t → (p = n ∧ t ∈ bs) ∨ (t, false) ∈ fr
def InvOut (g : List Bl) (n : Nat) (fr : Fr) : Prop :=
 (∀ h ∈ aS g, Dm g h n → h ≠ n → (h, true) ∈ fr) ∧
 ∀ t ∈ aw g, ∀ p, dC g p t → Dm g p n → p ≠ n → ah g n < ah g t → (t, false) ∈ fr
theorem jD (g : List Bl) : InvOut g 0 [] :=
 ⟨fun _ _ hd hne => absurd hd.of_entry hne, fun _ _ _ _ hd hne _ => absurd hd.of_entry hne⟩
theorem yL {g : List Bl} (hv : aa g = true) {t : Nat} (h : t ∈ aw g) : Rch g [] t := by
 unfold aw f7 at h
 exact (aN hv).1 (List.mem_filter.1 h).1
theorem InvOut.into {g : List Bl} (hv : aa g = true) {n : Nat} {fr : Fr} (h : InvOut g n fr) : InvIn g n (aq g n) (if n ∈ aS g then (n, true) :: fr else fr) := by
 have up : ∀ x, x ∈ fr → x ∈ (if n ∈ aS g then (n, true) :: fr else fr) := fun x hx => by split; exact List.mem_cons_of_mem _ hx; exact hx
 refine ⟨fun k hk hd => ?_, fun t ht p hp hd hl => ?_⟩
 ·by_cases e : k = n
  ·subst e; rw [if_pos hk]; exact List.mem_cons_self ..
  ·exact up _ (h.1 k hk hd e)
 ·by_cases e : p = n
  ·subst e; exact .inl ⟨rfl, (dM hv).2 ⟨yL hv ht, ht, hp⟩⟩
  ·exact .inr (up _ (h.2 t ht p hp hd e hl))
theorem InvIn.wrap {g : List Bl} {n y : Nat} {bs : List Nat} {fr : Fr} (h : InvIn g n (y :: bs) fr) : InvIn g n bs ((y, false) :: fr) := by
 refine ⟨fun k hk hd => List.mem_cons_of_mem _ (h.1 k hk hd), fun t ht p hp hd hl => ?_⟩
 rcases h.2 t ht p hp hd hl with ⟨e, hm⟩ | hm
 ·rcases List.mem_cons.1 hm with e2 | e2
  ·exact .inr (by rw [e2]; exact List.mem_cons_self ..)
  ·exact .inl ⟨e, e2⟩
 ·exact .inr (List.mem_cons_of_mem _ hm)
theorem InvIn.child {g : List Bl} (hv : aa g = true) {n y : Nat} {bs : List Nat} {fr : Fr} (h : InvIn g n (y :: bs) fr) (hs : (y :: bs).Pairwise fun a b => ah g b < ah g a) (hy : Rch g [] y) (hp : dC g n y) : InvOut g y fr := by
 have hpl := eL hv hy hp
 refine ⟨fun k hk hd hne => h.1 k hk (((hp.2.2 k).1 hd).resolve_left hne), fun t ht p hpt hd hne hl => ?_⟩
 rcases h.2 t ht p hpt (((hp.2.2 p).1 hd).resolve_left hne) (by omega) with ⟨_, hm⟩ | hm
 ·exfalso
  rcases List.mem_cons.1 hm with e2 | e2
  ·rw [e2] at hl; omega
  ·have := (List.pairwise_cons.1 hs).1 t e2; omega
 ·exact hm
theorem InvIn.jump {g : List Bl} (hv : aa g = true) {n t : Nat} {fr : Fr} (h : InvIn g n [] fr) (ht : Rch g [] t) (hp : dC g n t) : InvOut g t fr := by
 have hpl := eL hv ht hp
 refine ⟨fun k hk hd hne => h.1 k hk (((hp.2.2 k).1 hd).resolve_left hne), fun t' ht' p hpt hd hne hl => ?_⟩
 rcases h.2 t' ht' p hpt (((hp.2.2 p).1 hd).resolve_left hne) (by omega) with ⟨_, hm⟩ | hm
 ·cases hm
 ·exact hm
theorem InvIn.back {g : List Bl} (hv : aa g = true) (hT : ec g) {n t : Nat} {fr : Fr} (h : InvIn g n [] fr) (hn : Rch g [] n) (ht : t ∈ ai g n) (hl : ¬ ah g n < ah g t) : (t, true) ∈ fr := by
 refine h.1 t ((r7 hv).2 ⟨.step hn ht (by simp), n, hn, ht, ?_⟩) ((hT n t hn ht).resolve_left hl)
 rw [pY, decide_eq_true_iff]; omega
theorem InvIn.fwd {g : List Bl} (hv : aa g = true) {n t : Nat} {fr : Fr} (h : InvIn g n [] fr) (hn : Rch g [] n) (ht : t ∈ ai g n) (hl : ah g n < ah g t) (hm : t ∈ aw g) : (t, false) ∈ fr := by
 have hr : Rch g [] t := .step hn ht (by simp)
 have h0 : t ≠ 0 := fun e => by rw [e, ko hv] at hl; omega
 obtain ⟨p, hp⟩ := jq hv hr h0
 have hd : Dm g p n := ((gt hp).back ht).resolve_left hp.1
 rcases h.2 t hm p hp hd hl with ⟨_, h⟩ | h
 ·cases h
 ·exact h
def OkOut (g : List Bl) (n : Nat) (fr : Fr) : Prop :=
 fr.Nodup ∧ ∀ e ∈ fr, e.1 < g.length ∧ (e.2 = true → Dm g e.1 n ∧ e.1 ≠ n) ∧ (e.2 = false → ∃ p, dC g p e.1 ∧ Dm g p n ∧ p ≠ n)
def OkIn (g : List Bl) (n : Nat) (bs : List Nat) (fr : Fr) : Prop :=
 fr.Nodup ∧ ∀ e ∈ fr, e.1 < g.length ∧ (e.2 = true → Dm g e.1 n) ∧ (e.2 = false → ∃ p, dC g p e.1 ∧ Dm g p n ∧ (p = n → e.1 ∉ bs))
theorem kt (g : List Bl) : OkOut g 0 [] := ⟨List.nodup_nil, fun _ h => by cases h⟩
theorem OkOut.into {g : List Bl} {n : Nat} {fr : Fr} (h : OkOut g n fr) (hn : n < g.length) : OkIn g n (aq g n) (if n ∈ aS g then (n, true) :: fr else fr) := by
 have old : ∀ e ∈ fr, e.1 < g.length ∧ (e.2 = true → Dm g e.1 n) ∧ (e.2 = false → ∃ p, dC g p e.1 ∧ Dm g p n ∧ (p = n → e.1 ∉ aq g n)) := by
  intro e he
  obtain ⟨h1, h2, h3⟩ := h.2 e he
  refine ⟨h1, fun hb => (h2 hb).1, fun hb => ?_⟩
  obtain ⟨p, h4, h5, h6⟩ := h3 hb
  exact ⟨p, h4, h5, fun e => absurd e h6⟩
 split
 ·refine ⟨List.nodup_cons.2 ⟨fun hm => ((h.2 _ hm).2.1 rfl).2 rfl, h.1⟩, fun e he => ?_⟩
  rcases List.mem_cons.1 he with he | he
  ·subst he; exact ⟨hn, fun _ => .refl g n, fun e => by cases e⟩
  ·exact old e he
 ·exact ⟨h.1, old⟩
theorem OkIn.wrap {g : List Bl} (hv : aa g = true) {n y : Nat} {bs : List Nat} {fr : Fr} (h : OkIn g n (y :: bs) fr) (hy : Rch g [] y) (hp : dC g n y) (hnb : y ∉ bs) : OkIn g n bs ((y, false) :: fr) := by
 refine ⟨List.nodup_cons.2 ⟨fun hm => ?_, h.1⟩, fun e he => ?_⟩
 ·obtain ⟨p, h1, _, h3⟩ := (h.2 _ hm).2.2 rfl
  exact h3 (xh h1 hp) (List.mem_cons_self ..)
 ·rcases List.mem_cons.1 he with he | he
  ·subst he; exact ⟨hy.lt hv, fun e => by (cases e), fun _ => ⟨n, hp, .refl g n, fun _ => hnb⟩⟩
  ·obtain ⟨h1, h2, h3⟩ := h.2 e he
   refine ⟨h1, h2, fun hb => ?_⟩
   obtain ⟨p, h4, h5, h6⟩ := h3 hb
   exact ⟨p, h4, h5, fun e hm => h6 e (List.mem_cons_of_mem _ hm)⟩
theorem OkIn.child {g : List Bl} (hv : aa g = true) {n y : Nat} {bs : List Nat} {fr : Fr} (h : OkIn g n bs fr) (hy : Rch g [] y) (hp : dC g n y) : OkOut g y fr := by
 have hpl := eL hv hy hp
 have up : ∀ a, Dm g a n → Dm g a y ∧ a ≠ y := by
  intro a ha
  refine ⟨ha.trans (gt hp), fun e => ?_⟩
  subst e
  by_cases e : a = n
  ·rw [e] at hpl; omega
  ·have := nf hv hp.2.1 ha e; omega
 refine ⟨h.1, fun e he => ?_⟩
 obtain ⟨h1, h2, h3⟩ := h.2 e he
 refine ⟨h1, fun hb => up _ (h2 hb), fun hb => ?_⟩
 obtain ⟨p, h4, h5, _⟩ := h3 hb
 exact ⟨p, h4, up p h5⟩
theorem At {g : List Bl} (hv : aa g = true) {fr : Fr} (hn : fr.Nodup) (hl : ∀ e ∈ fr, e.1 < g.length) : fr.length ≤ 52 := by
 have h26 := (ak.1 hv).2.1
 have h := bK 52 (fr.map fun e => 2 * e.1 + (if e.2 = true then 1 else 0)) (by
  rw [List.nodup_iff_pairwise_ne, List.pairwise_map]
  refine List.Pairwise.imp ?_ (List.nodup_iff_pairwise_ne.1 hn)
  intro a b hab e
  apply hab
  have h1 : a.1 = b.1 := by split at e <;> split at e <;> omega
  have h2 : a.2 = b.2 := by
   rw [h1] at e
   cases ha : a.2 <;> cases hb : b.2 <;> rw [ha, hb] at e <;> simp at e ⊢
  exact Prod.ext h1 h2) (by
  intro x hx
  obtain ⟨e, he, rfl⟩ := List.mem_map.1 hx
  have := hl e he
  show 2 * e.1 + (if e.2 = true then 1 else 0) < 52
  split <;> omega)
 rw [List.length_map] at h
 exact h
theorem OkIn.len {g : List Bl} (hv : aa g = true) {n : Nat} {bs : List Nat} {fr : Fr} (h : OkIn g n bs fr) : fr.length ≤ 52 := At hv h.1 fun e he => (h.2 e he).1
theorem OkOut.len {g : List Bl} (hv : aa g = true) {n : Nat} {fr : Fr} (h : OkOut g n fr) : fr.length ≤ 52 := At hv h.1 fun e he => (h.2 e he).1
def dW (k : Nat) : List UInt8 := if k < 10 then [UInt8.ofNat (48 + k)] else [UInt8.ofNat (48 + k / 10), UInt8.ofNat (48 + k % 10)]
def jU (fr : Fr) (x : Nat × Bool) : List UInt8 := 94 :: dW (fr.findIdx fun y => decide (y = x))
def aO (g : List Bl) (T : Nat → Fr → List UInt8) (n t : Nat) (fr : Fr) : List UInt8 :=
 if ah g n < ah g t then (if t ∈ aw g then jU fr (t, false) else T t fr) else jU fr (t, true)
def dE (g : List Bl) (T : Nat → Fr → List UInt8) (n : Nat) (fr : Fr) : List UInt8 :=
 match ai g n with
 | [] => [an g n, 46]
 | [t] => an g n :: aO g T n t fr
 | t :: u :: _ => 63 :: an g n :: 91 :: (aO g T n t fr ++ 93 :: 91 :: (aO g T n u fr ++ [93]))
def aI (g : List Bl) (T : Nat → Fr → List UInt8) (n : Nat) : List Nat → Fr → List UInt8
 | [], fr => dE g T n fr
 | y :: bs, fr => 40 :: (aI g T n bs ((y, false) :: fr) ++ 41 :: T y fr)
def av (g : List Bl) : Nat → Nat → Fr → List UInt8
 | 0, _, _ => []
 | m + 1, n, fr => if n ∈ aS g then 123 :: (aI g (av g m) n (aq g n) ((n, true) :: fr) ++ [125]) else aI g (av g m) n (aq g n) fr
theorem jE (k : Nat) : (dW k).length ≤ 2 := by unfold dW; split <;> simp
theorem jV (fr : Fr) (x : Nat × Bool) : (jU fr x).length ≤ 3 := by
 unfold jU
 have := jE (fr.findIdx fun y => decide (y = x))
 rw [List.length_cons]; omega
def dN (g : List Bl) (n : Nat) : List Nat := (ai g n).filter fun t => decide (ah g n < ah g t) && decide (t ∉ aw g)
theorem jW {g : List Bl} {n t : Nat} : t ∈ dN g n ↔ t ∈ ai g n ∧ ah g n < ah g t ∧ t ∉ aw g := by
 unfold dN
 rw [List.mem_filter, Bool.and_eq_true, decide_eq_true_iff, decide_eq_true_iff]
theorem sp {g : List Bl} (hv : aa g = true) (hT : ec g) {n t : Nat} (hn : Rch g [] n) (h : t ∈ dN g n) : Rch g [] t ∧ dC g n t := by
 obtain ⟨h1, h2, h3⟩ := jW.1 h
 exact ⟨.step hn h1 (by simp), ob hv hT h3 hn h1 h2⟩
theorem Au {g : List Bl} (hv : aa g = true) {i : Nat} (hi : i < g.length) : (ai g i).Nodup := by
 rcases goes hv hi with ⟨h, _⟩ | ⟨p, _, h, _⟩ | ⟨p, q, _, _, h, _, _, _, _, _, hne⟩
 ·rw [h]; simp
 ·rw [h]; simp
 ·rw [h]; simp [hne]
def gW (g : List Bl) (n : Nat) : List Nat := aq g n ++ dN g n
theorem gu {g : List Bl} (hv : aa g = true) (hT : ec g) {n : Nat} (hn : Rch g [] n) {c : Nat} (h : c ∈ gW g n) : c ∈ cZ g n := by
 rw [ft hv]
 rcases List.mem_append.1 h with h | h
 ·obtain ⟨h1, _, h3⟩ := (dM hv).1 h; exact ⟨h1, h3⟩
 ·exact sp hv hT hn h
theorem Cq {g : List Bl} (hv : aa g = true) (hT : ec g) {n c : Nat} (hc : Rch g [] c) (hp : dC g n c) : c ∈ gW g n := by
 by_cases hm : c ∈ aw g
 ·exact List.mem_append_left _ ((dM hv).2 ⟨hc, hm, hp⟩)
 ·refine List.mem_append_right _ (jW.2 ?_)
  have h0 : c ≠ 0 := fun e => zD (e ▸ hp)
  obtain ⟨i, hi, h1, h2⟩ := Ch hv hc h0
  have := xh (ob hv hT hm hi h1 h2) hp
  subst this
  exact ⟨h1, h2, hm⟩
theorem lW {g : List Bl} (hv : aa g = true) {n : Nat} (hn : n < g.length) : (gW g n).Nodup := by
 unfold gW
 rw [List.nodup_append]
 refine ⟨?_, (Au hv hn).filter _, fun a ha b hb e => ?_⟩
 ·exact (gG hv n).imp (fun h e => by rw [e] at h; omega)
 ·subst e
  exact (jW.1 hb).2.2 ((dM hv).1 ha).2.1
theorem po {f : Nat → Nat} : ∀ {l k : List Nat}, l.Nodup → (∀ x ∈ l, x ∈ k) → co f l ≤ co f k
 | [], _, _, _ => Nat.zero_le _
 | x :: l, k, hn, hs => by
  rw [List.nodup_cons] at hn
  obtain ⟨k1, k2, rfl⟩ := List.append_of_mem (hs x (List.mem_cons_self ..))
  have h := po (f := f) (l := l) (k := k1 ++ k2) hn.2 fun y hy => by
   have h1 := hs y (List.mem_cons_of_mem _ hy)
   have h2 : y ≠ x := fun e => hn.1 (e ▸ hy)
   rcases List.mem_append.1 h1 with h1 | h1
   ·exact List.mem_append_left _ h1
   ·exact List.mem_append_right _ ((List.mem_cons.1 h1).resolve_left h2)
  rw [bQ, kj, bQ]
  rw [kj] at h
  omega
theorem DO {g : List Bl} (hv : aa g = true) {n : Nat} (hn : Rch g [] n) : 1 ≤ eG g n := by
 have := o9 hv hn
 omega
theorem nt (g : List Bl) (T : Nat → Fr → List UInt8) (n t : Nat) (fr : Fr) : (aO g T n t fr).length ≤ 3 + co (fun c => (T c fr).length) ([t].filter fun t => decide (ah g n < ah g t) && decide (t ∉ aw g)) := by
 unfold aO
 by_cases h1 : ah g n < ah g t
 ·rw [if_pos h1]
  by_cases h2 : t ∈ aw g
  ·rw [if_pos h2]
   have := jV fr (t, false)
   omega
  ·rw [if_neg h2]
   have e : ([t].filter fun t => decide (ah g n < ah g t) && decide (t ∉ aw g)) = [t] := by simp [h1, h2]
   rw [e, bQ]
   omega
 ·rw [if_neg h1]
  have := jV fr (t, true)
  omega
theorem Av {g : List Bl} (hv : aa g = true) (T : Nat → Fr → List UInt8) {n : Nat} (hn : n < g.length) (fr : Fr) : (dE g T n fr).length ≤ 12 + co (fun c => (T c fr).length) (dN g n) := by
 have h2 := hU hv hn
 unfold dE dN
 match hx : ai g n, h2 with
 | [], _ => simp only [List.length_cons, List.length_nil]; omega
 | [t], _ =>
  have := nt g T n t fr
  simp only [List.length_cons]
  omega
 | [t, u], _ =>
  have a1 := nt g T n t fr
  have a2 := nt g T n u fr
  have e : ([t, u].filter fun t => decide (ah g n < ah g t) && decide (t ∉ aw g)) = ([t].filter fun t => decide (ah g n < ah g t) && decide (t ∉ aw g)) ++ ([u].filter fun t => decide (ah g n < ah g t) && decide (t ∉ aw g)) := by
   rw [← List.filter_append]; rfl
  rw [e, kj]
  simp only [List.length_cons, List.length_append, List.length_nil]
  omega
theorem ku {g : List Bl} (hv : aa g = true) (T : Nat → Fr → List UInt8) (B : Nat → Nat) {n : Nat} (hn : n < g.length) : ∀ (bs : List Nat) (fr : Fr), (∀ c ∈ bs ++ dN g n, ∀ fr, (T c fr).length + 2 ≤ B c) →
  (aI g T n bs fr).length ≤ 12 + co B (bs ++ dN g n)
 | [], fr, h => by
  rw [aI, List.nil_append]
  have h1 := Av hv T hn fr
  have h2 : co (fun c => (T c fr).length) (dN g n) ≤ co B (dN g n) := rg fun c hc => by have := h c (by simpa using hc) fr; omega
  omega
 | y :: bs, fr, h => by
  have ih := ku hv T B hn bs ((y, false) :: fr) fun c hc => h c (by rw [List.cons_append]; exact List.mem_cons_of_mem _ hc)
  have hy := h y (by simp) fr
  rw [aI, List.cons_append, bQ]
  simp only [List.length_cons, List.length_append]
  omega
theorem nu {g : List Bl} (hv : aa g = true) (hT : ec g) : ∀ (m n : Nat), Rch g [] n → ∀ fr, (av g m n fr).length + 2 ≤ 16 * eG g n
 | 0, n, hn, fr => by have := DO hv hn; rw [av, List.length_nil]; omega
 | m + 1, n, hn, fr => by
  have hl := hn.lt hv
  have hk : ∀ c ∈ gW g n, Rch g [] c := fun c hc => ((ft hv).1 (gu hv hT hn hc)).1
  have hb : ∀ bs fr', bs = aq g n → (aI g (av g m) n bs fr').length ≤ 12 + co (fun c => 16 * eG g c) (gW g n) := by
   intro bs fr' e
   subst e
   exact ku hv (av g m) (fun c => 16 * eG g c) hl _ fr' fun c hc fr => nu hv hT m c (hk c hc) fr
  have h1 : co (fun c => 16 * eG g c) (gW g n) ≤ co (fun c => 16 * eG g c) (cZ g n) := po (lW hv hl) fun c hc => gu hv hT hn hc
  have h2 : ∀ l : List Nat, co (fun c => 16 * eG g c) l = 16 * co (eG g) l := by
   intro l
   induction l with
   | nil => rfl
   | cons x l ih => rw [bQ, bQ, ih]; omega
  have h3 := o9 hv hn
  rw [h2 (cZ g n)] at h1
  rw [av]
  split
  ·have := hb _ ((n, true) :: fr) rfl
   simp only [List.length_cons, List.length_append, List.length_nil]
   omega
  ·have := hb _ fr rfl
   omega
theorem kw {g : List Bl} (hv : aa g = true) (hT : ec g) {m n : Nat} (hn : Rch g [] n) (fr : Fr) : (av g m n fr).length ≤ 416 := by
 have h1 := nu hv hT m n hn fr
 have h2 := zC hv n
 omega
def cj {α : Type} (g : List Bl) (V : Nat → Fr → List α) (n t : Nat) (fr : Fr) : List α := if ah g n < ah g t ∧ t ∉ aw g then V t fr else []
def fI {α : Type} (g : List Bl) (V : Nat → Fr → List α) (n : Nat) (fr : Fr) : List α := (ai g n).flatMap fun t => cj g V n t fr
def bm {α : Type} (g : List Bl) (V : Nat → Fr → List α) (n : Nat) : List Nat → Fr → List α
 | [], fr => fI g V n fr
 | y :: bs, fr => bm g V n bs ((y, false) :: fr) ++ V y fr
def bP (g : List Bl) (n : Nat) (fr : Fr) : Fr := if n ∈ aS g then (n, true) :: fr else fr
def mE (g : List Bl) : Nat → Nat → Fr → List (Nat × Fr)
 | 0, _, _ => []
 | m + 1, n, fr => (n, fr) :: bm g (mE g m) n (aq g n) (bP g n fr)
def iX (g : List Bl) : Nat → Nat → Fr → List (Nat × List UInt8)
 | 0, _, _ => []
 | m + 1, n, fr => bm g (iX g m) n (aq g n) (bP g n fr) ++ [(n, av g (m + 1) n fr)]
def fA {β : Type} (f : Nat → β) (ws : List (Nat × β)) : Nat → β := ws.foldl (fun f p => fun j => if j = p.1 then p.2 else f j) f
theorem ff {β : Type} (f : Nat → β) (a b : List (Nat × β)) : fA f (a ++ b) = fA (fA f a) b := by
 unfold fA; rw [List.foldl_append]
theorem uF {β : Type} (f : Nat → β) (i : Nat) (v : β) : fA f [(i, v)] = fun j => if j = i then v else f j := rfl
def iY (g : List Bl) (e : Nat × Bool) : UInt8 := if e.2 = true then an g e.1 + 32 else an g e.1
theorem gv {g : List Bl} (hv : aa g = true) {i : Nat} (hi : i < g.length) : 65 ≤ (an g i).toNat ∧ (an g i).toNat ≤ 90 := by
 obtain ⟨c, hc, hl⟩ := bi hv (List.getElem_mem hi)
 have h1 := bf hv hi
 rw [hc] at h1
 have h2 : c = an g i := by
  have := congrArg (fun b : ByteArray => b.data.toList) h1
  simpa using this
 rw [← h2]
 unfold aW at hl
 simp only [Bool.and_eq_true, decide_eq_true_eq] at hl
 exact hl
theorem DP {g : List Bl} (hv : aa g = true) {a b : Nat × Bool} (ha : a.1 < g.length) (hb : b.1 < g.length) (h : iY g a = iY g b) : a = b := by
 obtain ⟨x, p⟩ := a
 obtain ⟨y, q⟩ := b
 have ha : x < g.length := ha
 have hb : y < g.length := hb
 have ra := gv hv ha
 have rb := gv hv hb
 have key : ∀ z r, 65 ≤ (an g z).toNat ∧ (an g z).toNat ≤ 90 → (iY g (z, r)).toNat = (an g z).toNat + (if r = true then 32 else 0) := by
  intro z r hz
  cases r with
  | false => rfl
  | true =>
   show (an g z + 32).toNat = _
   rw [UInt8.toNat_add, if_pos rfl]
   simp
   omega
 have k1 := key x p ra
 have k2 := key y q rb
 rw [h] at k1
 have hxy : (an g x).toNat = (an g y).toNat ∧ p = q := by
  cases p <;> cases q <;> simp at k1 k2 ⊢ <;> omega
 rw [lJ hv ha hb (UInt8.toNat_inj.1 hxy.1), hxy.2]
theorem lX {g : List Bl} (hv : aa g = true) {x : Nat × Bool} (hx : x.1 < g.length) : ∀ {fr : Fr}, (∀ e ∈ fr, e.1 < g.length) → x ∈ fr → Lib.indexByte (fr.map (iY g)) (iY g x) = ((fr.findIdx fun y => decide (y = x) : Nat) : Int)
 | [], _, h => by cases h
 | e :: fr, hl, h => by
  rw [List.map_cons, Lib.indexByte, List.findIdx_cons]
  by_cases he : e = x
  ·subst he; simp
  ·have h1 : x ∈ fr := (List.mem_cons.1 h).resolve_left fun q => he q.symm
   have ih := lX hv hx (fr := fr) (fun y hy => hl y (List.mem_cons_of_mem _ hy)) h1
   have h2 : ¬ iY g e = iY g x := fun q => he (DP hv (hl e (List.mem_cons_self ..)) hx q)
   rw [if_neg (by simpa using h2), ih, if_neg (by simp), decide_eq_false he]
   simp
theorem yM {g : List Bl} (hv : aa g = true) {i : Nat} (hi : i < g.length) : g[i].2 = ⟨((ai g i).map (an g)).toArray⟩ := by
 cases goes hv hi with
 | stop h hs =>
  rw [h]
  apply aV
  have : g[i].2.data.toList.length = 0 := by rw [dX, hs]
  rw [List.eq_nil_of_length_eq_zero this]; rfl
 | jump p hp h hs ho hn =>
  rw [h, ← hn, bf hv hp]; rfl
 | branch p q hp hq h hs ho hn ho' hn' hne =>
  rw [h]
  have e1 := bf hv hp
  have e2 := bf hv hq
  rw [hn] at e1
  rw [hn'] at e2
  have hl : g[i].2.data.toList.length = 2 := by rw [dX, hs]
  have f1 := congrArg (fun b : ByteArray => b.data.toList) e1
  have f2 := congrArg (fun b : ByteArray => b.data.toList) e2
  simp only [← Lib.toList_data, Lib.extract_toList] at f1 f2
  rw [Lib.toList_data] at f1 f2
  rw [hs] at f2
  apply aV
  match hm : g[i].2.data.toList, hl with
  | [x, y], _ =>
   rw [hm] at f1 f2
   simp at f1 f2
   rw [f1, f2]; rfl
theorem wC {g : List Bl} (hv : aa g = true) (hT : ec g) {m n t : Nat} (ht : Rch g [] t) (fr : Fr) : (aO g (av g m) n t fr).length ≤ 416 := by
 unfold aO
 have h1 := kw hv hT (m := m) ht fr
 have h2 := jV fr (t, false)
 have h3 := jV fr (t, true)
 split
 ·split <;> omega
 ·omega
theorem mF {g : List Bl} (hv : aa g = true) (hT : ec g) {m n : Nat} (hn : Rch g [] n) {bs : List Nat} (hs : bs <:+ aq g n) (fr : Fr) : (aI g (av g m) n bs fr).length ≤ 428 := by
 have hk : ∀ c ∈ gW g n, Rch g [] c := fun c hc => ((ft hv).1 (gu hv hT hn hc)).1
 have hsub : ∀ c ∈ bs ++ dN g n, c ∈ gW g n := fun c hc => by
  rcases List.mem_append.1 hc with h | h
  ·exact List.mem_append_left _ (hs.subset h)
  ·exact List.mem_append_right _ h
 have hnd : (bs ++ dN g n).Nodup := by
  obtain ⟨t, ht⟩ := hs
  have := lW hv (hn.lt hv)
  unfold gW at this
  rw [← ht, List.append_assoc] at this
  exact (List.nodup_append.1 this).2.1
 have h0 := ku hv (av g m) (fun c => 16 * eG g c) (hn.lt hv) bs fr fun c hc fr => nu hv hT m c (hk c (hsub c hc)) fr
 have h1 : co (fun c => 16 * eG g c) (bs ++ dN g n) ≤ co (fun c => 16 * eG g c) (cZ g n) := po hnd fun c hc => gu hv hT hn (hsub c hc)
 have h2 : ∀ l : List Nat, co (fun c => 16 * eG g c) l = 16 * co (eG g) l := by
  intro l
  induction l with
  | nil => rfl
  | cons x l ih => rw [bQ, bQ, ih]; omega
 have h3 := o9 hv hn
 have h4 := zC hv n
 rw [h2 (cZ g n)] at h1
 omega
end Go.Proofs.YtlkfakdghjaoaaaGreatDoor
namespace Go.Proofs.YtlkfakdghjaoaaaGreatDoor
open Go.RowKit Go.Sort
attribute [local go_sem] Oper.semAt_some
def jF (n : Nat) (f : Nat → List UInt8) : Array Value := ((List.range n).map fun i => Value.string (tb (f i))).toArray
theorem jX (n : Nat) (f : Nat → List UInt8) : (jF n f).size = n := by simp [jF]
theorem gX {n : Nat} (f : Nat → List UInt8) {i : Nat} (hi : i < n) : (jF n f)[i]? = some (.string (tb (f i))) := by simp [jF, hi]
theorem uG {n i : Nat} (f : Nat → List UInt8) (v : List UInt8) : (jF n f).setIfInBounds i (.string (tb v)) = jF n (fun j => if j = i then v else f j) := by
 apply Array.ext_getElem?
 intro j
 rw [Array.getElem?_setIfInBounds, jX]
 by_cases hj : j < n
 ·rw [gX _ hj, gX _ hj]
  by_cases e : i = j
  ·subst e; rw [if_pos rfl, if_pos hj, if_pos rfl]
  ·rw [if_neg e, if_neg (fun h => e h.symm)]
 ·have h1 : (jF n f)[j]? = none := Array.getElem?_eq_none (by rw [jX]; omega)
  have h2 : (jF n fun j => if j = i then v else f j)[j]? = none := Array.getElem?_eq_none (by rw [jX]; omega)
  rw [h1, h2]
  split
  ·rw [if_neg (by omega)]
  ·rfl
structure Mk (w : World) (MB AB PB : Nat) (A : Option Addr) (cap : Nat) (g : List Bl) (ar pt : Nat → List UInt8) : Prop where
 blk : Blk w MB 108 #[.slice A g.length cap, .string (ae g (af g)), .string (ae g (aw g)), .string (ae g (aS g)), .slice (some ⟨AB, 0, none⟩) g.length g.length, .slice (some ⟨PB, 0, none⟩) g.length g.length]
 ar : Blk w AB 9 (jF g.length ar)
 pt : Blk w PB 9 (jF g.length pt)
 gr : Gr w A g
 ap : AB ≠ PB
 ma : MB ≠ AB
 mp : MB ≠ PB
 ga : ∀ b off, A = some ⟨b, off, none⟩ → b ≠ AB ∧ b ≠ PB
theorem Mk.below {w w' : World} {MB AB PB : Nat} {A : Option Addr} {cap : Nat} {g : List Bl} {ar pt : Nat → List UInt8} (h : Mk w MB AB PB A cap g ar pt) (hb : Below w.heap.size w w') : Mk w' MB AB PB A cap g ar pt :=
 ⟨h.blk.below hb h.blk.lt, h.ar.below hb h.ar.lt, h.pt.below hb h.pt.lt, h.gr.below hb, h.ap, h.ma, h.mp, h.ga⟩
abbrev MkT (AB PB : Nat) (w w' : World) : Prop := Turns (fun k => k = AB ∨ k = PB) w w'
theorem MkT.trans {AB PB : Nat} {w w' w'' : World} (h : MkT AB PB w w') (k : MkT AB PB w' w'') : MkT AB PB w w'' := Turns.trans h (k.wider fun _ hx => .inl hx)
def cm (g : List Bl) (fr : Fr) : List UInt8 := fr.map (iY g)
def ce (g : List Bl) (n : Nat) : ByteArray := ⟨#[an g n]⟩
theorem ez {g : List Bl} (hv : aa g = true) {n : Nat} (hn : n < g.length) : aC g n = ce g n := by rw [am hn, bf hv hn]; rfl
theorem nv {g : List Bl} (hv : aa g = true) {y : Nat} {bs : List Nat} (hy : y < g.length) : ae g (y :: bs) = ce g y ++ ae g bs := by
 show aC g y ++ ae g bs = _
 rw [ez hv hy]
theorem iD (c : UInt8) (s : List UInt8) : (⟨#[c]⟩ : ByteArray) ++ tb s = tb (c :: s) := by
 apply aV; rw [ByteArray.data_append, Array.toList_append, aA, aA]; rfl
theorem EM (a b : List UInt8) : tb a ++ tb b = tb (a ++ b) := by
 apply aV; rw [ByteArray.data_append, Array.toList_append, aA, aA, aA]
theorem sq (X : ByteArray) (c : UInt8) (w : World) (hX : X = ⟨#[c]⟩) (hc : c.toNat ≤ 90) :
  Calls Tryz.prog 145 #[.string X] w fun e w' => e = .returned (.string ⟨#[c + 32]⟩) ∧ Below w.heap.size w w' := by
 have e1 : (c + 32).toNat = c.toNat + 32 := by rw [UInt8.toNat_add]; simp; omega
 have hz : X.size = 1 := by rw [hX]; rfl
 have b0 : (X[0]'(by omega)) = c := by subst hX; rfl
 have hcv : (convert 22 9 (.slice (some ⟨w.heap.size, 0, none⟩) 1 1)).run Tryz.prog (w.alloc (.cells #[.int .u8 ((c.toNat : Int) + 32)] 5)) = .ok (.string ⟨#[c + 32]⟩) (w.alloc (.cells #[.int .u8 ((c.toNat : Int) + 32)] 5)) :=
  run_convert_bytes_back (P := Tryz.prog) (w.alloc (.cells #[.int .u8 ((c.toNat : Int) + 32)] 5)) 22 9 5 ⟨w.heap.size, 0, none⟩ 1 [c + 32] Tryz.underlying22 Tryz.underlying5 Tryz.underlying9 (fun j hj => by
   have hj0 : j = 0 := by simpa using hj
   subst hj0
   have := (Blk.new w 5 #[.int .u8 ((c.toNat : Int) + 32)]).cell 0
   rw [List.getElem_cons_zero, e1]
   exact this)
 have s1 : ((c.toNat : Int) + 32) % 256 = (c.toNat : Int) + 32 := by omega
 have HB := F7 ((Below.refl w.heap.size w).alloc (Nat.le_refl _) (.cells #[.int .u8 ((c.toNat : Int) + 32)] 5))
 clear e1 hX
 go_enter Tryz.func145, Tryz.ntmps145
 go_wp2_with fail
 go_ret
 exact ⟨rfl, HB.out⟩
theorem FH (n : Nat) (h : n ≤ 9) : ((UInt8.ofNat (48 + n)).toNat : Int) = 48 + (n : Int) := by
 rw [UInt8.toNat_ofNat']; omega
theorem pp (n : Nat) (w : World) (hn : n ≤ 9) : (convert 22 9 (.slice (some ⟨w.heap.size, 0, none⟩) 1 1)).run Tryz.prog (w.alloc (.cells #[.int .u8 (48 + (n : Int))] 5)) = .ok (.string ⟨#[UInt8.ofNat (48 + n)]⟩) (w.alloc (.cells #[.int .u8 (48 + (n : Int))] 5)) :=
 run_convert_bytes_back (P := Tryz.prog) (w.alloc (.cells #[.int .u8 (48 + (n : Int))] 5)) 22 9 5 ⟨w.heap.size, 0, none⟩ 1 [UInt8.ofNat (48 + n)] Tryz.underlying22 Tryz.underlying5 Tryz.underlying9 (fun j hj => by
  have hj0 : j = 0 := by simpa using hj
  subst hj0
  have := (Blk.new w 5 #[.int .u8 (48 + (n : Int))]).cell 0
  rw [List.getElem_cons_zero, FH n hn]
  exact this)
theorem qk (n : Nat) (w : World) (hn : n < 100) :
  Calls Tryz.prog 208 #[.int .i64 n] w fun e w' => e = .returned (.string (tb (dW n))) ∧ Below w.heap.size w w' := by
 have g2 : decide ((n : Int) < 0) = false := by simp
 have g3 : decide ((n : Int) < -9223372036854775807) = false := decide_eq_false (by omega)
 by_cases h9 : n ≤ 9
 ·have hcv := pp n w h9
  have g1 : decide ((9 : Int) < n) = false := by simp; omega
  have s1 : IntKind.i64.wrap (48 + (n : Int)) = 48 + (n : Int) := IntWalk.i64_in _ (by omega)
  have s2 : IntKind.u8.wrap (48 + (n : Int)) = 48 + (n : Int) := by
   show (48 + (n : Int)) % 256 = _
   omega
  have s3 : (48 + (n : Int)) % 256 = 48 + (n : Int) := by omega
  have HE := F7 (show tb (dW n) = ⟨#[UInt8.ofNat (48 + n)]⟩ by unfold dW; rw [if_pos (by omega)]; rfl)
  go_enter Tryz.func208, Tryz.ntmps208
  go_wp2_with fail
  go_loop [0, 3] (fun x o => x = .int .i64 n ∧ o = .string ⟨#[]⟩) (fun _ _ => 0)
  case atStart => exact ⟨rfl, rfl⟩
  case round =>
   obtain ⟨rfl, rfl⟩ := hrel
   go_wp2_with fail
   go_ret
   refine ⟨?_, (Below.refl _ w).alloc (Nat.le_refl _) _⟩
   rw [HE.out]
   simp
   rfl
 ·have g1 : decide ((9 : Int) < n) = true := by simp; omega
  obtain ⟨q, hq⟩ : ∃ q, q = n / 10 := ⟨_, rfl⟩
  obtain ⟨r, hr⟩ : ∃ r, r = n % 10 := ⟨_, rfl⟩
  have hq9 : q ≤ 9 := by omega
  have hr9 : r ≤ 9 := by omega
  have d1 : (n : Int) / 10 = (q : Int) := by omega
  have d2 : (n : Int) % 10 = (r : Int) := by omega
  have d3 : (n : Int).tdiv 10 = (q : Int) := by rw [Int.tdiv_eq_ediv_of_nonneg (by omega)]; exact d1
  have d4 : (n : Int).tmod 10 = (r : Int) := by rw [Int.tmod_eq_emod_of_nonneg (by omega)]; exact d2
  have g4 : decide ((9 : Int) < q) = false := by simp; omega
  have s1 : IntKind.i64.wrap (48 + (r : Int)) = 48 + (r : Int) := IntWalk.i64_in _ (by omega)
  have s2 : IntKind.u8.wrap (48 + (r : Int)) = 48 + (r : Int) := by
   show (48 + (r : Int)) % 256 = _
   omega
  have s3 : (48 + (r : Int)) % 256 = 48 + (r : Int) := by omega
  have t1 : IntKind.i64.wrap (48 + (q : Int)) = 48 + (q : Int) := IntWalk.i64_in _ (by omega)
  have t2 : IntKind.u8.wrap (48 + (q : Int)) = 48 + (q : Int) := by
   show (48 + (q : Int)) % 256 = _
   omega
  have t3 : (48 + (q : Int)) % 256 = 48 + (q : Int) := by omega
  have HE := F7 (show tb (dW n) = ⟨#[UInt8.ofNat (48 + q)]⟩ ++ ⟨#[UInt8.ofNat (48 + r)]⟩ by unfold dW; rw [if_neg (by omega), ← hq, ← hr]; rfl)
  clear hq hr
  obtain ⟨RR, hRR⟩ : ∃ RR : ByteArray, RR = ⟨#[UInt8.ofNat (48 + r)]⟩ := ⟨_, rfl⟩
  obtain ⟨QQ, hQQ⟩ : ∃ QQ : ByteArray, QQ = ⟨#[UInt8.ofNat (48 + q)]⟩ := ⟨_, rfl⟩
  have hzr : RR.size = 1 := by rw [hRR]; rfl
  have hzq : QQ.size = 1 := by rw [hQQ]; rfl
  have HCR := F7 (fun W => hRR ▸ pp r W hr9)
  have HCQ := F7 (fun W => hQQ ▸ pp q W hq9)
  rw [← hRR, ← hQQ] at HE
  clear hRR hQQ
  go_enter Tryz.func208, Tryz.ntmps208
  go_wp2_with fail
  go_loopg [0, 3] 1 (fun gk x o wr => (gk = 1 ∧ x = .int .i64 n ∧ o = .string ⟨#[]⟩ ∧ Hid (Below w.heap.size w wr)) ∨ (gk = 0 ∧ x = .int .i64 q ∧ o = .string RR ∧ Hid (Below w.heap.size w wr)))
  case atStart => exact .inl ⟨rfl, rfl, rfl, Below.refl _ _⟩
  case round =>
   rcases hrel with ⟨rfl, rfl, rfl, HB⟩ | ⟨rfl, rfl, rfl, HB⟩
   ·have hcv := HCR.out wr
    have HB2 := F7 (HB.out.alloc HB.out.size (.cells #[.int .u8 (48 + (r : Int))] 5))
    go_wp2_with fail
    go_roundg 0
    case measure => omega
    case rel => exact .inr ⟨rfl, rfl, by congr 1; exact ee _, HB2.out⟩
   ·have hcv := HCQ.out wr
    have HB2 := F7 (HB.out.alloc HB.out.size (.cells #[.int .u8 (48 + (q : Int))] 5))
    go_wp2_with fail
    go_ret
    refine ⟨?_, HB2.out⟩
    rw [HE.out]; rfl
theorem ql {g : List Bl} (hv : aa g = true) {t : Nat} (ht : Rch g [] t) (w : World) :
  Calls Tryz.prog 114 #[.string (ae g (af g)), .int .u8 (an g t).toNat] w fun e w' => e = .returned (.int .i64 (ah g t)) ∧ w = w' := by
 have hs : (ae g (af g)).size ≤ 4611686018427387904 := by
  rw [ax hv _ (be hv)]
  have h1 := bW hv
  have h2 := (ak.1 hv).2.1
  omega
 have h := a7 (ae g (af g)) (an g t) w hs
 rw [sF hv (be hv) ((aD hv).2 ht) (ht.lt hv) (bf hv (ht.lt hv))] at h
 exact h
variable {g : List Bl} {MB AB PB : Nat} {A : Option Addr} {cap : Nat}
def qm (g : List Bl) (ws : List (Nat × Fr)) : List (Nat × List UInt8) := ws.map fun p => (p.1, cm g p.2)
def nw (g : List Bl) (MB AB PB : Nat) (A : Option Addr) (cap : Nat) (m : Nat) : Prop :=
 ∀ (n : Nat) (fr : Fr) (ar pt : Nat → List UInt8) (w : World), Rch g [] n → (af g).length ≤ m + ah g n → InvOut g n fr → OkOut g n fr → Mk w MB AB PB A cap g ar pt →
  Calls Tryz.prog 95 #[.pointer (some ⟨MB, 0, none⟩), .string (ce g n), .string (tb (cm g fr))] w fun e w' =>
   e = .returned (.string (tb (av g m n fr))) ∧ MkT AB PB w w' ∧ Mk w' MB AB PB A cap g (fA ar (qm g (mE g m n fr))) (fA pt (iX g m n fr))
theorem Cr (hv : aa g = true) (hT : ec g) {m : Nat} (hTA : nw g MB AB PB A cap m) (n t : Nat) (fr : Fr) (ar pt : Nat → List UInt8) (w : World) (hn : Rch g [] n) (ht : t ∈ ai g n) (hL : (af g).length ≤ m + 1 + ah g n)
  (hI : InvIn g n [] fr) (hO : OkIn g n [] fr) (hM : Mk w MB AB PB A cap g ar pt) :
  Calls Tryz.prog 181 #[.pointer (some ⟨MB, 0, none⟩), .string (ce g n), .string (ce g t), .string (tb (cm g fr))] w fun e w' =>
   e = .returned (.string (tb (aO g (av g m) n t fr))) ∧ MkT AB PB w w' ∧ Mk w' MB AB PB A cap g (fA ar (qm g (cj g (mE g m) n t fr))) (fA pt (cj g (iX g m) n t fr)) := by
 have htr : Rch g [] t := .step hn ht (by simp)
 have c1 : w.cell? ⟨MB, 1, none⟩ = some (.string (ae g (af g))) := hM.blk.cell 1
 have c2 : w.cell? ⟨MB, 2, none⟩ = some (.string (ae g (aw g))) := hM.blk.cell 2
 have tC1 : ∀ k, Calls Tryz.prog 114 #[.string (ae g (af g)), .int .u8 (an g t).toNat] (w.drewN k) fun e w'' => e = .returned (.int .i64 (ah g t)) ∧ ∃ m, w'' = w.drewN m := fun k => Calls.quiet_of_same ((ql hv htr (w.drewN k)).mono fun _ _ ⟨a, b⟩ => ⟨a, b.symm⟩)
 have tC2 : ∀ k, Calls Tryz.prog 114 #[.string (ae g (af g)), .int .u8 (an g n).toNat] (w.drewN k) fun e w'' => e = .returned (.int .i64 (ah g n)) ∧ ∃ m, w'' = w.drewN m := fun k => Calls.quiet_of_same ((ql hv hn (w.drewN k)).mono fun _ _ ⟨a, b⟩ => ⟨a, b.symm⟩)
 have HM := F7 hM
 have HI := F7 hI
 have HO := F7 hO
 have HL := F7 hL
 have HN := F7 hn
 have HTT := F7 ht
 have HTR := F7 htr
 have HTA := F7 hTA
 have HTM := F7 hT
 have HV := F7 hv
 obtain ⟨X, hX⟩ : ∃ X, X = ce g n := ⟨_, rfl⟩
 obtain ⟨Y, hY⟩ : ∃ Y, Y = ce g t := ⟨_, rfl⟩
 have hzX : X.size = 1 := by rw [hX]; rfl
 have hzY : Y.size = 1 := by rw [hY]; rfl
 have bX : (X[0]'(by omega)) = an g n := by subst hX; rfl
 have bY : (Y[0]'(by omega)) = an g t := by subst hY; rfl
 rw [← bY] at tC1
 rw [← bX] at tC2
 rw [← hX, ← hY]
 have HX := F7 hX
 have HY := F7 hY
 have HBX := F7 bX
 have HBY := F7 bY
 generalize ae g (af g) = ORD at c1 tC1 tC2
 obtain ⟨MTS, hMTS⟩ : ∃ MTS, MTS = ae g (aw g) := ⟨_, rfl⟩
 rw [← hMTS] at c2
 have HMTS := F7 hMTS
 clear hM hI hO hL hn ht htr hTA hT hv hMTS hX hY bX bY
 by_cases hp : ah g n < ah g t
 ·have g1 : decide (ah g t ≤ ah g n) = false := decide_eq_false (by omega)
  have HP := F7 hp
  clear hp
  go_enter Tryz.func181, Tryz.ntmps181
  go_wp2_with fail
  go_quiet (first | with_reducible exact tC1 _ | with_reducible exact tC2 _)
  clear tC1 tC2
  obtain ⟨W1, hW1⟩ : ∃ W1, W1 = w.drewN nq := ⟨_, rfl⟩
  have HB1 := F7 (show Below w.heap.size w W1 by rw [hW1]; exact ab w nq)
  rw [← hW1]
  clear hW1 c1 c2
  have HM1 := F7 (HM.out.below HB1.out)
  have c2 : W1.cell? ⟨MB, 2, none⟩ = some (.string MTS) := by rw [HMTS.out]; exact HM1.out.blk.cell 2
  have hms : MTS.size ≤ 4611686018427387904 := by
   have hml : ∀ i ∈ aw g, i < g.length := fw 2 dx
   rw [HMTS.out, ax HV.out _ hml]
   have h1 : (aw g).length ≤ (aj g).length := iA 2 dx
   have h2 := bS HV.out
   omega
  obtain ⟨x, hx⟩ : ∃ x, x = Lib.indexByte MTS.data.toList (an g t) := ⟨_, rfl⟩
  have hxi : 0 ≤ x ↔ t ∈ aw g := by
   rw [hx, HMTS.out]
   exact bU HV.out (fw 2 dx) (HTR.out.lt HV.out) (bf HV.out (HTR.out.lt HV.out))
  have tC3 : ∀ k, Calls Tryz.prog 114 #[.string MTS, .int .u8 (Y[0]'(by omega)).toNat] (W1.drewN k) fun e w'' => e = .returned (.int .i64 x) ∧ ∃ m, w'' = W1.drewN m := fun k => by
   have h := a7 MTS (Y[0]'(by omega)) (W1.drewN k) hms
   rw [HBY.out, ← hx, ← HBY.out] at h
   exact Calls.quiet_of_same (h.mono fun _ _ ⟨a, b⟩ => ⟨a, b.symm⟩)
  clear hx hms
  by_cases hm : t ∈ aw g
  ·have g3 : ¬ x < 0 := by have := hxi.2 hm; omega
   have HMM := F7 hm
   clear hxi hm
   go_wp2_with fail
   go_quiet (with_reducible exact tC3 _)
   clear tC3
   obtain ⟨W2, hW2⟩ : ∃ W2, W2 = W1.drewN nq := ⟨_, rfl⟩
   have HB2 := F7 (show Below W1.heap.size W1 W2 by rw [hW2]; exact ab W1 nq)
   rw [← hW2]
   clear hW2 c2
   have hfl := HO.out.len HV.out
   have hin := HI.out.fwd HV.out HN.out HTT.out HP.out HMM.out
   have HF : Hid (Calls Tryz.prog 114 #[.string (tb (cm g fr)), .int .u8 (Y[0]'(by omega)).toNat] W2 fun e w' => e = .returned (.int .i64 ((fr.findIdx fun y => decide (y = (t, false)) : Nat) : Int)) ∧ W2 = w') := F7 (by
    have h := a7 (tb (cm g fr)) (Y[0]'(by omega)) W2 (by rw [ay]; unfold cm; rw [List.length_map]; omega)
    rw [HBY.out] at h
    have e := lX HV.out (x := (t, false)) (HTR.out.lt HV.out) (fun e he => (HO.out.2 e he).1) hin
    rw [aA, show an g t = iY g (t, false) from rfl] at h
    unfold cm at h
    rw [e] at h
    rw [HBY.out]
    exact h)
   obtain ⟨ix, hix⟩ : ∃ ix, ix = fr.findIdx fun y => decide (y = (t, false)) := ⟨_, rfl⟩
   rw [← hix] at HF
   have hi1 : ix < 100 := by
    rw [hix]
    have := List.findIdx_le_length (xs := fr) (p := fun y => decide (y = (t, false)))
    omega
   have HIX := F7 hix
   clear hin hix
   go_wp2_with fail
   refine HF.out.mono ?_
   rintro e w3 ⟨rfl, rfl⟩
   have HD := F7 (qk ix W2 hi1)
   go_wp2_with fail
   refine HD.out.mono ?_
   rintro e w4 ⟨rfl, b4⟩
   have hdl := jE ix
   have hz : (tb (dW ix)).size ≤ 2 := by rw [ay]; exact hdl
   have HB4 := F7 b4
   clear b4
   go_wp2_with fail
   go_ret
   have HJW : aO g (av g m) n t fr = 94 :: dW ix := by unfold aO jU; rw [if_pos HP.out, if_pos HMM.out, HIX.out]
   have HJV : ∀ {α : Type} (V : Nat → Fr → List α), cj g V n t fr = [] := fun V => by unfold cj; rw [if_neg fun h => h.2 HMM.out]
   refine ⟨by rw [HJW, ← iD]; rfl, Turns.of_below ((ac (ac HB1.out HB2.out) HB4.out)), ?_⟩
   rw [HJV, HJV]
   exact (HM1.out.below HB2.out).below HB4.out
  ·have g3 : x < 0 := by
    by_cases h : x < 0
    ·exact h
    ·exact absurd (hxi.1 (by omega)) hm
   have hpar := ob HV.out HTM.out hm HN.out HTT.out HP.out
   have HMM := F7 hm
   have HPAR := F7 hpar
   clear hxi hm hpar
   go_wp2_with fail
   go_quiet (with_reducible exact tC3 _)
   clear tC3
   obtain ⟨W2, hW2⟩ : ∃ W2, W2 = W1.drewN nq := ⟨_, rfl⟩
   have HB2 := F7 (show Below W1.heap.size W1 W2 by rw [hW2]; exact ab W1 nq)
   rw [← hW2]
   clear hW2 c2
   have HC := F7 (HTA.out t fr ar pt W2 HTR.out (by have := HL.out; have := HP.out; omega) (HI.out.jump HV.out HTR.out HPAR.out) (HO.out.child HV.out HTR.out HPAR.out) (HM1.out.below HB2.out))
   rw [← HY.out] at HC
   go_wp2_with fail
   refine HC.out.mono ?_
   rintro e w3 ⟨rfl, hT3, hM3⟩
   have HT3 := F7 hT3
   have HM3 := F7 hM3
   clear hT3 hM3
   go_wp2_with fail
   go_ret
   have HJW : aO g (av g m) n t fr = av g m t fr := by unfold aO; rw [if_pos HP.out, if_neg HMM.out]
   have HJV : ∀ {α : Type} (V : Nat → Fr → List α), cj g V n t fr = V t fr := fun V => by unfold cj; rw [if_pos ⟨HP.out, HMM.out⟩]
   refine ⟨by rw [HJW]; rfl, MkT.trans (Turns.of_below (ac HB1.out HB2.out)) HT3.out, ?_⟩
   rw [HJV, HJV]
   exact HM3.out
 ·have g1 : decide (ah g t ≤ ah g n) = true := decide_eq_true (by omega)
  have HP := F7 hp
  clear hp
  have hin := HI.out.back HV.out HTM.out HN.out HTT.out HP.out
  have hfl := HO.out.len HV.out
  obtain ⟨Z, hZ⟩ : ∃ Z : ByteArray, Z = ⟨#[an g t + 32]⟩ := ⟨_, rfl⟩
  have hzZ : Z.size = 1 := by rw [hZ]; rfl
  have bZ : (Z[0]'(by omega)) = an g t + 32 := by subst hZ; rfl
  have HSM := F7 (fun W => by
   have h := sq Y (an g t) W HY.out (gv HV.out (HTR.out.lt HV.out)).2
   rw [← hZ] at h
   exact h)
  have HF : Hid (∀ W2, Calls Tryz.prog 114 #[.string (tb (cm g fr)), .int .u8 (Z[0]'(by omega)).toNat] W2 fun e w' => e = .returned (.int .i64 ((fr.findIdx fun y => decide (y = (t, true)) : Nat) : Int)) ∧ W2 = w') := F7 (fun W2 => by
   have h := a7 (tb (cm g fr)) (Z[0]'(by omega)) W2 (by rw [ay]; unfold cm; rw [List.length_map]; omega)
   rw [bZ] at h
   have e := lX HV.out (x := (t, true)) (HTR.out.lt HV.out) (fun e he => (HO.out.2 e he).1) hin
   rw [aA, show an g t + 32 = iY g (t, true) from rfl] at h
   unfold cm at h
   rw [e] at h
   rw [bZ]
   exact h)
  obtain ⟨ix, hix⟩ : ∃ ix, ix = fr.findIdx fun y => decide (y = (t, true)) := ⟨_, rfl⟩
  rw [← hix] at HF
  have hi1 : ix < 100 := by
   rw [hix]
   have := List.findIdx_le_length (xs := fr) (p := fun y => decide (y = (t, true)))
   omega
  have HIX := F7 hix
  clear hin hix hfl bZ hZ c2
  go_enter Tryz.func181, Tryz.ntmps181
  go_wp2_with fail
  go_quiet (first | with_reducible exact tC1 _ | with_reducible exact tC2 _)
  clear tC1 tC2
  obtain ⟨W1, hW1⟩ : ∃ W1, W1 = w.drewN nq := ⟨_, rfl⟩
  have HB1 := F7 (show Below w.heap.size w W1 by rw [hW1]; exact ab w nq)
  rw [← hW1]
  clear hW1 c1
  have HM1 := F7 (HM.out.below HB1.out)
  go_wp2_with fail
  refine (HSM.out W1).mono ?_
  rintro e w2 ⟨rfl, b2⟩
  have HB2 := F7 b2
  clear b2
  go_wp2_with fail
  refine (HF.out w2).mono ?_
  rintro e w3 ⟨rfl, rfl⟩
  have HD := F7 (qk ix w2 hi1)
  go_wp2_with fail
  refine HD.out.mono ?_
  rintro e w4 ⟨rfl, b4⟩
  have hdl := jE ix
  have hz : (tb (dW ix)).size ≤ 2 := by rw [ay]; exact hdl
  have HB4 := F7 b4
  clear b4
  go_wp2_with fail
  go_ret
  have HJW : aO g (av g m) n t fr = 94 :: dW ix := by unfold aO jU; rw [if_neg HP.out, HIX.out]
  have HJV : ∀ {α : Type} (V : Nat → Fr → List α), cj g V n t fr = [] := fun V => by unfold cj; rw [if_neg fun h => HP.out h.1]
  refine ⟨by rw [HJW, ← iD]; rfl, Turns.of_below ((ac (ac HB1.out HB2.out) HB4.out)), ?_⟩
  rw [HJV, HJV]
  exact (HM1.out.below HB2.out).below HB4.out
theorem qn (g : List Bl) (a b : List (Nat × Fr)) : qm g (a ++ b) = qm g a ++ qm g b := List.map_append
theorem jb {α : Type} {g : List Bl} {V : Nat → Fr → List α} {n : Nat} {fr : Fr} (h : ai g n = []) : fI g V n fr = [] := by unfold fI; rw [h]; rfl
theorem jY {α : Type} {g : List Bl} {V : Nat → Fr → List α} {n t : Nat} {fr : Fr} (h : ai g n = [t]) : fI g V n fr = cj g V n t fr := by unfold fI; rw [h]; simp
theorem jZ {α : Type} {g : List Bl} {V : Nat → Fr → List α} {n t u : Nat} {fr : Fr} (h : ai g n = [t, u]) : fI g V n fr = cj g V n t fr ++ cj g V n u fr := by unfold fI; rw [h]; simp
theorem lY {g : List Bl} {T : Nat → Fr → List UInt8} {n : Nat} {fr : Fr} (h : ai g n = []) : dE g T n fr = [an g n, 46] := by unfold dE; rw [h]
theorem ny {g : List Bl} {T : Nat → Fr → List UInt8} {n t : Nat} {fr : Fr} (h : ai g n = [t]) : dE g T n fr = an g n :: aO g T n t fr := by unfold dE; rw [h]
theorem nz {g : List Bl} {T : Nat → Fr → List UInt8} {n t u : Nat} {fr : Fr} (h : ai g n = [t, u]) : dE g T n fr = 63 :: an g n :: 91 :: (aO g T n t fr ++ 93 :: 91 :: (aO g T n u fr ++ [93])) := by unfold dE; rw [h]
theorem qo (hv : aa g = true) (hT : ec g) {m : Nat} (hTA : nw g MB AB PB A cap m) (n : Nat) (hn : Rch g [] n) (hL : (af g).length ≤ m + 1 + ah g n) (hgn : g.length + aM g ≤ 1048576) :
  ∀ (bs : List Nat) (fr : Fr) (ar pt : Nat → List UInt8) (w : World), bs <:+ aq g n → InvIn g n bs fr → OkIn g n bs fr → Mk w MB AB PB A cap g ar pt →
  Calls Tryz.prog 144 #[.pointer (some ⟨MB, 0, none⟩), .string (ce g n), .string (ae g bs), .string (tb (cm g fr))] w fun e w' =>
   e = .returned (.string (tb (aI g (av g m) n bs fr))) ∧ MkT AB PB w w' ∧ Mk w' MB AB PB A cap g (fA ar (qm g (bm g (mE g m) n bs fr))) (fA pt (bm g (iX g m) n bs fr))
 | [], fr, ar, pt, w, hs, hI, hO, hM => by
  clear hs
  have hl := hn.lt hv
  have hpos : aY g (ce g n) = some n := by rw [← ez hv hl]; exact uj hv hl
  have HNX := F7 (fK A cap g (ce g n) n w hM.gr (by omega) hpos hl)
  rw [yM hv hl] at HNX
  have c0 : w.cell? ⟨MB, 0, none⟩ = some (.slice A g.length cap) := hM.blk.cell 0
  have x0 : (⟨#[]⟩ : ByteArray).toList.isEmpty = true := by rw [Lib.toList_data]; rfl
  have h2 := hU hv hl
  have HJ := F7 (fun t ar pt W (ht : t ∈ ai g n) hM => Cr hv hT hTA n t fr ar pt W hn ht hL hI hO hM)
  have hjs : ∀ t ∈ ai g n, (aO g (av g m) n t fr).length ≤ 416 := fun t ht => wC hv hT (.step hn ht (by simp)) fr
  have HM := F7 hM
  have hnz : (ce g n).size = 1 := rfl
  have hfl := hO.len hv
  have hfz : (tb (cm g fr)).size ≤ 52 := by rw [ay]; unfold cm; rw [List.length_map]; exact hfl
  rw [show aI g (av g m) n [] fr = dE g (av g m) n fr from rfl, show bm g (mE g m) n [] fr = fI g (mE g m) n fr from rfl, show bm g (iX g m) n [] fr = fI g (iX g m) n fr from rfl]
  rw [show ae g [] = ⟨#[]⟩ from rfl]
  match hx : ai g n, h2 with
  | [], _ =>
   rw [hx] at HNX
   rw [lY hx, jb hx, jb hx]
   clear hx HJ hjs hI hO hM hpos hn hT hTA hL h2
   go_enter Tryz.func144, Tryz.ntmps144
   go_wp2_with fail
   refine HNX.out.mono ?_
   rintro e w1 ⟨rfl, b1⟩
   have HB1 := F7 b1
   clear b1
   go_wp2_with fail
   go_ret
   refine ⟨?_, Turns.of_below HB1.out, HM.out.below HB1.out⟩
   have : tb [an g n, 46] = ce g n ++ ⟨#[46]⟩ := by
    apply aV
    simp [tb, ce]
   rw [this]; rfl
  | [t], _ =>
   have HJ1 := F7 (fun W hM => HJ.out t ar pt W (by rw [hx]; simp) hM)
   have hj1 := hjs t (by rw [hx]; simp)
   rw [hx] at HNX
   rw [ny hx, jY hx, jY hx]
   have hjz : (tb (aO g (av g m) n t fr)).size ≤ 416 := by rw [ay]; exact hj1
   obtain ⟨J1, hJ1⟩ : ∃ J1, J1 = aO g (av g m) n t fr := ⟨_, rfl⟩
   rw [← hJ1] at HJ1 hjz ⊢
   clear hx HJ hjs hI hO hM hpos hn hT hTA hL h2 hj1 hJ1
   go_enter Tryz.func144, Tryz.ntmps144
   go_wp2_with fail
   refine HNX.out.mono ?_
   rintro e w1 ⟨rfl, b1⟩
   have HB1 := F7 b1
   have HC1 := F7 (HJ1.out w1 (HM.out.below b1))
   clear b1
   go_wp2_with fail
   refine HC1.out.mono ?_
   rintro e w2 ⟨rfl, hT2, hM2⟩
   have HT2 := F7 hT2
   have HM2 := F7 hM2
   clear hT2 hM2
   go_wp2_with fail
   go_ret
   refine ⟨?_, MkT.trans (Turns.of_below HB1.out) HT2.out, HM2.out⟩
   rw [← iD]; rfl
  | [t, u], _ =>
   have HJ1 := F7 (fun W hM => HJ.out t ar pt W (by rw [hx]; simp) hM)
   have HJ2 := F7 (fun ar pt W hM => HJ.out u ar pt W (by rw [hx]; simp) hM)
   have hj1 := hjs t (by rw [hx]; simp)
   have hj2 := hjs u (by rw [hx]; simp)
   rw [hx] at HNX
   rw [nz hx, jZ hx, jZ hx, qn, ff, ff]
   have hjz : (tb (aO g (av g m) n t fr)).size ≤ 416 := by rw [ay]; exact hj1
   have hjz2 : (tb (aO g (av g m) n u fr)).size ≤ 416 := by rw [ay]; exact hj2
   obtain ⟨J1, hJ1⟩ : ∃ J1, J1 = aO g (av g m) n t fr := ⟨_, rfl⟩
   obtain ⟨J2, hJ2⟩ : ∃ J2, J2 = aO g (av g m) n u fr := ⟨_, rfl⟩
   rw [← hJ1] at HJ1 hjz ⊢
   rw [← hJ2] at HJ2 hjz2 ⊢
   obtain ⟨NX, hNX⟩ : ∃ NX : ByteArray, NX = ⟨([t, u].map (an g)).toArray⟩ := ⟨_, rfl⟩
   rw [← hNX] at HNX
   have e0 : NX.size = 2 := by rw [hNX]; rfl
   have e1 : NX.extract 0 1 = ce g t := by rw [hNX]; rfl
   have e2 : NX.extract 1 2 = ce g u := by rw [hNX]; rfl
   rw [← e1] at HJ1
   rw [← e2] at HJ2
   clear hx HJ hjs hI hO hM hpos hn hT hTA hL h2 hj1 hJ1 hj2 hJ2 e1 e2 hNX
   go_enter Tryz.func144, Tryz.ntmps144
   go_wp2_with fail
   refine HNX.out.mono ?_
   rintro e w1 ⟨rfl, b1⟩
   have HB1 := F7 b1
   have HC1 := F7 (HJ1.out w1 (HM.out.below b1))
   clear b1
   go_wp2_with fail
   refine HC1.out.mono ?_
   rintro e w2 ⟨rfl, hT2, hM2⟩
   have HT2 := F7 hT2
   have HC2 := F7 (HJ2.out _ _ w2 hM2)
   clear hT2 hM2
   go_wp2_with fail
   refine HC2.out.mono ?_
   rintro e w3 ⟨rfl, hT3, hM3⟩
   have HT3 := F7 hT3
   have HM3 := F7 hM3
   clear hT3 hM3
   go_wp2_with fail
   go_ret
   refine ⟨?_, MkT.trans (MkT.trans (Turns.of_below HB1.out) HT2.out) HT3.out, HM3.out⟩
   have : tb (63 :: an g n :: 91 :: (J1 ++ 93 :: 91 :: (J2 ++ [93]))) = (⟨#[63]⟩ : ByteArray) ++ ce g n ++ ⟨#[91]⟩ ++ tb J1 ++ ⟨#[93, 91]⟩ ++ tb J2 ++ ⟨#[93]⟩ := by
    apply aV
    simp [tb, ce]
   rw [this]; rfl
 | y :: bs, fr, ar, pt, w, hs, hI, hO, hM => by
  have hyb : y ∈ aq g n := hs.subset (List.mem_cons_self ..)
  obtain ⟨hy, _, hp⟩ := (dM hv).1 hyb
  have hsrt : (y :: bs).Pairwise fun a b => ah g b < ah g a := (gG hv n).sublist hs.sublist
  have hnb : y ∉ bs := fun h => by have := (List.pairwise_cons.1 hsrt).1 y h; omega
  have hs' : bs <:+ aq g n := (List.suffix_cons y bs).trans hs
  have hpl := eL hv hy hp
  have HIN := F7 (qo hv hT hTA n hn hL hgn bs ((y, false) :: fr) ar pt w hs' hI.wrap (hO.wrap hv hy hp hnb) hM)
  have HCH := F7 (fun ar pt W (hM : Mk W MB AB PB A cap g ar pt) => hTA y fr ar pt W hy (by omega) (hI.child hv hsrt hy hp) (hO.child hv hy hp) hM)
  have ze : (ae g (y :: bs)) = ce g y ++ ae g bs := nv hv (hy.lt hv)
  have z1 := mF hv hT (m := m) hn hs' ((y, false) :: fr)
  have z2 := kw hv hT (m := m) hy fr
  have hfl := hO.len hv
  have hgn26 := (ak.1 hv).2.1
  have hbl : bs.length ≤ 26 := by
   have h1 : (aq g n).length ≤ (af g).length := by unfold aq; rw [List.length_reverse]; exact List.length_filter_le _ _
   have h2 := hs'.sublist.length_le
   have h3 := bW hv
   omega
  have hbz : (ae g bs).size = bs.length := ax hv _ fun i hi => ((dM hv).1 (hs'.subset hi)).1.lt hv
  obtain ⟨BH, hBH⟩ : ∃ BH, BH = ae g (y :: bs) := ⟨_, rfl⟩
  have hz : BH.size = bs.length + 1 := by rw [hBH, ze, ByteArray.size_append, hbz]; show 1 + _ = _; omega
  have x0 : BH.toList.isEmpty = false := by
   have : BH.toList.length = bs.length + 1 := by rw [Lib.toList_data, Array.length_toList]; exact hz
   cases h : BH.toList with
   | nil => rw [h] at this; simp at this
   | cons _ _ => rfl
  have x1 : BH.extract 0 1 = ce g y := by
   rw [hBH, ze]
   apply aV
   rw [← Lib.toList_data, Lib.extract_toList]
   simp [ce]
  have x2 : BH.extract 1 (bs.length + 1) = ae g bs := by
   rw [hBH, ze]
   apply aV
   rw [← Lib.toList_data, Lib.extract_toList]
   have : (ae g bs).data.toList.length = bs.length := by rw [Array.length_toList]; exact hbz
   rw [← this]
   simp [ce]
   exact List.take_of_length_le (by rw [Array.length_toList]; exact Nat.le_refl _)
  have x3 : BH.extract 0 1 ++ tb (cm g fr) = tb (cm g ((y, false) :: fr)) := by
   rw [x1]
   show (⟨#[an g y]⟩ : ByteArray) ++ tb (cm g fr) = _
   rw [iD]; rfl
  rw [← x2, ← x3] at HIN
  have HCH2 : Hid (∀ ar pt W, Mk W MB AB PB A cap g ar pt → Calls Tryz.prog 95 #[.pointer (some ⟨MB, 0, none⟩), .string (BH.extract 0 1), .string (tb (cm g fr))] W fun e w' => e = .returned (.string (tb (av g m y fr))) ∧ MkT AB PB W w' ∧ Mk w' MB AB PB A cap g (fA ar (qm g (mE g m y fr))) (fA pt (iX g m y fr))) := F7 (fun ar pt W hM => by rw [x1]; exact HCH.out ar pt W hM)
  have hfz : (tb (cm g fr)).size ≤ 52 := by rw [ay]; unfold cm; rw [List.length_map]; exact hfl
  have hwz : (tb (aI g (av g m) n bs ((y, false) :: fr))).size ≤ 428 := by rw [ay]; exact z1
  have htz : (tb (av g m y fr)).size ≤ 416 := by rw [ay]; exact z2
  have hez : (BH.extract 0 1).size = 1 := by rw [x1]; rfl
  have HX3 := F7 x3
  rw [← hBH]
  clear HCH x1 x2 x3 hBH ze hbz hsrt hs hs' hI hO hM hp hy hyb hpl hnb z1 z2 hfl hL
  rw [show aI g (av g m) n (y :: bs) fr = 40 :: (aI g (av g m) n bs ((y, false) :: fr) ++ 41 :: av g m y fr) from rfl]
  rw [show bm g (mE g m) n (y :: bs) fr = bm g (mE g m) n bs ((y, false) :: fr) ++ mE g m y fr from rfl, show bm g (iX g m) n (y :: bs) fr = bm g (iX g m) n bs ((y, false) :: fr) ++ iX g m y fr from rfl, qn, ff, ff]
  obtain ⟨W1, hW1⟩ : ∃ W1, W1 = aI g (av g m) n bs ((y, false) :: fr) := ⟨_, rfl⟩
  obtain ⟨T1, hT1⟩ : ∃ T1, T1 = av g m y fr := ⟨_, rfl⟩
  rw [← hW1] at HIN hwz ⊢
  rw [← hT1] at HCH2 htz ⊢
  clear hW1 hT1
  go_enter Tryz.func144, Tryz.ntmps144
  go_wp2_with fail
  refine HIN.out.mono ?_
  rintro e w2 ⟨rfl, hT2, hM2⟩
  have HT2 := F7 hT2
  have HC2 := F7 (HCH2.out _ _ w2 hM2)
  clear hT2 hM2
  go_wp2_with fail
  refine HC2.out.mono ?_
  rintro e w3 ⟨rfl, hT3, hM3⟩
  have HT3 := F7 hT3
  have HM3 := F7 hM3
  clear hT3 hM3
  go_wp2_with fail
  go_ret
  refine ⟨?_, MkT.trans HT2.out HT3.out, HM3.out⟩
  have : tb (40 :: (W1 ++ 41 :: T1)) = (⟨#[40]⟩ : ByteArray) ++ tb W1 ++ ⟨#[41]⟩ ++ tb T1 := by
   apply aV
   simp [tb]
  rw [this]; rfl
def ep (g : List Bl) (n k : Nat) : List Nat := (((af g).drop k).filter fun c => decide (c ∈ aw g) && decide (bB g c = some n)).reverse
theorem yN (g : List Bl) (n : Nat) : ep g n 0 = aq g n := rfl
theorem Aw (g : List Bl) (n : Nat) : ep g n (af g).length = [] := by unfold ep; rw [List.drop_length]; rfl
theorem yO {g : List Bl} {n k : Nat} (hk : k < (af g).length) : ep g n k = ep g n (k + 1) ++ (if (decide ((af g)[k] ∈ aw g) && decide (bB g (af g)[k] = some n)) = true then [(af g)[k]] else []) := by
 unfold ep
 rw [List.drop_eq_getElem_cons hk, List.filter_cons]
 split
 ·rw [List.reverse_cons]
 ·rw [List.append_nil]
theorem uH {g : List Bl} (a : List Nat) (x : Nat) : ae g (a ++ [x]) = ae g a ++ aC g x := by rw [a8, bw]
theorem kZ {w : World} {b o B i : Nat} {v : Value} (h : b ≠ B) : (w.setCell ⟨B, i, none⟩ v).cell? ⟨b, o, none⟩ = w.cell? ⟨b, o, none⟩ := by
 have := Below.heap_setCell w ⟨B, i, none⟩ v b h
 unfold World.cell?
 rw [this]
theorem Gr.set_other {w : World} {A : Option Addr} {g : List Bl} (h : Gr w A g) {B i : Nat} {v : Value} (hA : ∀ b off, A = some ⟨b, off, none⟩ → b ≠ B) : Gr (w.setCell ⟨B, i, none⟩ v) A g := by
 intro hn
 obtain ⟨b, off, e, hb, hc⟩ := h hn
 refine ⟨b, off, e, by simpa using hb, fun k hk => ?_⟩
 rw [kZ (hA b off e), kZ (hA b off e)]
 exact hc k hk
theorem Mk.setA {w : World} {ar pt : Nat → List UInt8} (h : Mk w MB AB PB A cap g ar pt) (n : Nat) (v : List UInt8) : Mk (w.setCell ⟨AB, n, none⟩ (.string (tb v))) MB AB PB A cap g (fun j => if j = n then v else ar j) pt := by
 refine ⟨(Below.heap_setCell _ _ _ _ h.ma).trans h.blk, ?_, (Below.heap_setCell _ _ _ _ (fun e => h.ap e.symm)).trans h.pt, h.gr.set_other fun b off e => (h.ga b off e).1, h.ap, h.ma, h.mp, h.ga⟩
 have := h.ar.set_ n (.string (tb v))
 rw [uG] at this
 exact this
theorem Mk.setP {w : World} {ar pt : Nat → List UInt8} (h : Mk w MB AB PB A cap g ar pt) (n : Nat) (v : List UInt8) : Mk (w.setCell ⟨PB, n, none⟩ (.string (tb v))) MB AB PB A cap g ar (fun j => if j = n then v else pt j) := by
 refine ⟨(Below.heap_setCell _ _ _ _ h.mp).trans h.blk, (Below.heap_setCell _ _ _ _ h.ap).trans h.ar, ?_, h.gr.set_other fun b off e => (h.ga b off e).2, h.ap, h.ma, h.mp, h.ga⟩
 have := h.pt.set_ n (.string (tb v))
 rw [uG] at this
 exact this
theorem Cs {g : List Bl} (hv : aa g = true) {n c : Nat} (hc : Rch g [] c) : bB g c = some n ↔ c ∈ cZ g n := by
 rw [ft hv, cR hv hc]
 exact ⟨fun h => ⟨hc, h⟩, fun h => h.2⟩
theorem Ct (hv : aa g = true) (hT : ec g) (hgn : g.length + aM g ≤ 1048576) {m : Nat} (hTA : nw g MB AB PB A cap m) : nw g MB AB PB A cap (m + 1) := by
 intro n fr ar pt w hn hL hI hO hM
 have hl := hn.lt hv
 have h26 := (ak.1 hv).2.1
 have hpos : aY g (ce g n) = some n := by rw [← ez hv hl]; exact uj hv hl
 have HIX := F7 (fun W (h : Gr W A g) => by have := sw A cap g (ce g n) W h (by omega); rw [hpos] at this; exact this)
 have HKD := F7 (fun W (h : Gr W A g) => rH A cap g (ce g n) n W h hgn hv hl (ez hv hl).symm)
 have hfl := hO.len hv
 have hfz : (tb (cm g fr)).size ≤ 52 := by rw [ay]; unfold cm; rw [List.length_map]; exact hfl
 have HIN := F7 (fun ar pt W (hM : Mk W MB AB PB A cap g ar pt) => qo hv hT hTA n hn (by omega) hgn (aq g n) (bP g n fr) ar pt W (List.suffix_refl _) (InvOut.into hv hI) (OkOut.into hO hl) hM)
 have hwl := mF hv hT (m := m) hn (List.suffix_refl (aq g n)) (bP g n fr)
 have hwz : (tb (aI g (av g m) n (aq g n) (bP g n fr))).size ≤ 428 := by rw [ay]; exact hwl
 have c0 : w.cell? ⟨MB, 0, none⟩ = some (.slice A g.length cap) := hM.blk.cell 0
 have HM := F7 hM
 have HV := F7 hv
 have hli : (n : Int) < (g.length : Int) := by omega
 clear hM hwl hpos hI hO hT hTA
 go_enter Tryz.func95, Tryz.ntmps95
 go_wp2_with fail
 refine (HIX.out w HM.out.gr).mono ?_
 rintro e w1 ⟨rfl, b1⟩
 have HB1 := F7 b1
 have HM1 := F7 (HM.out.below b1)
 have c4 : w1.cell? ⟨MB, 4, none⟩ = some (.slice (some ⟨AB, 0, none⟩) g.length g.length) := HM1.out.blk.cell 4
 have ca : w1.cell? ⟨AB, n, none⟩ = some (.string (tb (ar n))) := by rw [HM1.out.ar.cell n, gX _ hl]
 have fa := HM1.out.ar.frozen n
 clear b1
 rw [show AH (some n) = (n : Int) from rfl]
 obtain ⟨W1, hW1⟩ : ∃ W1, W1 = w1.setCell ⟨AB, n, none⟩ (.string (tb (cm g fr))) := ⟨_, rfl⟩
 have HM2 := F7 (show Mk W1 MB AB PB A cap g (fun j => if j = n then cm g fr else ar j) pt by rw [hW1]; exact HM1.out.setA n (cm g fr))
 have HT1 := F7 (show MkT AB PB w W1 by rw [hW1]; exact MkT.trans (Turns.of_below HB1.out) (Turns.setCell (p := ⟨AB, n, none⟩) (.inl rfl) _))
 have c02 : W1.cell? ⟨MB, 0, none⟩ = some (.slice A g.length cap) := HM2.out.blk.cell 0
 have HW1 := F7 hW1
 have c02' : (w1.setCell ⟨AB, n, none⟩ (.string (tb (cm g fr)))).cell? ⟨MB, 0, none⟩ = some (.slice A g.length cap) := by rw [← hW1]; exact c02
 clear hW1 c0
 go_wp2_with fail
 rw [← HW1.out]
 refine (HKD.out W1 HM2.out.gr).mono ?_
 rintro e w2 ⟨rfl, b2⟩
 have HB2 := F7 b2
 clear b2 c02 c02' c4 ca fa
 have c1 : w2.cell? ⟨MB, 1, none⟩ = some (.string (ae g (af g))) := (HM2.out.below HB2.out).blk.cell 1
 have hol : ∀ i ∈ af g, i < g.length := be HV.out
 have hzO : (ae g (af g)).size = (af g).length := ax HV.out _ hol
 have hL26 : (af g).length ≤ 26 := by have := bW HV.out; omega
 have hkz : (ae g (cZ g n)).size ≤ 4611686018427387904 := by
  rw [ax HV.out _ (xg HV.out)]
  have h1 : (cZ g n).length ≤ (aj g).length := List.length_filter_le _ _
  have h2 := bS HV.out
  omega
 have hmz : (ae g (aw g)).size ≤ 4611686018427387904 := by
  have hml : ∀ i ∈ aw g, i < g.length := fw 2 dx
  rw [ax HV.out _ hml]
  have h1 : (aw g).length ≤ (aj g).length := iA 2 dx
  have h2 := bS HV.out
  omega
 obtain ⟨ORD, hORD⟩ : ∃ ORD, ORD = ae g (af g) := ⟨_, rfl⟩
 obtain ⟨KDS, hKDS⟩ : ∃ KDS, KDS = ae g (cZ g n) := ⟨_, rfl⟩
 obtain ⟨MTS, hMTS⟩ : ∃ MTS, MTS = ae g (aw g) := ⟨_, rfl⟩
 rw [← hORD] at c1 hzO
 rw [← hKDS] at hkz ⊢
 rw [← hMTS] at hmz
 have HORD := F7 hORD
 have HKDS := F7 hKDS
 have HMTS := F7 hMTS
 have HKZ := F7 hkz
 have HMZ := F7 hmz
 have HOL := F7 hol
 clear hORD hKDS hMTS hkz hmz hol
 go_wp2_with fail
 go_loopw [9, 10] (fun bv kv wr => ∃ k : Nat, k ≤ (af g).length ∧ kv = .int .i64 ((k : Int) - 1) ∧ bv = .string (ae g (ep g n k)) ∧ Hid (Below w2.heap.size w2 wr)) (fun _ kv _ => (intOf kv + 1).toNat)
 case atStart =>
  refine ⟨(af g).length, Nat.le_refl _, ?_, ?_, Below.refl _ _⟩
  ·first | rfl | (congr 1; omega) | go_num
  ·rw [Aw]; rfl
 case round =>
  obtain ⟨k, hk, rfl, rfl, HB⟩ := hrel
  cases k with
  | zero =>
   have g0 : decide ((0 : Int) ≤ ((0 : Nat) : Int) - 1) = false := by decide
   rw [yN]
   go_wp2_with fail
   have hHl : ∀ i ∈ aS g, i < g.length := fw 1 bu
   obtain ⟨HDS, hHDS⟩ : ∃ HDS, HDS = ae g (aS g) := ⟨_, rfl⟩
   have hhz : HDS.size ≤ 4611686018427387904 := by
    rw [hHDS, ax HV.out _ hHl]
    have := p4 HV.out
    omega
   have HMr := F7 ((HM2.out.below HB2.out).below HB.out)
   have c3r : wr.cell? ⟨MB, 3, none⟩ = some (.string HDS) := by rw [hHDS]; exact HMr.out.blk.cell 3
   obtain ⟨X, hX⟩ : ∃ X, X = ce g n := ⟨_, rfl⟩
   have hXz : X.size = 1 := by rw [hX]; rfl
   have bX : (X[0]'(by omega)) = an g n := by subst hX; rfl
   obtain ⟨x3, hx3⟩ : ∃ x3, x3 = Lib.indexByte HDS.data.toList (an g n) := ⟨_, rfl⟩
   have hi3 : 0 ≤ x3 ↔ n ∈ aS g := by rw [hx3, hHDS]; exact bU HV.out hHl hl (bf HV.out hl)
   have tC3 : ∀ k, Calls Tryz.prog 114 #[.string HDS, .int .u8 (X[0]'(by omega)).toNat] (wr.drewN k) fun e w'' => e = .returned (.int .i64 x3) ∧ ∃ m, w'' = wr.drewN m := fun k => by
    have h := a7 HDS (X[0]'(by omega)) (wr.drewN k) hhz
    rw [bX, ← hx3, ← bX] at h
    exact Calls.quiet_of_same (h.mono fun _ _ ⟨a, b⟩ => ⟨a, b.symm⟩)
   rw [← hX] at HIN ⊢
   have HXX := F7 hX
   clear hx3 hHDS hHl hhz hX bX
   by_cases hh : n ∈ aS g
   ·have y1 : 0 ≤ x3 := hi3.2 hh
    have HHH := F7 hh
    clear hi3 hh
    go_wp2_with fail
    go_quiet (with_reducible exact tC3 _)
    clear tC3
    obtain ⟨W5, hW5⟩ : ∃ W5, W5 = wr.drewN nq := ⟨_, rfl⟩
    have HB5 := F7 (show Below wr.heap.size wr W5 by rw [hW5]; exact ab wr nq)
    rw [← hW5]
    clear hW5 c3r
    have HSM := F7 (sq X (an g n) W5 HXX.out (gv HV.out hl).2)
    go_wp2_with fail
    refine HSM.out.mono ?_
    rintro e w6 ⟨rfl, b6⟩
    have HB6 := F7 b6
    clear b6
    have HM6 := F7 ((HMr.out.below HB5.out).below HB6.out)
    have e1 : tb (cm g (bP g n fr)) = (⟨#[an g n + 32]⟩ : ByteArray) ++ tb (cm g fr) := by
     rw [iD]; unfold bP; rw [if_pos HHH.out]; rfl
    rw [e1] at HIN
    have HRT := F7 (show av g (m + 1) n fr = 123 :: (aI g (av g m) n (aq g n) (bP g n fr) ++ [125]) by
     rw [av, if_pos HHH.out]; unfold bP; rw [if_pos HHH.out])
    obtain ⟨WW, hWW⟩ : ∃ WW, WW = aI g (av g m) n (aq g n) (bP g n fr) := ⟨_, rfl⟩
    rw [← hWW] at HIN HRT hwz
    have HC6 := F7 (HIN.out _ _ w6 HM6.out)
    clear hWW e1 HIN
    go_wp2_with fail
    refine HC6.out.mono ?_
    rintro e w7 ⟨rfl, hT7, hM7⟩
    have HT7 := F7 hT7
    have HM7 := F7 hM7
    have c5 : w7.cell? ⟨MB, 5, none⟩ = some (.slice (some ⟨PB, 0, none⟩) g.length g.length) := hM7.blk.cell 5
    have cp : ∃ z, w7.cell? ⟨PB, n, none⟩ = some (.string z) := ⟨_, by rw [hM7.pt.cell n, gX _ hl]⟩
    obtain ⟨z, cp⟩ := cp
    have fp := hM7.pt.frozen n
    clear hT7 hM7
    go_wp2_with fail
    go_ret
    have HTB := F7 (show (⟨#[123]⟩ : ByteArray) ++ tb WW ++ ⟨#[125]⟩ = tb (av g (m + 1) n fr) by
     rw [HRT.out]; apply aV; simp [tb])
    refine ⟨?_, ?_, ?_⟩
    ·rw [← HTB.out]; rfl
    ·refine MkT.trans HT1.out (MkT.trans (Turns.of_below (((HB2.out.trans (HB.out.mono HB2.out.size)).trans (HB5.out.mono (Nat.le_trans HB2.out.size HB.out.size))).trans (HB6.out.mono (Nat.le_trans (Nat.le_trans HB2.out.size HB.out.size) HB5.out.size)))) (MkT.trans HT7.out (Turns.setCell (p := ⟨PB, n, none⟩) (.inr rfl) _)))
    ·rw [HTB.out]
     have := HM7.out.setP n (av g (m + 1) n fr)
     rw [show iX g (m + 1) n fr = bm g (iX g m) n (aq g n) (bP g n fr) ++ [(n, av g (m + 1) n fr)] from rfl, ff, uF]
     exact this
   ·have y1 : x3 < 0 := by
     by_cases h : x3 < 0
     ·exact h
     ·exact absurd (hi3.1 (by omega)) hh
    have y3 : decide ((0 : Int) ≤ x3) = false := decide_eq_false (by omega)
    have y4 : ¬ (0 : Int) ≤ x3 := by omega
    have HHH := F7 hh
    clear hi3 hh y1
    go_wp2_with fail
    go_quiet (with_reducible exact tC3 _)
    clear tC3
    obtain ⟨W5, hW5⟩ : ∃ W5, W5 = wr.drewN nq := ⟨_, rfl⟩
    have HB5 := F7 (show Below wr.heap.size wr W5 by rw [hW5]; exact ab wr nq)
    rw [← hW5]
    clear hW5 c3r
    have HM6 := F7 (HMr.out.below HB5.out)
    have e1 : tb (cm g (bP g n fr)) = tb (cm g fr) := by
     unfold bP; rw [if_neg HHH.out]
    rw [e1] at HIN
    have HRT := F7 (show aI g (av g m) n (aq g n) (bP g n fr) = av g (m + 1) n fr by
     rw [av, if_neg HHH.out]; unfold bP; rw [if_neg HHH.out])
    obtain ⟨WW, hWW⟩ : ∃ WW, WW = aI g (av g m) n (aq g n) (bP g n fr) := ⟨_, rfl⟩
    rw [← hWW] at HIN HRT hwz
    have HC6 := F7 (HIN.out _ _ W5 HM6.out)
    clear hWW e1 HIN
    go_wp2_with fail
    refine HC6.out.mono ?_
    rintro e w7 ⟨rfl, hT7, hM7⟩
    have HT7 := F7 hT7
    have HM7 := F7 hM7
    have c5 : w7.cell? ⟨MB, 5, none⟩ = some (.slice (some ⟨PB, 0, none⟩) g.length g.length) := hM7.blk.cell 5
    have cp : ∃ z, w7.cell? ⟨PB, n, none⟩ = some (.string z) := ⟨_, by rw [hM7.pt.cell n, gX _ hl]⟩
    obtain ⟨z, cp⟩ := cp
    have fp := hM7.pt.frozen n
    clear hT7 hM7
    go_wp2_with fail
    go_ret
    refine ⟨?_, ?_, ?_⟩
    ·rw [HRT.out]; rfl
    ·refine MkT.trans HT1.out (MkT.trans (Turns.of_below ((HB2.out.trans (HB.out.mono HB2.out.size)).trans (HB5.out.mono (Nat.le_trans HB2.out.size HB.out.size)))) (MkT.trans HT7.out (Turns.setCell (p := ⟨PB, n, none⟩) (.inr rfl) _)))
    ·rw [HRT.out]
     have := HM7.out.setP n (av g (m + 1) n fr)
     rw [show iX g (m + 1) n fr = bm g (iX g m) n (aq g n) (bP g n fr) ++ [(n, av g (m + 1) n fr)] from rfl, ff, uF]
     exact this
  | succ j =>
   have ej : ((j + 1 : Nat) : Int) - 1 = (j : Int) := by omega
   rw [ej]
   have c1r : wr.cell? ⟨MB, 1, none⟩ = some (.string ORD) := (HB.out.cell (p := ⟨MB, 1, none⟩) (HM2.out.below HB2.out).blk.lt).trans c1
   have c2r : wr.cell? ⟨MB, 2, none⟩ = some (.string MTS) := by rw [HMTS.out]; exact ((HM2.out.below HB2.out).below HB.out).blk.cell 2
   obtain ⟨c, hc⟩ : ∃ c, c = (af g)[j] := ⟨_, rfl⟩
   have hcr : Rch g [] c := (aD HV.out).1 (by rw [hc]; exact List.getElem_mem _)
   have hcl := hcr.lt HV.out
   obtain ⟨C, hC⟩ : ∃ C, C = ORD.extract j (j + 1) := ⟨_, rfl⟩
   have hCn : C = ce g c := by rw [hC, HORD.out, ui HV.out HOL.out (by omega), ← hc, ez HV.out hcl]
   have hCz : C.size = 1 := by rw [hCn]; rfl
   have bC : (C[0]'(by omega)) = an g c := by subst hCn; rfl
   obtain ⟨x1, hx1⟩ : ∃ x1, x1 = Lib.indexByte KDS.data.toList (an g c) := ⟨_, rfl⟩
   obtain ⟨x2, hx2⟩ : ∃ x2, x2 = Lib.indexByte MTS.data.toList (an g c) := ⟨_, rfl⟩
   have hi1 : 0 ≤ x1 ↔ c ∈ cZ g n := by rw [hx1, HKDS.out]; exact bU HV.out (xg HV.out) hcl (bf HV.out hcl)
   have hi2 : 0 ≤ x2 ↔ c ∈ aw g := by rw [hx2, HMTS.out]; exact bU HV.out (fw 2 dx) hcl (bf HV.out hcl)
   have tC1 : ∀ k, Calls Tryz.prog 114 #[.string KDS, .int .u8 (C[0]'(by omega)).toNat] (wr.drewN k) fun e w'' => e = .returned (.int .i64 x1) ∧ ∃ m, w'' = wr.drewN m := fun k => by
    have h := a7 KDS (C[0]'(by omega)) (wr.drewN k) HKZ.out
    rw [bC, ← hx1, ← bC] at h
    exact Calls.quiet_of_same (h.mono fun _ _ ⟨a, b⟩ => ⟨a, b.symm⟩)
   have tC2 : ∀ k, Calls Tryz.prog 114 #[.string MTS, .int .u8 (C[0]'(by omega)).toNat] (wr.drewN k) fun e w'' => e = .returned (.int .i64 x2) ∧ ∃ m, w'' = wr.drewN m := fun k => by
    have h := a7 MTS (C[0]'(by omega)) (wr.drewN k) HMZ.out
    rw [bC, ← hx2, ← bC] at h
    exact Calls.quiet_of_same (h.mono fun _ _ ⟨a, b⟩ => ⟨a, b.symm⟩)
   have hst := yO (g := g) (n := n) (k := j) (by omega)
   rw [← hc] at hst
   have hpk := Cs HV.out (n := n) hcr
   have hbz : (ae g (ep g n (j + 1))).size ≤ 26 := by
    have hbl : ∀ i ∈ ep g n (j + 1), i < g.length := fun i hi => by
     unfold ep at hi
     rw [List.mem_reverse] at hi
     exact HOL.out i (List.drop_subset _ _ (List.mem_filter.1 hi).1)
    rw [ax HV.out _ hbl]
    unfold ep
    rw [List.length_reverse]
    refine Nat.le_trans (List.length_filter_le _ _) ?_
    rw [List.length_drop]; omega
   have HCN := F7 hCn
   have hjI : (j : Int) + 1 ≤ (af g).length := by omega
   have hj0 : (0 : Int) ≤ (j : Int) := by omega
   have s1 : IntKind.i64.wrap ((j : Int) + 1) = (j : Int) + 1 := IntWalk.i64_in _ (by omega)
   have s2 : ((j : Int) + 1).toNat = j + 1 := by omega
   have HHC := F7 hC
   have hCr : ORD.extract j (j + 1) = C := hC.symm
   clear hx1 hx2 hc hCn bC hC
   by_cases h1 : c ∈ cZ g n
   ·have y1 : 0 ≤ x1 := hi1.2 h1
    by_cases h2 : c ∈ aw g
    ·have y2 : 0 ≤ x2 := hi2.2 h2
     have HST := F7 (show ae g (ep g n j) = ae g (ep g n (j + 1)) ++ C by
      rw [hst, if_pos (by rw [Bool.and_eq_true, decide_eq_true_iff, decide_eq_true_iff]; exact ⟨h2, hpk.2 h1⟩), uH, ez HV.out hcl, HCN.out])
     clear hi1 hi2 h1 h2 hst hpk
     go_wp2_with fail
     go_quiet (first | with_reducible exact tC1 _ | with_reducible exact tC2 _)
     clear tC1 tC2
     go_wp2_with fail
     go_roundw
     case measure => simp [intOf]
     case rel => exact ⟨j, by omega, by go_num, by rw [HST.out], HB.out.trans ((ab _ nq).mono HB.out.size)⟩
    ·have y2 : x2 < 0 := by
      by_cases h : x2 < 0
      ·exact h
      ·exact absurd (hi2.1 (by omega)) h2
     have HST := F7 (show ae g (ep g n j) = ae g (ep g n (j + 1)) by
      rw [hst, if_neg (by rw [Bool.and_eq_true, decide_eq_true_iff]; exact fun h => h2 h.1), List.append_nil])
     clear hi1 hi2 h1 h2 hst hpk
     go_wp2_with fail
     go_quiet (first | with_reducible exact tC1 _ | with_reducible exact tC2 _)
     clear tC1 tC2
     go_wp2_with fail
     go_roundw
     case measure => simp [intOf]
     case rel => exact ⟨j, by omega, by go_num, by rw [HST.out], HB.out.trans ((ab _ nq).mono HB.out.size)⟩
   ·have y1 : x1 < 0 := by
     by_cases h : x1 < 0
     ·exact h
     ·exact absurd (hi1.1 (by omega)) h1
    have y3 : decide ((0 : Int) ≤ x1) = false := decide_eq_false (by omega)
    have y4 : ¬ (0 : Int) ≤ x1 := by omega
    clear y1
    have HST := F7 (show ae g (ep g n j) = ae g (ep g n (j + 1)) by
     rw [hst, if_neg (by rw [Bool.and_eq_true, decide_eq_true_iff, decide_eq_true_iff]; exact fun h => h1 (hpk.1 h.2)), List.append_nil])
    clear hi1 hi2 h1 hst hpk
    go_wp2_with fail
    go_quiet (first | with_reducible exact tC1 _ | with_reducible exact tC2 _)
    clear tC1 tC2
    go_wp2_with fail
    go_roundw
    case measure => simp [intOf]
    case rel => exact ⟨j, by omega, by go_num, by rw [HST.out], HB.out.trans ((ab _ nq).mono HB.out.size)⟩
theorem uI (hv : aa g = true) (hT : ec g) (hgn : g.length + aM g ≤ 1048576) : ∀ m, nw g MB AB PB A cap m
 | 0 => fun n fr ar pt w hn hL hI hO hM => absurd hL (by have := lK hv hn; omega)
 | m + 1 => Ct hv hT hgn (uI hv hT hgn m)
end Go.Proofs.YtlkfakdghjaoaaaGreatDoor
