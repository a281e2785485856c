import Derived.Test.YtlkfakdghjaoaaaGreatDoorSpecBack
import Derived.Test.YtlkfakdghjaoaaaGreatDoorJ2
set_option maxRecDepth 100000
set_option maxHeartbeats 6400000
namespace Go.Proofs.YtlkfakdghjaoaaaGreatDoor
open Go.RowKit Go.Sort
def ew (g : List Bl) : Prop := ∀ i t, Rch g [] i → t ∈ ai g i → ah g i < ah g t ∨ Dm g t i
theorem lJ {g : List Bl} (hv : aa g = true) (h : (bw g dj).length = 0) : ew g := by
 intro i t hi ht
 by_cases hp : ah g i < ah g t
 ·exact .inl hp
 ·cases hd : bU g t i with
  | true => exact .inr ((fw hv).1 hd)
  | false =>
   have : (i, t) ∈ bw g dj := (kx hv).2 ⟨hi, ht, by show dj (aG g i t) = true; rw [sQ hp hd]; rfl⟩
   rw [List.eq_nil_of_length_eq_zero h] at this
   cases this
theorem yz {g : List Bl} {i t : Nat} : bD (aG g i t) = true ↔ ah g i < ah g t := by
 unfold bD
 rw [beq_iff_eq]
 by_cases h : ah g i < ah g t
 ·exact ⟨fun _ => h, fun _ => gL h⟩
 ·refine ⟨fun e => ?_, fun h' => absurd h' h⟩
  exact absurd e (kw.2 (by omega))
theorem EJ {l : List Nat} {a b : Nat} (ha : a ∈ l) (hb : b ∈ l) (h : a ≠ b) : 2 ≤ l.length := by
 match l, ha, hb with
 | [x], ha, hb => rw [List.mem_singleton] at ha hb; exact absurd (ha.trans hb.symm) h
 | _ :: _ :: _, _, _ => simp
theorem EK {g : List Bl} (hv : aa g = true) {n i t : Nat} (ht : t ∉ ak g) (hn : Rch g [] n) (h1 : t ∈ ai g n) (h2 : ah g n < ah g t) (hi : Rch g [] i) (h3 : t ∈ ai g i) (h4 : ah g i < ah g t) : i = n := by
 refine Decidable.byContradiction fun hne => ht ?_
 unfold ak fL
 rw [List.mem_filter, aU hv, decide_eq_true_iff]
 exact ⟨.step hn h1 (by simp), EJ ((gM hv).2 ⟨hi, h3, yz.2 h4⟩) ((gM hv).2 ⟨hn, h1, yz.2 h2⟩) hne⟩
theorem oH {g : List Bl} (hv : aa g = true) (hT : ew g) {n t : Nat} (ht : t ∉ ak g) (hn : Rch g [] n) (h1 : t ∈ ai g n) (h2 : ah g n < ah g t) : dK g n t := by
 have h0 : t ≠ 0 := fun e => by rw [e, iQ hv] at h2; omega
 have hno : ∀ x, Rch g [n] x → x ≠ t ∧ ¬ Dm g t x := by
  intro x hx
  induction hx with
  | start ha => exact ⟨fun e => h0 e.symm, fun h => h0 (Dm.of_entry h)⟩
  | @step i x h hnx ha ih =>
   have hio : i ≠ n := fun e => h.out (by rw [e]; simp)
   have hir : Rch g [] i := h.free
   have key : x ≠ t := fun e => by
    subst e
    rcases hT i x hir hnx with h5 | h5
    ·exact hio (EK hv ht hn h1 h2 hir hnx h5)
    ·exact ih.2 h5
   refine ⟨key, fun hd => ?_⟩
   rcases hd.back hnx with e | e
   ·exact key e.symm
   ·exact ih.2 e
 have hd : Dm g n t := .inr fun h => (hno t h).1 rfl
 refine ⟨fun e => by rw [e] at h2; omega, hn, fun a => ⟨fun ha => ?_, fun ha => ?_⟩⟩
 ·rcases ha.back h1 with e | e
  ·exact .inl e
  ·exact .inr e
 ·rcases ha with rfl | ha
  ·exact .refl g a
  ·exact ha.trans hd
theorem gT {g : List Bl} {p n : Nat} (h : dK g p n) : Dm g p n := (h.2.2 p).2 (.inr (.refl g p))
theorem eY {g : List Bl} (hv : aa g = true) {p n : Nat} (hn : Rch g [] n) (h : dK g p n) : ah g p < ah g n := nH hv hn (gT h) h.1
abbrev Fr := List (Nat × Bool)
def aq (g : List Bl) (n : Nat) : List Nat := ((ac g).filter fun c => decide (c ∈ ak g) && decide (bF g c = some n)).reverse
theorem dY {g : List Bl} (hv : aa g = true) {n c : Nat} : c ∈ aq g n ↔ Rch g [] c ∧ c ∈ ak g ∧ dK g n c := by
 unfold aq
 rw [List.mem_reverse, List.mem_filter, aA hv, Bool.and_eq_true, decide_eq_true_iff, decide_eq_true_iff]
 constructor
 ·rintro ⟨h1, h2, h3⟩; exact ⟨h1, h2, (db hv h1).1 h3⟩
 ·rintro ⟨h1, h2, h3⟩; exact ⟨h1, h2, (db hv h1).2 h3⟩
theorem vD {g : List Bl} (hv : aa g = true) : (ac g).Pairwise fun a b => ah g a < ah g b := by
 rw [List.pairwise_iff_getElem]
 intro i j hi hj hij
 unfold ah
 rw [jC (aZ hv) hi, jC (aZ hv) hj]
 exact hij
theorem ij {g : List Bl} (hv : aa g = true) (n : Nat) : (aq g n).Pairwise fun a b => ah g b < ah g a := by
 unfold aq
 rw [List.pairwise_reverse]
 exact (vD hv).filter _
def InvIn (g : List Bl) (n : Nat) (bs : List Nat) (fr : Fr) : Prop :=
 (∀ h ∈ aL g, Dm g h n → (h, true) ∈ fr) ∧
 ∀ t ∈ ak g, ∀ p, dK g p t → Dm g p n → ah g n < ah g t → (p = n ∧ t ∈ bs) ∨ (t, false) ∈ fr
def InvOut (g : List Bl) (n : Nat) (fr : Fr) : Prop :=
 (∀ h ∈ aL g, Dm g h n → h ≠ n → (h, true) ∈ fr) ∧
 ∀ t ∈ ak g, ∀ p, dK g p t → Dm g p n → p ≠ n → ah g n < ah g t → (t, false) ∈ fr
theorem kh (g : List Bl) : InvOut g 0 [] :=
 ⟨fun _ _ hd hne => absurd hd.of_entry hne, fun _ _ _ _ hd hne _ => absurd hd.of_entry hne⟩
theorem jG {g : List Bl} (hv : aa g = true) {t : Nat} (h : t ∈ ak g) : Rch g [] t := by
 unfold ak fL at h
 exact (aU hv).1 (List.mem_filter.1 h).1
theorem InvOut.into {g : List Bl} (hv : aa g = true) {n : Nat} {fr : Fr} (h : InvOut g n fr) : InvIn g n (aq g n) (if n ∈ aL g then (n, true) :: fr else fr) := by
 have up : ∀ x, x ∈ fr → x ∈ (if n ∈ aL g then (n, true) :: fr else fr) := fun x hx => by split; exact List.mem_cons_of_mem _ hx; exact hx
 refine ⟨fun k hk hd => ?_, fun t ht p hp hd hl => ?_⟩
 ·by_cases e : k = n
  ·subst e; rw [if_pos hk]; exact List.mem_cons_self ..
  ·exact up _ (h.1 k hk hd e)
 ·by_cases e : p = n
  ·subst e; exact .inl ⟨rfl, (dY hv).2 ⟨jG hv ht, ht, hp⟩⟩
  ·exact .inr (up _ (h.2 t ht p hp hd e hl))
theorem InvIn.wrap {g : List Bl} {n y : Nat} {bs : List Nat} {fr : Fr} (h : InvIn g n (y :: bs) fr) : InvIn g n bs ((y, false) :: fr) := by
 refine ⟨fun k hk hd => List.mem_cons_of_mem _ (h.1 k hk hd), fun t ht p hp hd hl => ?_⟩
 rcases h.2 t ht p hp hd hl with ⟨e, hm⟩ | hm
 ·rcases List.mem_cons.1 hm with e2 | e2
  ·exact .inr (by rw [e2]; exact List.mem_cons_self ..)
  ·exact .inl ⟨e, e2⟩
 ·exact .inr (List.mem_cons_of_mem _ hm)
theorem InvIn.child {g : List Bl} (hv : aa g = true) {n y : Nat} {bs : List Nat} {fr : Fr} (h : InvIn g n (y :: bs) fr) (hs : (y :: bs).Pairwise fun a b => ah g b < ah g a) (hy : Rch g [] y) (hp : dK g n y) : InvOut g y fr := by
 have hpl := eY hv hy hp
 refine ⟨fun k hk hd hne => h.1 k hk (((hp.2.2 k).1 hd).resolve_left hne), fun t ht p hpt hd hne hl => ?_⟩
 rcases h.2 t ht p hpt (((hp.2.2 p).1 hd).resolve_left hne) (by omega) with ⟨_, hm⟩ | hm
 ·exfalso
  rcases List.mem_cons.1 hm with e2 | e2
  ·rw [e2] at hl; omega
  ·have := (List.pairwise_cons.1 hs).1 t e2; omega
 ·exact hm
theorem InvIn.jump {g : List Bl} (hv : aa g = true) {n t : Nat} {fr : Fr} (h : InvIn g n [] fr) (ht : Rch g [] t) (hp : dK g n t) : InvOut g t fr := by
 have hpl := eY hv ht hp
 refine ⟨fun k hk hd hne => h.1 k hk (((hp.2.2 k).1 hd).resolve_left hne), fun t' ht' p hpt hd hne hl => ?_⟩
 rcases h.2 t' ht' p hpt (((hp.2.2 p).1 hd).resolve_left hne) (by omega) with ⟨_, hm⟩ | hm
 ·cases hm
 ·exact hm
theorem InvIn.back {g : List Bl} (hv : aa g = true) (hT : ew g) {n t : Nat} {fr : Fr} (h : InvIn g n [] fr) (hn : Rch g [] n) (ht : t ∈ ai g n) (hl : ¬ ah g n < ah g t) : (t, true) ∈ fr := by
 refine h.1 t ((sR hv).2 ⟨.step hn ht (by simp), n, hn, ht, ?_⟩) ((hT n t hn ht).resolve_left hl)
 rw [jD, decide_eq_true_iff]; omega
theorem InvIn.fwd {g : List Bl} (hv : aa g = true) {n t : Nat} {fr : Fr} (h : InvIn g n [] fr) (hn : Rch g [] n) (ht : t ∈ ai g n) (hl : ah g n < ah g t) (hm : t ∈ ak g) : (t, false) ∈ fr := by
 have hr : Rch g [] t := .step hn ht (by simp)
 have h0 : t ≠ 0 := fun e => by rw [e, iQ hv] at hl; omega
 obtain ⟨p, hp⟩ := iA hv hr h0
 have hd : Dm g p n := ((gT hp).back ht).resolve_left hp.1
 rcases h.2 t hm p hp hd hl with ⟨_, h⟩ | h
 ·cases h
 ·exact h
def OkOut (g : List Bl) (n : Nat) (fr : Fr) : Prop :=
 fr.Nodup ∧ ∀ e ∈ fr, e.1 < g.length ∧ (e.2 = true → Dm g e.1 n ∧ e.1 ≠ n) ∧ (e.2 = false → ∃ p, dK g p e.1 ∧ Dm g p n ∧ p ≠ n)
def OkIn (g : List Bl) (n : Nat) (bs : List Nat) (fr : Fr) : Prop :=
 fr.Nodup ∧ ∀ e ∈ fr, e.1 < g.length ∧ (e.2 = true → Dm g e.1 n) ∧ (e.2 = false → ∃ p, dK g p e.1 ∧ Dm g p n ∧ (p = n → e.1 ∉ bs))
theorem lg (g : List Bl) : OkOut g 0 [] := ⟨List.nodup_nil, fun _ h => by cases h⟩
theorem OkOut.into {g : List Bl} {n : Nat} {fr : Fr} (h : OkOut g n fr) (hn : n < g.length) : OkIn g n (aq g n) (if n ∈ aL g then (n, true) :: fr else fr) := by
 have old : ∀ e ∈ fr, e.1 < g.length ∧ (e.2 = true → Dm g e.1 n) ∧ (e.2 = false → ∃ p, dK g p e.1 ∧ Dm g p n ∧ (p = n → e.1 ∉ aq g n)) := by
  intro e he
  obtain ⟨h1, h2, h3⟩ := h.2 e he
  refine ⟨h1, fun hb => (h2 hb).1, fun hb => ?_⟩
  obtain ⟨p, h4, h5, h6⟩ := h3 hb
  exact ⟨p, h4, h5, fun e => absurd e h6⟩
 split
 ·refine ⟨List.nodup_cons.2 ⟨fun hm => ((h.2 _ hm).2.1 rfl).2 rfl, h.1⟩, fun e he => ?_⟩
  rcases List.mem_cons.1 he with he | he
  ·subst he; exact ⟨hn, fun _ => .refl g n, fun e => by cases e⟩
  ·exact old e he
 ·exact ⟨h.1, old⟩
theorem OkIn.wrap {g : List Bl} (hv : aa g = true) {n y : Nat} {bs : List Nat} {fr : Fr} (h : OkIn g n (y :: bs) fr) (hy : Rch g [] y) (hp : dK g n y) (hnb : y ∉ bs) : OkIn g n bs ((y, false) :: fr) := by
 refine ⟨List.nodup_cons.2 ⟨fun hm => ?_, h.1⟩, fun e he => ?_⟩
 ·obtain ⟨p, h1, _, h3⟩ := (h.2 _ hm).2.2 rfl
  exact h3 (yi h1 hp) (List.mem_cons_self ..)
 ·rcases List.mem_cons.1 he with he | he
  ·subst he; exact ⟨hy.lt hv, fun e => by (cases e), fun _ => ⟨n, hp, .refl g n, fun _ => hnb⟩⟩
  ·obtain ⟨h1, h2, h3⟩ := h.2 e he
   refine ⟨h1, h2, fun hb => ?_⟩
   obtain ⟨p, h4, h5, h6⟩ := h3 hb
   exact ⟨p, h4, h5, fun e hm => h6 e (List.mem_cons_of_mem _ hm)⟩
theorem OkIn.child {g : List Bl} (hv : aa g = true) {n y : Nat} {bs : List Nat} {fr : Fr} (h : OkIn g n bs fr) (hy : Rch g [] y) (hp : dK g n y) : OkOut g y fr := by
 have hpl := eY hv hy hp
 have up : ∀ a, Dm g a n → Dm g a y ∧ a ≠ y := by
  intro a ha
  refine ⟨ha.trans (gT hp), fun e => ?_⟩
  subst e
  by_cases e : a = n
  ·rw [e] at hpl; omega
  ·have := nH hv hp.2.1 ha e; omega
 refine ⟨h.1, fun e he => ?_⟩
 obtain ⟨h1, h2, h3⟩ := h.2 e he
 refine ⟨h1, fun hb => up _ (h2 hb), fun hb => ?_⟩
 obtain ⟨p, h4, h5, _⟩ := h3 hb
 exact ⟨p, h4, up p h5⟩
theorem BA {g : List Bl} (hv : aa g = true) {fr : Fr} (hn : fr.Nodup) (hl : ∀ e ∈ fr, e.1 < g.length) : fr.length ≤ 52 := by
 have h26 := (aj.1 hv).2.1
 have h := bS 52 (fr.map fun e => 2 * e.1 + (if e.2 = true then 1 else 0)) (by
  rw [List.nodup_iff_pairwise_ne, List.pairwise_map]
  refine List.Pairwise.imp ?_ (List.nodup_iff_pairwise_ne.1 hn)
  intro a b hab e
  apply hab
  have h1 : a.1 = b.1 := by split at e <;> split at e <;> omega
  have h2 : a.2 = b.2 := by
   rw [h1] at e
   cases ha : a.2 <;> cases hb : b.2 <;> rw [ha, hb] at e <;> simp at e ⊢
  exact Prod.ext h1 h2) (by
  intro x hx
  obtain ⟨e, he, rfl⟩ := List.mem_map.1 hx
  have := hl e he
  show 2 * e.1 + (if e.2 = true then 1 else 0) < 52
  split <;> omega)
 rw [List.length_map] at h
 exact h
theorem OkIn.len {g : List Bl} (hv : aa g = true) {n : Nat} {bs : List Nat} {fr : Fr} (h : OkIn g n bs fr) : fr.length ≤ 52 := BA hv h.1 fun e he => (h.2 e he).1
theorem OkOut.len {g : List Bl} (hv : aa g = true) {n : Nat} {fr : Fr} (h : OkOut g n fr) : fr.length ≤ 52 := BA hv h.1 fun e he => (h.2 e he).1
def el (k : Nat) : List UInt8 := if k < 10 then [UInt8.ofNat (48 + k)] else [UInt8.ofNat (48 + k / 10), UInt8.ofNat (48 + k % 10)]
def kB (fr : Fr) (x : Nat × Bool) : List UInt8 := 94 :: el (fr.findIdx fun y => decide (y = x))
def aT (g : List Bl) (T : Nat → Fr → List UInt8) (n t : Nat) (fr : Fr) : List UInt8 :=
 if ah g n < ah g t then (if t ∈ ak g then kB fr (t, false) else T t fr) else kB fr (t, true)
def dM (g : List Bl) (T : Nat → Fr → List UInt8) (n : Nat) (fr : Fr) : List UInt8 :=
 match ai g n with
 | [] => [au g n, 46]
 | [t] => au g n :: aT g T n t fr
 | t :: u :: _ => 63 :: au g n :: 91 :: (aT g T n t fr ++ 93 :: 91 :: (aT g T n u fr ++ [93]))
def aJ (g : List Bl) (T : Nat → Fr → List UInt8) (n : Nat) : List Nat → Fr → List UInt8
 | [], fr => dM g T n fr
 | y :: bs, fr => 40 :: (aJ g T n bs ((y, false) :: fr) ++ 41 :: T y fr)
def aw (g : List Bl) : Nat → Nat → Fr → List UInt8
 | 0, _, _ => []
 | m + 1, n, fr => if n ∈ aL g then 123 :: (aJ g (aw g m) n (aq g n) ((n, true) :: fr) ++ [125]) else aJ g (aw g m) n (aq g n) fr
theorem ki (k : Nat) : (el k).length ≤ 2 := by unfold el; split <;> simp
theorem kD (fr : Fr) (x : Nat × Bool) : (kB fr x).length ≤ 3 := by
 unfold kB
 have := ki (fr.findIdx fun y => decide (y = x))
 rw [List.length_cons]; omega
def eR (g : List Bl) (n : Nat) : List Nat := (ai g n).filter fun t => decide (ah g n < ah g t) && decide (t ∉ ak g)
theorem kF {g : List Bl} {n t : Nat} : t ∈ eR g n ↔ t ∈ ai g n ∧ ah g n < ah g t ∧ t ∉ ak g := by
 unfold eR
 rw [List.mem_filter, Bool.and_eq_true, decide_eq_true_iff, decide_eq_true_iff]
theorem tl {g : List Bl} (hv : aa g = true) (hT : ew g) {n t : Nat} (hn : Rch g [] n) (h : t ∈ eR g n) : Rch g [] t ∧ dK g n t := by
 obtain ⟨h1, h2, h3⟩ := kF.1 h
 exact ⟨.step hn h1 (by simp), oH hv hT h3 hn h1 h2⟩
theorem BC {g : List Bl} (hv : aa g = true) {i : Nat} (hi : i < g.length) : (ai g i).Nodup := by
 rcases goes hv hi with ⟨h, _⟩ | ⟨p, _, h, _⟩ | ⟨p, q, _, _, h, _, _, _, _, _, hne⟩
 ·rw [h]; simp
 ·rw [h]; simp
 ·rw [h]; simp [hne]
def iG (g : List Bl) (n : Nat) : List Nat := aq g n ++ eR g n
theorem gU {g : List Bl} (hv : aa g = true) (hT : ew g) {n : Nat} (hn : Rch g [] n) {c : Nat} (h : c ∈ iG g n) : c ∈ di g n := by
 rw [fV hv]
 rcases List.mem_append.1 h with h | h
 ·obtain ⟨h1, _, h3⟩ := (dY hv).1 h; exact ⟨h1, h3⟩
 ·exact tl hv hT hn h
theorem Dt {g : List Bl} (hv : aa g = true) (hT : ew g) {n c : Nat} (hc : Rch g [] c) (hp : dK g n c) : c ∈ iG g n := by
 by_cases hm : c ∈ ak g
 ·exact List.mem_append_left _ ((dY hv).2 ⟨hc, hm, hp⟩)
 ·refine List.mem_append_right _ (kF.2 ?_)
  have h0 : c ≠ 0 := fun e => AI (e ▸ hp)
  obtain ⟨i, hi, h1, h2⟩ := Dh hv hc h0
  have := yi (oH hv hT hm hi h1 h2) hp
  subst this
  exact ⟨h1, h2, hm⟩
theorem mB {g : List Bl} (hv : aa g = true) {n : Nat} (hn : n < g.length) : (iG g n).Nodup := by
 unfold iG
 rw [List.nodup_append]
 refine ⟨?_, (BC hv hn).filter _, fun a ha b hb e => ?_⟩
 ·exact (ij hv n).imp (fun h e => by rw [e] at h; omega)
 ·subst e
  exact (kF.1 hb).2.2 ((dY hv).1 ha).2.1
theorem pS {f : Nat → Nat} : ∀ {l k : List Nat}, l.Nodup → (∀ x ∈ l, x ∈ k) → cK f l ≤ cK f k
 | [], _, _, _ => Nat.zero_le _
 | x :: l, k, hn, hs => by
  rw [List.nodup_cons] at hn
  obtain ⟨k1, k2, rfl⟩ := List.append_of_mem (hs x (List.mem_cons_self ..))
  have h := pS (f := f) (l := l) (k := k1 ++ k2) hn.2 fun y hy => by
   have h1 := hs y (List.mem_cons_of_mem _ hy)
   have h2 : y ≠ x := fun e => hn.1 (e ▸ hy)
   rcases List.mem_append.1 h1 with h1 | h1
   ·exact List.mem_append_left _ h1
   ·exact List.mem_append_right _ ((List.mem_cons.1 h1).resolve_left h2)
  rw [cg, kZ, cg]
  rw [kZ] at h
  omega
theorem EL {g : List Bl} (hv : aa g = true) {n : Nat} (hn : Rch g [] n) : 1 ≤ eU g n := by
 have := pD hv hn
 omega
theorem nQ (g : List Bl) (T : Nat → Fr → List UInt8) (n t : Nat) (fr : Fr) : (aT g T n t fr).length ≤ 3 + cK (fun c => (T c fr).length) ([t].filter fun t => decide (ah g n < ah g t) && decide (t ∉ ak g)) := by
 unfold aT
 by_cases h1 : ah g n < ah g t
 ·rw [if_pos h1]
  by_cases h2 : t ∈ ak g
  ·rw [if_pos h2]
   have := kD fr (t, false)
   omega
  ·rw [if_neg h2]
   have e : ([t].filter fun t => decide (ah g n < ah g t) && decide (t ∉ ak g)) = [t] := by simp [h1, h2]
   rw [e, cg]
   omega
 ·rw [if_neg h1]
  have := kD fr (t, true)
  omega
theorem BD {g : List Bl} (hv : aa g = true) (T : Nat → Fr → List UInt8) {n : Nat} (hn : n < g.length) (fr : Fr) : (dM g T n fr).length ≤ 12 + cK (fun c => (T c fr).length) (eR g n) := by
 have h2 := iO hv hn
 unfold dM eR
 match hx : ai g n, h2 with
 | [], _ => simp only [List.length_cons, List.length_nil]; omega
 | [t], _ =>
  have := nQ g T n t fr
  simp only [List.length_cons]
  omega
 | [t, u], _ =>
  have a1 := nQ g T n t fr
  have a2 := nQ g T n u fr
  have e : ([t, u].filter fun t => decide (ah g n < ah g t) && decide (t ∉ ak g)) = ([t].filter fun t => decide (ah g n < ah g t) && decide (t ∉ ak g)) ++ ([u].filter fun t => decide (ah g n < ah g t) && decide (t ∉ ak g)) := by
   rw [← List.filter_append]; rfl
  rw [e, kZ]
  simp only [List.length_cons, List.length_append, List.length_nil]
  omega
theorem lh {g : List Bl} (hv : aa g = true) (T : Nat → Fr → List UInt8) (B : Nat → Nat) {n : Nat} (hn : n < g.length) : ∀ (bs : List Nat) (fr : Fr), (∀ c ∈ bs ++ eR g n, ∀ fr, (T c fr).length + 2 ≤ B c) →
  (aJ g T n bs fr).length ≤ 12 + cK B (bs ++ eR g n)
 | [], fr, h => by
  rw [aJ, List.nil_append]
  have h1 := BD hv T hn fr
  have h2 : cK (fun c => (T c fr).length) (eR g n) ≤ cK B (eR g n) := rN fun c hc => by have := h c (by simpa using hc) fr; omega
  omega
 | y :: bs, fr, h => by
  have ih := lh hv T B hn bs ((y, false) :: fr) fun c hc => h c (by rw [List.cons_append]; exact List.mem_cons_of_mem _ hc)
  have hy := h y (by simp) fr
  rw [aJ, List.cons_append, cg]
  simp only [List.length_cons, List.length_append]
  omega
theorem nR {g : List Bl} (hv : aa g = true) (hT : ew g) : ∀ (m n : Nat), Rch g [] n → ∀ fr, (aw g m n fr).length + 2 ≤ 16 * eU g n
 | 0, n, hn, fr => by have := EL hv hn; rw [aw, List.length_nil]; omega
 | m + 1, n, hn, fr => by
  have hl := hn.lt hv
  have hk : ∀ c ∈ iG g n, Rch g [] c := fun c hc => ((fV hv).1 (gU hv hT hn hc)).1
  have hb : ∀ bs fr', bs = aq g n → (aJ g (aw g m) n bs fr').length ≤ 12 + cK (fun c => 16 * eU g c) (iG g n) := by
   intro bs fr' e
   subst e
   exact lh hv (aw g m) (fun c => 16 * eU g c) hl _ fr' fun c hc fr => nR hv hT m c (hk c hc) fr
  have h1 : cK (fun c => 16 * eU g c) (iG g n) ≤ cK (fun c => 16 * eU g c) (di g n) := pS (mB hv hl) fun c hc => gU hv hT hn hc
  have h2 : ∀ l : List Nat, cK (fun c => 16 * eU g c) l = 16 * cK (eU g) l := by
   intro l
   induction l with
   | nil => rfl
   | cons x l ih => rw [cg, cg, ih]; omega
  have h3 := pD hv hn
  rw [h2 (di g n)] at h1
  rw [aw]
  split
  ·have := hb _ ((n, true) :: fr) rfl
   simp only [List.length_cons, List.length_append, List.length_nil]
   omega
  ·have := hb _ fr rfl
   omega
theorem li {g : List Bl} (hv : aa g = true) (hT : ew g) {m n : Nat} (hn : Rch g [] n) (fr : Fr) : (aw g m n fr).length ≤ 416 := by
 have h1 := nR hv hT m n hn fr
 have h2 := AH hv n
 omega
def cG {α : Type} (g : List Bl) (V : Nat → Fr → List α) (n t : Nat) (fr : Fr) : List α := if ah g n < ah g t ∧ t ∉ ak g then V t fr else []
def gp {α : Type} (g : List Bl) (V : Nat → Fr → List α) (n : Nat) (fr : Fr) : List α := (ai g n).flatMap fun t => cG g V n t fr
def bt {α : Type} (g : List Bl) (V : Nat → Fr → List α) (n : Nat) : List Nat → Fr → List α
 | [], fr => gp g V n fr
 | y :: bs, fr => bt g V n bs ((y, false) :: fr) ++ V y fr
def cf (g : List Bl) (n : Nat) (fr : Fr) : Fr := if n ∈ aL g then (n, true) :: fr else fr
def m9 (g : List Bl) : Nat → Nat → Fr → List (Nat × Fr)
 | 0, _, _ => []
 | m + 1, n, fr => (n, fr) :: bt g (m9 g m) n (aq g n) (cf g n fr)
def jy (g : List Bl) : Nat → Nat → Fr → List (Nat × List UInt8)
 | 0, _, _ => []
 | m + 1, n, fr => bt g (jy g m) n (aq g n) (cf g n fr) ++ [(n, aw g (m + 1) n fr)]
def fZ {β : Type} (f : Nat → β) (ws : List (Nat × β)) : Nat → β := ws.foldl (fun f p => fun j => if j = p.1 then p.2 else f j) f
theorem fC {β : Type} (f : Nat → β) (a b : List (Nat × β)) : fZ f (a ++ b) = fZ (fZ f a) b := by
 unfold fZ; rw [List.foldl_append]
theorem vE {β : Type} (f : Nat → β) (i : Nat) (v : β) : fZ f [(i, v)] = fun j => if j = i then v else f j := rfl
def jz (g : List Bl) (e : Nat × Bool) : UInt8 := if e.2 = true then au g e.1 + 32 else au g e.1
theorem gV {g : List Bl} (hv : aa g = true) {i : Nat} (hi : i < g.length) : 65 ≤ (au g i).toNat ∧ (au g i).toNat ≤ 90 := by
 obtain ⟨c, hc, hl⟩ := a8 hv (List.getElem_mem hi)
 have h1 := bu hv hi
 rw [hc] at h1
 have h2 : c = au g i := by
  have := congrArg (fun b : ByteArray => b.data.toList) h1
  simpa using this
 rw [← h2]
 unfold a7 at hl
 simp only [Bool.and_eq_true, decide_eq_true_eq] at hl
 exact hl
theorem EM {g : List Bl} (hv : aa g = true) {a b : Nat × Bool} (ha : a.1 < g.length) (hb : b.1 < g.length) (h : jz g a = jz g b) : a = b := by
 obtain ⟨x, p⟩ := a
 obtain ⟨y, q⟩ := b
 have ha : x < g.length := ha
 have hb : y < g.length := hb
 have ra := gV hv ha
 have rb := gV hv hb
 have key : ∀ z r, 65 ≤ (au g z).toNat ∧ (au g z).toNat ≤ 90 → (jz g (z, r)).toNat = (au g z).toNat + (if r = true then 32 else 0) := by
  intro z r hz
  cases r with
  | false => rfl
  | true =>
   show (au g z + 32).toNat = _
   rw [UInt8.toNat_add, if_pos rfl]
   simp
   omega
 have k1 := key x p ra
 have k2 := key y q rb
 rw [h] at k1
 have hxy : (au g x).toNat = (au g y).toNat ∧ p = q := by
  cases p <;> cases q <;> simp at k1 k2 ⊢ <;> omega
 rw [pM hv ha hb (UInt8.toNat_inj.1 hxy.1), hxy.2]
theorem mC {g : List Bl} (hv : aa g = true) {x : Nat × Bool} (hx : x.1 < g.length) : ∀ {fr : Fr}, (∀ e ∈ fr, e.1 < g.length) → x ∈ fr → Lib.indexByte (fr.map (jz g)) (jz g x) = ((fr.findIdx fun y => decide (y = x) : Nat) : Int)
 | [], _, h => by cases h
 | e :: fr, hl, h => by
  rw [List.map_cons, Lib.indexByte, List.findIdx_cons]
  by_cases he : e = x
  ·subst he; simp
  ·have h1 : x ∈ fr := (List.mem_cons.1 h).resolve_left fun q => he q.symm
   have ih := mC hv hx (fr := fr) (fun y hy => hl y (List.mem_cons_of_mem _ hy)) h1
   have h2 : ¬ jz g e = jz g x := fun q => he (EM hv (hl e (List.mem_cons_self ..)) hx q)
   rw [if_neg (by simpa using h2), ih, if_neg (by simp), decide_eq_false he]
   simp
theorem zL {g : List Bl} (hv : aa g = true) {i : Nat} (hi : i < g.length) : g[i].2 = ⟨((ai g i).map (au g)).toArray⟩ := by
 cases goes hv hi with
 | stop h hs =>
  rw [h]
  apply bg
  have : g[i].2.data.toList.length = 0 := by rw [dm, hs]
  rw [List.eq_nil_of_length_eq_zero this]; rfl
 | jump p hp h hs ho hn =>
  rw [h, ← hn, bu hv hp]; rfl
 | branch p q hp hq h hs ho hn ho' hn' hne =>
  rw [h]
  have e1 := bu hv hp
  have e2 := bu hv hq
  rw [hn] at e1
  rw [hn'] at e2
  have hl : g[i].2.data.toList.length = 2 := by rw [dm, hs]
  have f1 := congrArg (fun b : ByteArray => b.data.toList) e1
  have f2 := congrArg (fun b : ByteArray => b.data.toList) e2
  simp only [← Lib.toList_data, Lib.extract_toList] at f1 f2
  rw [Lib.toList_data] at f1 f2
  rw [hs] at f2
  apply bg
  match hm : g[i].2.data.toList, hl with
  | [x, y], _ =>
   rw [hm] at f1 f2
   simp at f1 f2
   rw [f1, f2]; rfl
theorem xH {g : List Bl} (hv : aa g = true) (hT : ew g) {m n t : Nat} (ht : Rch g [] t) (fr : Fr) : (aT g (aw g m) n t fr).length ≤ 416 := by
 unfold aT
 have h1 := li hv hT (m := m) ht fr
 have h2 := kD fr (t, false)
 have h3 := kD fr (t, true)
 split
 ·split <;> omega
 ·omega
theorem na {g : List Bl} (hv : aa g = true) (hT : ew g) {m n : Nat} (hn : Rch g [] n) {bs : List Nat} (hs : bs <:+ aq g n) (fr : Fr) : (aJ g (aw g m) n bs fr).length ≤ 428 := by
 have hk : ∀ c ∈ iG g n, Rch g [] c := fun c hc => ((fV hv).1 (gU hv hT hn hc)).1
 have hsub : ∀ c ∈ bs ++ eR g n, c ∈ iG g n := fun c hc => by
  rcases List.mem_append.1 hc with h | h
  ·exact List.mem_append_left _ (hs.subset h)
  ·exact List.mem_append_right _ h
 have hnd : (bs ++ eR g n).Nodup := by
  obtain ⟨t, ht⟩ := hs
  have := mB hv (hn.lt hv)
  unfold iG at this
  rw [← ht, List.append_assoc] at this
  exact (List.nodup_append.1 this).2.1
 have h0 := lh hv (aw g m) (fun c => 16 * eU g c) (hn.lt hv) bs fr fun c hc fr => nR hv hT m c (hk c (hsub c hc)) fr
 have h1 : cK (fun c => 16 * eU g c) (bs ++ eR g n) ≤ cK (fun c => 16 * eU g c) (di g n) := pS hnd fun c hc => gU hv hT hn (hsub c hc)
 have h2 : ∀ l : List Nat, cK (fun c => 16 * eU g c) l = 16 * cK (eU g) l := by
  intro l
  induction l with
  | nil => rfl
  | cons x l ih => rw [cg, cg, ih]; omega
 have h3 := pD hv hn
 have h4 := AH hv n
 rw [h2 (di g n)] at h1
 omega
end Go.Proofs.YtlkfakdghjaoaaaGreatDoor
namespace Go.Proofs.YtlkfakdghjaoaaaGreatDoor
open Go.RowKit Go.Sort
attribute [local go_sem] Oper.semAt_some
def kj (n : Nat) (f : Nat → List UInt8) : Array Value := ((List.range n).map fun i => Value.string (tb (f i))).toArray
theorem kG (n : Nat) (f : Nat → List UInt8) : (kj n f).size = n := by simp [kj]
theorem iH {n : Nat} (f : Nat → List UInt8) {i : Nat} (hi : i < n) : (kj n f)[i]? = some (.string (tb (f i))) := by simp [kj, hi]
theorem vF {n i : Nat} (f : Nat → List UInt8) (v : List UInt8) : (kj n f).setIfInBounds i (.string (tb v)) = kj n (fun j => if j = i then v else f j) := by
 apply Array.ext_getElem?
 intro j
 rw [Array.getElem?_setIfInBounds, kG]
 by_cases hj : j < n
 ·rw [iH _ hj, iH _ hj]
  by_cases e : i = j
  ·subst e; rw [if_pos rfl, if_pos hj, if_pos rfl]
  ·rw [if_neg e, if_neg (fun h => e h.symm)]
 ·have h1 : (kj n f)[j]? = none := Array.getElem?_eq_none (by rw [kG]; omega)
  have h2 : (kj n fun j => if j = i then v else f j)[j]? = none := Array.getElem?_eq_none (by rw [kG]; omega)
  rw [h1, h2]
  split
  ·rw [if_neg (by omega)]
  ·rfl
structure Mk (w : World) (MB AB PB : Nat) (A : Option Addr) (cap : Nat) (g : List Bl) (ar pt : Nat → List UInt8) : Prop where
 blk : Blk w MB 108 #[.slice A g.length cap, .string (ae g (ac g)), .string (ae g (ak g)), .string (ae g (aL g)), .slice (some ⟨AB, 0, none⟩) g.length g.length, .slice (some ⟨PB, 0, none⟩) g.length g.length]
 ar : Blk w AB 9 (kj g.length ar)
 pt : Blk w PB 9 (kj g.length pt)
 gr : Gr w A g
 ap : AB ≠ PB
 ma : MB ≠ AB
 mp : MB ≠ PB
 ga : ∀ b off, A = some ⟨b, off, none⟩ → b ≠ AB ∧ b ≠ PB
theorem Mk.below {w w' : World} {MB AB PB : Nat} {A : Option Addr} {cap : Nat} {g : List Bl} {ar pt : Nat → List UInt8} (h : Mk w MB AB PB A cap g ar pt) (hb : Below w.heap.size w w') : Mk w' MB AB PB A cap g ar pt :=
 ⟨h.blk.below hb h.blk.lt, h.ar.below hb h.ar.lt, h.pt.below hb h.pt.lt, h.gr.below hb, h.ap, h.ma, h.mp, h.ga⟩
abbrev MkT (AB PB : Nat) (w w' : World) : Prop := Turns (fun k => k = AB ∨ k = PB) w w'
theorem MkT.trans {AB PB : Nat} {w w' w'' : World} (h : MkT AB PB w w') (k : MkT AB PB w' w'') : MkT AB PB w w'' := Turns.trans h (k.wider fun _ hx => .inl hx)
def cH (g : List Bl) (fr : Fr) : List UInt8 := fr.map (jz g)
def cy (g : List Bl) (n : Nat) : ByteArray := ⟨#[au g n]⟩
theorem eM {g : List Bl} (hv : aa g = true) {n : Nat} (hn : n < g.length) : ay g n = cy g n := by rw [al hn, bu hv hn]; rfl
theorem nS {g : List Bl} (hv : aa g = true) {y : Nat} {bs : List Nat} (hy : y < g.length) : ae g (y :: bs) = cy g y ++ ae g bs := by
 show ay g y ++ ae g bs = _
 rw [eM hv hy]
theorem jb (c : UInt8) (s : List UInt8) : (⟨#[c]⟩ : ByteArray) ++ tb s = tb (c :: s) := by
 apply bg; rw [ByteArray.data_append, Array.toList_append, aI, aI]; rfl
theorem FF (a b : List UInt8) : tb a ++ tb b = tb (a ++ b) := by
 apply bg; rw [ByteArray.data_append, Array.toList_append, aI, aI, aI]
theorem tm (X : ByteArray) (c : UInt8) (w : World) (hX : X = ⟨#[c]⟩) (hc : c.toNat ≤ 90) :
  Calls Tryz.prog 145 #[.string X] w fun e w' => e = .returned (.string ⟨#[c + 32]⟩) ∧ Below w.heap.size w w' := by
 have e1 : (c + 32).toNat = c.toNat + 32 := by rw [UInt8.toNat_add]; simp; omega
 have hz : X.size = 1 := by rw [hX]; rfl
 have b0 : (X[0]'(by omega)) = c := by subst hX; rfl
 have hcv : (convert 22 9 (.slice (some ⟨w.heap.size, 0, none⟩) 1 1)).run Tryz.prog (w.alloc (.cells #[.int .u8 ((c.toNat : Int) + 32)] 5)) = .ok (.string ⟨#[c + 32]⟩) (w.alloc (.cells #[.int .u8 ((c.toNat : Int) + 32)] 5)) :=
  run_convert_bytes_back (P := Tryz.prog) (w.alloc (.cells #[.int .u8 ((c.toNat : Int) + 32)] 5)) 22 9 5 ⟨w.heap.size, 0, none⟩ 1 [c + 32] Tryz.underlying22 Tryz.underlying5 Tryz.underlying9 (fun j hj => by
   have hj0 : j = 0 := by simpa using hj
   subst hj0
   have := (Blk.new w 5 #[.int .u8 ((c.toNat : Int) + 32)]).cell 0
   rw [List.getElem_cons_zero, e1]
   exact this)
 have s1 : ((c.toNat : Int) + 32) % 256 = (c.toNat : Int) + 32 := by omega
 have HB := GR ((Below.refl w.heap.size w).alloc (Nat.le_refl _) (.cells #[.int .u8 ((c.toNat : Int) + 32)] 5))
 clear e1 hX
 go_enter Tryz.func145, Tryz.ntmps145
 go_wp2_with fail
 go_ret
 exact ⟨rfl, HB.out⟩
theorem Gu (n : Nat) (h : n ≤ 9) : ((UInt8.ofNat (48 + n)).toNat : Int) = 48 + (n : Int) := by
 rw [UInt8.toNat_ofNat']; omega
theorem pT (n : Nat) (w : World) (hn : n ≤ 9) : (convert 22 9 (.slice (some ⟨w.heap.size, 0, none⟩) 1 1)).run Tryz.prog (w.alloc (.cells #[.int .u8 (48 + (n : Int))] 5)) = .ok (.string ⟨#[UInt8.ofNat (48 + n)]⟩) (w.alloc (.cells #[.int .u8 (48 + (n : Int))] 5)) :=
 run_convert_bytes_back (P := Tryz.prog) (w.alloc (.cells #[.int .u8 (48 + (n : Int))] 5)) 22 9 5 ⟨w.heap.size, 0, none⟩ 1 [UInt8.ofNat (48 + n)] Tryz.underlying22 Tryz.underlying5 Tryz.underlying9 (fun j hj => by
  have hj0 : j = 0 := by simpa using hj
  subst hj0
  have := (Blk.new w 5 #[.int .u8 (48 + (n : Int))]).cell 0
  rw [List.getElem_cons_zero, Gu n hn]
  exact this)
theorem qM (n : Nat) (w : World) (hn : n < 100) :
  Calls Tryz.prog 208 #[.int .i64 n] w fun e w' => e = .returned (.string (tb (el n))) ∧ Below w.heap.size w w' := by
 have g2 : decide ((n : Int) < 0) = false := by simp
 have g3 : decide ((n : Int) < -9223372036854775807) = false := decide_eq_false (by omega)
 by_cases h9 : n ≤ 9
 ·have hcv := pT n w h9
  have g1 : decide ((9 : Int) < n) = false := by simp; omega
  have s1 : IntKind.i64.wrap (48 + (n : Int)) = 48 + (n : Int) := IntWalk.i64_in _ (by omega)
  have s2 : IntKind.u8.wrap (48 + (n : Int)) = 48 + (n : Int) := by
   show (48 + (n : Int)) % 256 = _
   omega
  have s3 : (48 + (n : Int)) % 256 = 48 + (n : Int) := by omega
  have HE := GR (show tb (el n) = ⟨#[UInt8.ofNat (48 + n)]⟩ by unfold el; rw [if_pos (by omega)]; rfl)
  go_enter Tryz.func208, Tryz.ntmps208
  go_wp2_with fail
  go_loop [0, 3] (fun x o => x = .int .i64 n ∧ o = .string ⟨#[]⟩) (fun _ _ => 0)
  case atStart => exact ⟨rfl, rfl⟩
  case round =>
   obtain ⟨rfl, rfl⟩ := hrel
   go_wp2_with fail
   go_ret
   refine ⟨?_, (Below.refl _ w).alloc (Nat.le_refl _) _⟩
   rw [HE.out]
   simp
   rfl
 ·have g1 : decide ((9 : Int) < n) = true := by simp; omega
  obtain ⟨q, hq⟩ : ∃ q, q = n / 10 := ⟨_, rfl⟩
  obtain ⟨r, hr⟩ : ∃ r, r = n % 10 := ⟨_, rfl⟩
  have hq9 : q ≤ 9 := by omega
  have hr9 : r ≤ 9 := by omega
  have d1 : (n : Int) / 10 = (q : Int) := by omega
  have d2 : (n : Int) % 10 = (r : Int) := by omega
  have d3 : (n : Int).tdiv 10 = (q : Int) := by rw [Int.tdiv_eq_ediv_of_nonneg (by omega)]; exact d1
  have d4 : (n : Int).tmod 10 = (r : Int) := by rw [Int.tmod_eq_emod_of_nonneg (by omega)]; exact d2
  have g4 : decide ((9 : Int) < q) = false := by simp; omega
  have s1 : IntKind.i64.wrap (48 + (r : Int)) = 48 + (r : Int) := IntWalk.i64_in _ (by omega)
  have s2 : IntKind.u8.wrap (48 + (r : Int)) = 48 + (r : Int) := by
   show (48 + (r : Int)) % 256 = _
   omega
  have s3 : (48 + (r : Int)) % 256 = 48 + (r : Int) := by omega
  have t1 : IntKind.i64.wrap (48 + (q : Int)) = 48 + (q : Int) := IntWalk.i64_in _ (by omega)
  have t2 : IntKind.u8.wrap (48 + (q : Int)) = 48 + (q : Int) := by
   show (48 + (q : Int)) % 256 = _
   omega
  have t3 : (48 + (q : Int)) % 256 = 48 + (q : Int) := by omega
  have HE := GR (show tb (el n) = ⟨#[UInt8.ofNat (48 + q)]⟩ ++ ⟨#[UInt8.ofNat (48 + r)]⟩ by unfold el; rw [if_neg (by omega), ← hq, ← hr]; rfl)
  clear hq hr
  obtain ⟨RR, hRR⟩ : ∃ RR : ByteArray, RR = ⟨#[UInt8.ofNat (48 + r)]⟩ := ⟨_, rfl⟩
  obtain ⟨QQ, hQQ⟩ : ∃ QQ : ByteArray, QQ = ⟨#[UInt8.ofNat (48 + q)]⟩ := ⟨_, rfl⟩
  have hzr : RR.size = 1 := by rw [hRR]; rfl
  have hzq : QQ.size = 1 := by rw [hQQ]; rfl
  have HCR := GR (fun W => hRR ▸ pT r W hr9)
  have HCQ := GR (fun W => hQQ ▸ pT q W hq9)
  rw [← hRR, ← hQQ] at HE
  clear hRR hQQ
  go_enter Tryz.func208, Tryz.ntmps208
  go_wp2_with fail
  go_loopg [0, 3] 1 (fun gk x o wr => (gk = 1 ∧ x = .int .i64 n ∧ o = .string ⟨#[]⟩ ∧ Hid (Below w.heap.size w wr)) ∨ (gk = 0 ∧ x = .int .i64 q ∧ o = .string RR ∧ Hid (Below w.heap.size w wr)))
  case atStart => exact .inl ⟨rfl, rfl, rfl, Below.refl _ _⟩
  case round =>
   rcases hrel with ⟨rfl, rfl, rfl, HB⟩ | ⟨rfl, rfl, rfl, HB⟩
   ·have hcv := HCR.out wr
    have HB2 := GR (HB.out.alloc HB.out.size (.cells #[.int .u8 (48 + (r : Int))] 5))
    go_wp2_with fail
    go_roundg 0
    case measure => omega
    case rel => exact .inr ⟨rfl, rfl, by congr 1; exact cC _, HB2.out⟩
   ·have hcv := HCQ.out wr
    have HB2 := GR (HB.out.alloc HB.out.size (.cells #[.int .u8 (48 + (q : Int))] 5))
    go_wp2_with fail
    go_ret
    refine ⟨?_, HB2.out⟩
    rw [HE.out]; rfl
theorem qN {g : List Bl} (hv : aa g = true) {t : Nat} (ht : Rch g [] t) (w : World) :
  Calls Tryz.prog 114 #[.string (ae g (ac g)), .int .u8 (au g t).toNat] w fun e w' => e = .returned (.int .i64 (ah g t)) ∧ w = w' := by
 have hs : (ae g (ac g)).size ≤ 4611686018427387904 := by
  rw [ax hv _ (aX hv)]
  have h1 := bK hv
  have h2 := (aj.1 hv).2.1
  omega
 have h := bf (ae g (ac g)) (au g t) w hs
 rw [tK hv (aX hv) ((aA hv).2 ht) (ht.lt hv) (bu hv (ht.lt hv))] at h
 exact h
variable {g : List Bl} {MB AB PB : Nat} {A : Option Addr} {cap : Nat}
def qO (g : List Bl) (ws : List (Nat × Fr)) : List (Nat × List UInt8) := ws.map fun p => (p.1, cH g p.2)
def nT (g : List Bl) (MB AB PB : Nat) (A : Option Addr) (cap : Nat) (m : Nat) : Prop :=
 ∀ (n : Nat) (fr : Fr) (ar pt : Nat → List UInt8) (w : World), Rch g [] n → (ac g).length ≤ m + ah g n → InvOut g n fr → OkOut g n fr → Mk w MB AB PB A cap g ar pt →
  Calls Tryz.prog 95 #[.pointer (some ⟨MB, 0, none⟩), .string (cy g n), .string (tb (cH g fr))] w fun e w' =>
   e = .returned (.string (tb (aw g m n fr))) ∧ MkT AB PB w w' ∧ Mk w' MB AB PB A cap g (fZ ar (qO g (m9 g m n fr))) (fZ pt (jy g m n fr))
theorem Du (hv : aa g = true) (hT : ew g) {m : Nat} (hTA : nT g MB AB PB A cap m) (n t : Nat) (fr : Fr) (ar pt : Nat → List UInt8) (w : World) (hn : Rch g [] n) (ht : t ∈ ai g n) (hL : (ac g).length ≤ m + 1 + ah g n)
  (hI : InvIn g n [] fr) (hO : OkIn g n [] fr) (hM : Mk w MB AB PB A cap g ar pt) :
  Calls Tryz.prog 181 #[.pointer (some ⟨MB, 0, none⟩), .string (cy g n), .string (cy g t), .string (tb (cH g fr))] w fun e w' =>
   e = .returned (.string (tb (aT g (aw g m) n t fr))) ∧ MkT AB PB w w' ∧ Mk w' MB AB PB A cap g (fZ ar (qO g (cG g (m9 g m) n t fr))) (fZ pt (cG g (jy g m) n t fr)) := by
 have htr : Rch g [] t := .step hn ht (by simp)
 have c1 : w.cell? ⟨MB, 1, none⟩ = some (.string (ae g (ac g))) := hM.blk.cell 1
 have c2 : w.cell? ⟨MB, 2, none⟩ = some (.string (ae g (ak g))) := hM.blk.cell 2
 have tC1 : ∀ k, Calls Tryz.prog 114 #[.string (ae g (ac g)), .int .u8 (au g t).toNat] (w.drewN k) fun e w'' => e = .returned (.int .i64 (ah g t)) ∧ ∃ m, w'' = w.drewN m := fun k => Calls.quiet_of_same ((qN hv htr (w.drewN k)).mono fun _ _ ⟨a, b⟩ => ⟨a, b.symm⟩)
 have tC2 : ∀ k, Calls Tryz.prog 114 #[.string (ae g (ac g)), .int .u8 (au g n).toNat] (w.drewN k) fun e w'' => e = .returned (.int .i64 (ah g n)) ∧ ∃ m, w'' = w.drewN m := fun k => Calls.quiet_of_same ((qN hv hn (w.drewN k)).mono fun _ _ ⟨a, b⟩ => ⟨a, b.symm⟩)
 have HM := GR hM
 have HI := GR hI
 have HO := GR hO
 have HL := GR hL
 have HN := GR hn
 have HTT := GR ht
 have HTR := GR htr
 have HTA := GR hTA
 have HTM := GR hT
 have HV := GR hv
 obtain ⟨X, hX⟩ : ∃ X, X = cy g n := ⟨_, rfl⟩
 obtain ⟨Y, hY⟩ : ∃ Y, Y = cy g t := ⟨_, rfl⟩
 have hzX : X.size = 1 := by rw [hX]; rfl
 have hzY : Y.size = 1 := by rw [hY]; rfl
 have bX : (X[0]'(by omega)) = au g n := by subst hX; rfl
 have bY : (Y[0]'(by omega)) = au g t := by subst hY; rfl
 rw [← bY] at tC1
 rw [← bX] at tC2
 rw [← hX, ← hY]
 have HX := GR hX
 have HY := GR hY
 have HBX := GR bX
 have HBY := GR bY
 generalize ae g (ac g) = ORD at c1 tC1 tC2
 obtain ⟨MTS, hMTS⟩ : ∃ MTS, MTS = ae g (ak g) := ⟨_, rfl⟩
 rw [← hMTS] at c2
 have HMTS := GR hMTS
 clear hM hI hO hL hn ht htr hTA hT hv hMTS hX hY bX bY
 by_cases hp : ah g n < ah g t
 ·have g1 : decide (ah g t ≤ ah g n) = false := decide_eq_false (by omega)
  have HP := GR hp
  clear hp
  go_enter Tryz.func181, Tryz.ntmps181
  go_wp2_with fail
  go_quiet (first | with_reducible exact tC1 _ | with_reducible exact tC2 _)
  clear tC1 tC2
  obtain ⟨W1, hW1⟩ : ∃ W1, W1 = w.drewN nq := ⟨_, rfl⟩
  have HB1 := GR (show Below w.heap.size w W1 by rw [hW1]; exact ab w nq)
  rw [← hW1]
  clear hW1 c1 c2
  have HM1 := GR (HM.out.below HB1.out)
  have c2 : W1.cell? ⟨MB, 2, none⟩ = some (.string MTS) := by rw [HMTS.out]; exact HM1.out.blk.cell 2
  have hms : MTS.size ≤ 4611686018427387904 := by
   have hml : ∀ i ∈ ak g, i < g.length := dP 2 bD
   rw [HMTS.out, ax HV.out _ hml]
   have h1 : (ak g).length ≤ (am g).length := eX 2 bD
   have h2 := bO HV.out
   omega
  obtain ⟨x, hx⟩ : ∃ x, x = Lib.indexByte MTS.data.toList (au g t) := ⟨_, rfl⟩
  have hxi : 0 ≤ x ↔ t ∈ ak g := by
   rw [hx, HMTS.out]
   exact co HV.out (dP 2 bD) (HTR.out.lt HV.out) (bu HV.out (HTR.out.lt HV.out))
  have tC3 : ∀ k, Calls Tryz.prog 114 #[.string MTS, .int .u8 (Y[0]'(by omega)).toNat] (W1.drewN k) fun e w'' => e = .returned (.int .i64 x) ∧ ∃ m, w'' = W1.drewN m := fun k => by
   have h := bf MTS (Y[0]'(by omega)) (W1.drewN k) hms
   rw [HBY.out, ← hx, ← HBY.out] at h
   exact Calls.quiet_of_same (h.mono fun _ _ ⟨a, b⟩ => ⟨a, b.symm⟩)
  clear hx hms
  by_cases hm : t ∈ ak g
  ·have g3 : ¬ x < 0 := by have := hxi.2 hm; omega
   have HMM := GR hm
   clear hxi hm
   go_wp2_with fail
   go_quiet (with_reducible exact tC3 _)
   clear tC3
   obtain ⟨W2, hW2⟩ : ∃ W2, W2 = W1.drewN nq := ⟨_, rfl⟩
   have HB2 := GR (show Below W1.heap.size W1 W2 by rw [hW2]; exact ab W1 nq)
   rw [← hW2]
   clear hW2 c2
   have hfl := HO.out.len HV.out
   have hin := HI.out.fwd HV.out HN.out HTT.out HP.out HMM.out
   have HF : Hid (Calls Tryz.prog 114 #[.string (tb (cH g fr)), .int .u8 (Y[0]'(by omega)).toNat] W2 fun e w' => e = .returned (.int .i64 ((fr.findIdx fun y => decide (y = (t, false)) : Nat) : Int)) ∧ W2 = w') := GR (by
    have h := bf (tb (cH g fr)) (Y[0]'(by omega)) W2 (by rw [aB]; unfold cH; rw [List.length_map]; omega)
    rw [HBY.out] at h
    have e := mC HV.out (x := (t, false)) (HTR.out.lt HV.out) (fun e he => (HO.out.2 e he).1) hin
    rw [aI, show au g t = jz g (t, false) from rfl] at h
    unfold cH at h
    rw [e] at h
    rw [HBY.out]
    exact h)
   obtain ⟨ix, hix⟩ : ∃ ix, ix = fr.findIdx fun y => decide (y = (t, false)) := ⟨_, rfl⟩
   rw [← hix] at HF
   have hi1 : ix < 100 := by
    rw [hix]
    have := List.findIdx_le_length (xs := fr) (p := fun y => decide (y = (t, false)))
    omega
   have HIX := GR hix
   clear hin hix
   go_wp2_with fail
   refine HF.out.mono ?_
   rintro e w3 ⟨rfl, rfl⟩
   have HD := GR (qM ix W2 hi1)
   go_wp2_with fail
   refine HD.out.mono ?_
   rintro e w4 ⟨rfl, b4⟩
   have hdl := ki ix
   have hz : (tb (el ix)).size ≤ 2 := by rw [aB]; exact hdl
   have HB4 := GR b4
   clear b4
   go_wp2_with fail
   go_ret
   have HJW : aT g (aw g m) n t fr = 94 :: el ix := by unfold aT kB; rw [if_pos HP.out, if_pos HMM.out, HIX.out]
   have HJV : ∀ {α : Type} (V : Nat → Fr → List α), cG g V n t fr = [] := fun V => by unfold cG; rw [if_neg fun h => h.2 HMM.out]
   refine ⟨by rw [HJW, ← jb]; rfl, Turns.of_below ((af (af HB1.out HB2.out) HB4.out)), ?_⟩
   rw [HJV, HJV]
   exact (HM1.out.below HB2.out).below HB4.out
  ·have g3 : x < 0 := by
    by_cases h : x < 0
    ·exact h
    ·exact absurd (hxi.1 (by omega)) hm
   have hpar := oH HV.out HTM.out hm HN.out HTT.out HP.out
   have HMM := GR hm
   have HPAR := GR hpar
   clear hxi hm hpar
   go_wp2_with fail
   go_quiet (with_reducible exact tC3 _)
   clear tC3
   obtain ⟨W2, hW2⟩ : ∃ W2, W2 = W1.drewN nq := ⟨_, rfl⟩
   have HB2 := GR (show Below W1.heap.size W1 W2 by rw [hW2]; exact ab W1 nq)
   rw [← hW2]
   clear hW2 c2
   have HC := GR (HTA.out t fr ar pt W2 HTR.out (by have := HL.out; have := HP.out; omega) (HI.out.jump HV.out HTR.out HPAR.out) (HO.out.child HV.out HTR.out HPAR.out) (HM1.out.below HB2.out))
   rw [← HY.out] at HC
   go_wp2_with fail
   refine HC.out.mono ?_
   rintro e w3 ⟨rfl, hT3, hM3⟩
   have HT3 := GR hT3
   have HM3 := GR hM3
   clear hT3 hM3
   go_wp2_with fail
   go_ret
   have HJW : aT g (aw g m) n t fr = aw g m t fr := by unfold aT; rw [if_pos HP.out, if_neg HMM.out]
   have HJV : ∀ {α : Type} (V : Nat → Fr → List α), cG g V n t fr = V t fr := fun V => by unfold cG; rw [if_pos ⟨HP.out, HMM.out⟩]
   refine ⟨by rw [HJW]; rfl, MkT.trans (Turns.of_below (af HB1.out HB2.out)) HT3.out, ?_⟩
   rw [HJV, HJV]
   exact HM3.out
 ·have g1 : decide (ah g t ≤ ah g n) = true := decide_eq_true (by omega)
  have HP := GR hp
  clear hp
  have hin := HI.out.back HV.out HTM.out HN.out HTT.out HP.out
  have hfl := HO.out.len HV.out
  obtain ⟨Z, hZ⟩ : ∃ Z : ByteArray, Z = ⟨#[au g t + 32]⟩ := ⟨_, rfl⟩
  have hzZ : Z.size = 1 := by rw [hZ]; rfl
  have bZ : (Z[0]'(by omega)) = au g t + 32 := by subst hZ; rfl
  have HSM := GR (fun W => by
   have h := tm Y (au g t) W HY.out (gV HV.out (HTR.out.lt HV.out)).2
   rw [← hZ] at h
   exact h)
  have HF : Hid (∀ W2, Calls Tryz.prog 114 #[.string (tb (cH g fr)), .int .u8 (Z[0]'(by omega)).toNat] W2 fun e w' => e = .returned (.int .i64 ((fr.findIdx fun y => decide (y = (t, true)) : Nat) : Int)) ∧ W2 = w') := GR (fun W2 => by
   have h := bf (tb (cH g fr)) (Z[0]'(by omega)) W2 (by rw [aB]; unfold cH; rw [List.length_map]; omega)
   rw [bZ] at h
   have e := mC HV.out (x := (t, true)) (HTR.out.lt HV.out) (fun e he => (HO.out.2 e he).1) hin
   rw [aI, show au g t + 32 = jz g (t, true) from rfl] at h
   unfold cH at h
   rw [e] at h
   rw [bZ]
   exact h)
  obtain ⟨ix, hix⟩ : ∃ ix, ix = fr.findIdx fun y => decide (y = (t, true)) := ⟨_, rfl⟩
  rw [← hix] at HF
  have hi1 : ix < 100 := by
   rw [hix]
   have := List.findIdx_le_length (xs := fr) (p := fun y => decide (y = (t, true)))
   omega
  have HIX := GR hix
  clear hin hix hfl bZ hZ c2
  go_enter Tryz.func181, Tryz.ntmps181
  go_wp2_with fail
  go_quiet (first | with_reducible exact tC1 _ | with_reducible exact tC2 _)
  clear tC1 tC2
  obtain ⟨W1, hW1⟩ : ∃ W1, W1 = w.drewN nq := ⟨_, rfl⟩
  have HB1 := GR (show Below w.heap.size w W1 by rw [hW1]; exact ab w nq)
  rw [← hW1]
  clear hW1 c1
  have HM1 := GR (HM.out.below HB1.out)
  go_wp2_with fail
  refine (HSM.out W1).mono ?_
  rintro e w2 ⟨rfl, b2⟩
  have HB2 := GR b2
  clear b2
  go_wp2_with fail
  refine (HF.out w2).mono ?_
  rintro e w3 ⟨rfl, rfl⟩
  have HD := GR (qM ix w2 hi1)
  go_wp2_with fail
  refine HD.out.mono ?_
  rintro e w4 ⟨rfl, b4⟩
  have hdl := ki ix
  have hz : (tb (el ix)).size ≤ 2 := by rw [aB]; exact hdl
  have HB4 := GR b4
  clear b4
  go_wp2_with fail
  go_ret
  have HJW : aT g (aw g m) n t fr = 94 :: el ix := by unfold aT kB; rw [if_neg HP.out, HIX.out]
  have HJV : ∀ {α : Type} (V : Nat → Fr → List α), cG g V n t fr = [] := fun V => by unfold cG; rw [if_neg fun h => HP.out h.1]
  refine ⟨by rw [HJW, ← jb]; rfl, Turns.of_below ((af (af HB1.out HB2.out) HB4.out)), ?_⟩
  rw [HJV, HJV]
  exact (HM1.out.below HB2.out).below HB4.out
theorem qP (g : List Bl) (a b : List (Nat × Fr)) : qO g (a ++ b) = qO g a ++ qO g b := List.map_append
theorem jH {α : Type} {g : List Bl} {V : Nat → Fr → List α} {n : Nat} {fr : Fr} (h : ai g n = []) : gp g V n fr = [] := by unfold gp; rw [h]; rfl
theorem kH {α : Type} {g : List Bl} {V : Nat → Fr → List α} {n t : Nat} {fr : Fr} (h : ai g n = [t]) : gp g V n fr = cG g V n t fr := by unfold gp; rw [h]; simp
theorem kI {α : Type} {g : List Bl} {V : Nat → Fr → List α} {n t u : Nat} {fr : Fr} (h : ai g n = [t, u]) : gp g V n fr = cG g V n t fr ++ cG g V n u fr := by unfold gp; rw [h]; simp
theorem mD {g : List Bl} {T : Nat → Fr → List UInt8} {n : Nat} {fr : Fr} (h : ai g n = []) : dM g T n fr = [au g n, 46] := by unfold dM; rw [h]
theorem nU {g : List Bl} {T : Nat → Fr → List UInt8} {n t : Nat} {fr : Fr} (h : ai g n = [t]) : dM g T n fr = au g n :: aT g T n t fr := by unfold dM; rw [h]
theorem nV {g : List Bl} {T : Nat → Fr → List UInt8} {n t u : Nat} {fr : Fr} (h : ai g n = [t, u]) : dM g T n fr = 63 :: au g n :: 91 :: (aT g T n t fr ++ 93 :: 91 :: (aT g T n u fr ++ [93])) := by unfold dM; rw [h]
theorem qQ (hv : aa g = true) (hT : ew g) {m : Nat} (hTA : nT g MB AB PB A cap m) (n : Nat) (hn : Rch g [] n) (hL : (ac g).length ≤ m + 1 + ah g n) (hgn : g.length + aO g ≤ 1048576) :
  ∀ (bs : List Nat) (fr : Fr) (ar pt : Nat → List UInt8) (w : World), bs <:+ aq g n → InvIn g n bs fr → OkIn g n bs fr → Mk w MB AB PB A cap g ar pt →
  Calls Tryz.prog 144 #[.pointer (some ⟨MB, 0, none⟩), .string (cy g n), .string (ae g bs), .string (tb (cH g fr))] w fun e w' =>
   e = .returned (.string (tb (aJ g (aw g m) n bs fr))) ∧ MkT AB PB w w' ∧ Mk w' MB AB PB A cap g (fZ ar (qO g (bt g (m9 g m) n bs fr))) (fZ pt (bt g (jy g m) n bs fr))
 | [], fr, ar, pt, w, hs, hI, hO, hM => by
  clear hs
  have hl := hn.lt hv
  have hpos : aP g (cy g n) = some n := by rw [← eM hv hl]; exact pN hv hl
  have HNX := GR (gq A cap g (cy g n) n w hM.gr (by omega) hpos hl)
  rw [zL hv hl] at HNX
  have c0 : w.cell? ⟨MB, 0, none⟩ = some (.slice A g.length cap) := hM.blk.cell 0
  have x0 : (⟨#[]⟩ : ByteArray).toList.isEmpty = true := by rw [Lib.toList_data]; rfl
  have h2 := iO hv hl
  have HJ := GR (fun t ar pt W (ht : t ∈ ai g n) hM => Du hv hT hTA n t fr ar pt W hn ht hL hI hO hM)
  have hjs : ∀ t ∈ ai g n, (aT g (aw g m) n t fr).length ≤ 416 := fun t ht => xH hv hT (.step hn ht (by simp)) fr
  have HM := GR hM
  have hnz : (cy g n).size = 1 := rfl
  have hfl := hO.len hv
  have hfz : (tb (cH g fr)).size ≤ 52 := by rw [aB]; unfold cH; rw [List.length_map]; exact hfl
  rw [show aJ g (aw g m) n [] fr = dM g (aw g m) n fr from rfl, show bt g (m9 g m) n [] fr = gp g (m9 g m) n fr from rfl, show bt g (jy g m) n [] fr = gp g (jy g m) n fr from rfl]
  rw [show ae g [] = ⟨#[]⟩ from rfl]
  match hx : ai g n, h2 with
  | [], _ =>
   rw [hx] at HNX
   rw [mD hx, jH hx, jH hx]
   clear hx HJ hjs hI hO hM hpos hn hT hTA hL h2
   go_enter Tryz.func144, Tryz.ntmps144
   go_wp2_with fail
   refine HNX.out.mono ?_
   rintro e w1 ⟨rfl, b1⟩
   have HB1 := GR b1
   clear b1
   go_wp2_with fail
   go_ret
   refine ⟨?_, Turns.of_below HB1.out, HM.out.below HB1.out⟩
   have : tb [au g n, 46] = cy g n ++ ⟨#[46]⟩ := by
    apply bg
    simp [tb, cy]
   rw [this]; rfl
  | [t], _ =>
   have HJ1 := GR (fun W hM => HJ.out t ar pt W (by rw [hx]; simp) hM)
   have hj1 := hjs t (by rw [hx]; simp)
   rw [hx] at HNX
   rw [nU hx, kH hx, kH hx]
   have hjz : (tb (aT g (aw g m) n t fr)).size ≤ 416 := by rw [aB]; exact hj1
   obtain ⟨J1, hJ1⟩ : ∃ J1, J1 = aT g (aw g m) n t fr := ⟨_, rfl⟩
   rw [← hJ1] at HJ1 hjz ⊢
   clear hx HJ hjs hI hO hM hpos hn hT hTA hL h2 hj1 hJ1
   go_enter Tryz.func144, Tryz.ntmps144
   go_wp2_with fail
   refine HNX.out.mono ?_
   rintro e w1 ⟨rfl, b1⟩
   have HB1 := GR b1
   have HC1 := GR (HJ1.out w1 (HM.out.below b1))
   clear b1
   go_wp2_with fail
   refine HC1.out.mono ?_
   rintro e w2 ⟨rfl, hT2, hM2⟩
   have HT2 := GR hT2
   have HM2 := GR hM2
   clear hT2 hM2
   go_wp2_with fail
   go_ret
   refine ⟨?_, MkT.trans (Turns.of_below HB1.out) HT2.out, HM2.out⟩
   rw [← jb]; rfl
  | [t, u], _ =>
   have HJ1 := GR (fun W hM => HJ.out t ar pt W (by rw [hx]; simp) hM)
   have HJ2 := GR (fun ar pt W hM => HJ.out u ar pt W (by rw [hx]; simp) hM)
   have hj1 := hjs t (by rw [hx]; simp)
   have hj2 := hjs u (by rw [hx]; simp)
   rw [hx] at HNX
   rw [nV hx, kI hx, kI hx, qP, fC, fC]
   have hjz : (tb (aT g (aw g m) n t fr)).size ≤ 416 := by rw [aB]; exact hj1
   have hjz2 : (tb (aT g (aw g m) n u fr)).size ≤ 416 := by rw [aB]; exact hj2
   obtain ⟨J1, hJ1⟩ : ∃ J1, J1 = aT g (aw g m) n t fr := ⟨_, rfl⟩
   obtain ⟨J2, hJ2⟩ : ∃ J2, J2 = aT g (aw g m) n u fr := ⟨_, rfl⟩
   rw [← hJ1] at HJ1 hjz ⊢
   rw [← hJ2] at HJ2 hjz2 ⊢
   obtain ⟨NX, hNX⟩ : ∃ NX : ByteArray, NX = ⟨([t, u].map (au g)).toArray⟩ := ⟨_, rfl⟩
   rw [← hNX] at HNX
   have e0 : NX.size = 2 := by rw [hNX]; rfl
   have e1 : NX.extract 0 1 = cy g t := by rw [hNX]; rfl
   have e2 : NX.extract 1 2 = cy g u := by rw [hNX]; rfl
   rw [← e1] at HJ1
   rw [← e2] at HJ2
   clear hx HJ hjs hI hO hM hpos hn hT hTA hL h2 hj1 hJ1 hj2 hJ2 e1 e2 hNX
   go_enter Tryz.func144, Tryz.ntmps144
   go_wp2_with fail
   refine HNX.out.mono ?_
   rintro e w1 ⟨rfl, b1⟩
   have HB1 := GR b1
   have HC1 := GR (HJ1.out w1 (HM.out.below b1))
   clear b1
   go_wp2_with fail
   refine HC1.out.mono ?_
   rintro e w2 ⟨rfl, hT2, hM2⟩
   have HT2 := GR hT2
   have HC2 := GR (HJ2.out _ _ w2 hM2)
   clear hT2 hM2
   go_wp2_with fail
   refine HC2.out.mono ?_
   rintro e w3 ⟨rfl, hT3, hM3⟩
   have HT3 := GR hT3
   have HM3 := GR hM3
   clear hT3 hM3
   go_wp2_with fail
   go_ret
   refine ⟨?_, MkT.trans (MkT.trans (Turns.of_below HB1.out) HT2.out) HT3.out, HM3.out⟩
   have : tb (63 :: au g n :: 91 :: (J1 ++ 93 :: 91 :: (J2 ++ [93]))) = (⟨#[63]⟩ : ByteArray) ++ cy g n ++ ⟨#[91]⟩ ++ tb J1 ++ ⟨#[93, 91]⟩ ++ tb J2 ++ ⟨#[93]⟩ := by
    apply bg
    simp [tb, cy]
   rw [this]; rfl
 | y :: bs, fr, ar, pt, w, hs, hI, hO, hM => by
  have hyb : y ∈ aq g n := hs.subset (List.mem_cons_self ..)
  obtain ⟨hy, _, hp⟩ := (dY hv).1 hyb
  have hsrt : (y :: bs).Pairwise fun a b => ah g b < ah g a := (ij hv n).sublist hs.sublist
  have hnb : y ∉ bs := fun h => by have := (List.pairwise_cons.1 hsrt).1 y h; omega
  have hs' : bs <:+ aq g n := (List.suffix_cons y bs).trans hs
  have hpl := eY hv hy hp
  have HIN := GR (qQ hv hT hTA n hn hL hgn bs ((y, false) :: fr) ar pt w hs' hI.wrap (hO.wrap hv hy hp hnb) hM)
  have HCH := GR (fun ar pt W (hM : Mk W MB AB PB A cap g ar pt) => hTA y fr ar pt W hy (by omega) (hI.child hv hsrt hy hp) (hO.child hv hy hp) hM)
  have ze : (ae g (y :: bs)) = cy g y ++ ae g bs := nS hv (hy.lt hv)
  have z1 := na hv hT (m := m) hn hs' ((y, false) :: fr)
  have z2 := li hv hT (m := m) hy fr
  have hfl := hO.len hv
  have hgn26 := (aj.1 hv).2.1
  have hbl : bs.length ≤ 26 := by
   have h1 : (aq g n).length ≤ (ac g).length := by unfold aq; rw [List.length_reverse]; exact List.length_filter_le _ _
   have h2 := hs'.sublist.length_le
   have h3 := bK hv
   omega
  have hbz : (ae g bs).size = bs.length := ax hv _ fun i hi => ((dY hv).1 (hs'.subset hi)).1.lt hv
  obtain ⟨BH, hBH⟩ : ∃ BH, BH = ae g (y :: bs) := ⟨_, rfl⟩
  have hz : BH.size = bs.length + 1 := by rw [hBH, ze, ByteArray.size_append, hbz]; show 1 + _ = _; omega
  have x0 : BH.toList.isEmpty = false := by
   have : BH.toList.length = bs.length + 1 := by rw [Lib.toList_data, Array.length_toList]; exact hz
   cases h : BH.toList with
   | nil => rw [h] at this; simp at this
   | cons _ _ => rfl
  have x1 : BH.extract 0 1 = cy g y := by
   rw [hBH, ze]
   apply bg
   rw [← Lib.toList_data, Lib.extract_toList]
   simp [cy]
  have x2 : BH.extract 1 (bs.length + 1) = ae g bs := by
   rw [hBH, ze]
   apply bg
   rw [← Lib.toList_data, Lib.extract_toList]
   have : (ae g bs).data.toList.length = bs.length := by rw [Array.length_toList]; exact hbz
   rw [← this]
   simp [cy]
   exact List.take_of_length_le (by rw [Array.length_toList]; exact Nat.le_refl _)
  have x3 : BH.extract 0 1 ++ tb (cH g fr) = tb (cH g ((y, false) :: fr)) := by
   rw [x1]
   show (⟨#[au g y]⟩ : ByteArray) ++ tb (cH g fr) = _
   rw [jb]; rfl
  rw [← x2, ← x3] at HIN
  have HCH2 : Hid (∀ ar pt W, Mk W MB AB PB A cap g ar pt → Calls Tryz.prog 95 #[.pointer (some ⟨MB, 0, none⟩), .string (BH.extract 0 1), .string (tb (cH g fr))] W fun e w' => e = .returned (.string (tb (aw g m y fr))) ∧ MkT AB PB W w' ∧ Mk w' MB AB PB A cap g (fZ ar (qO g (m9 g m y fr))) (fZ pt (jy g m y fr))) := GR (fun ar pt W hM => by rw [x1]; exact HCH.out ar pt W hM)
  have hfz : (tb (cH g fr)).size ≤ 52 := by rw [aB]; unfold cH; rw [List.length_map]; exact hfl
  have hwz : (tb (aJ g (aw g m) n bs ((y, false) :: fr))).size ≤ 428 := by rw [aB]; exact z1
  have htz : (tb (aw g m y fr)).size ≤ 416 := by rw [aB]; exact z2
  have hez : (BH.extract 0 1).size = 1 := by rw [x1]; rfl
  have HX3 := GR x3
  rw [← hBH]
  clear HCH x1 x2 x3 hBH ze hbz hsrt hs hs' hI hO hM hp hy hyb hpl hnb z1 z2 hfl hL
  rw [show aJ g (aw g m) n (y :: bs) fr = 40 :: (aJ g (aw g m) n bs ((y, false) :: fr) ++ 41 :: aw g m y fr) from rfl]
  rw [show bt g (m9 g m) n (y :: bs) fr = bt g (m9 g m) n bs ((y, false) :: fr) ++ m9 g m y fr from rfl, show bt g (jy g m) n (y :: bs) fr = bt g (jy g m) n bs ((y, false) :: fr) ++ jy g m y fr from rfl, qP, fC, fC]
  obtain ⟨W1, hW1⟩ : ∃ W1, W1 = aJ g (aw g m) n bs ((y, false) :: fr) := ⟨_, rfl⟩
  obtain ⟨T1, hT1⟩ : ∃ T1, T1 = aw g m y fr := ⟨_, rfl⟩
  rw [← hW1] at HIN hwz ⊢
  rw [← hT1] at HCH2 htz ⊢
  clear hW1 hT1
  go_enter Tryz.func144, Tryz.ntmps144
  go_wp2_with fail
  refine HIN.out.mono ?_
  rintro e w2 ⟨rfl, hT2, hM2⟩
  have HT2 := GR hT2
  have HC2 := GR (HCH2.out _ _ w2 hM2)
  clear hT2 hM2
  go_wp2_with fail
  refine HC2.out.mono ?_
  rintro e w3 ⟨rfl, hT3, hM3⟩
  have HT3 := GR hT3
  have HM3 := GR hM3
  clear hT3 hM3
  go_wp2_with fail
  go_ret
  refine ⟨?_, MkT.trans HT2.out HT3.out, HM3.out⟩
  have : tb (40 :: (W1 ++ 41 :: T1)) = (⟨#[40]⟩ : ByteArray) ++ tb W1 ++ ⟨#[41]⟩ ++ tb T1 := by
   apply bg
   simp [tb]
  rw [this]; rfl
def eD (g : List Bl) (n k : Nat) : List Nat := (((ac g).drop k).filter fun c => decide (c ∈ ak g) && decide (bF g c = some n)).reverse
theorem zM (g : List Bl) (n : Nat) : eD g n 0 = aq g n := rfl
theorem BE (g : List Bl) (n : Nat) : eD g n (ac g).length = [] := by unfold eD; rw [List.drop_length]; rfl
theorem zN {g : List Bl} {n k : Nat} (hk : k < (ac g).length) : eD g n k = eD g n (k + 1) ++ (if (decide ((ac g)[k] ∈ ak g) && decide (bF g (ac g)[k] = some n)) = true then [(ac g)[k]] else []) := by
 unfold eD
 rw [List.drop_eq_getElem_cons hk, List.filter_cons]
 split
 ·rw [List.reverse_cons]
 ·rw [List.append_nil]
theorem vG {g : List Bl} (a : List Nat) (x : Nat) : ae g (a ++ [x]) = ae g a ++ ay g x := by rw [be, bp]
theorem lK {w : World} {b o B i : Nat} {v : Value} (h : b ≠ B) : (w.setCell ⟨B, i, none⟩ v).cell? ⟨b, o, none⟩ = w.cell? ⟨b, o, none⟩ := by
 have := Below.heap_setCell w ⟨B, i, none⟩ v b h
 unfold World.cell?
 rw [this]
theorem Gr.set_other {w : World} {A : Option Addr} {g : List Bl} (h : Gr w A g) {B i : Nat} {v : Value} (hA : ∀ b off, A = some ⟨b, off, none⟩ → b ≠ B) : Gr (w.setCell ⟨B, i, none⟩ v) A g := by
 intro hn
 obtain ⟨b, off, e, hb, hc⟩ := h hn
 refine ⟨b, off, e, by simpa using hb, fun k hk => ?_⟩
 rw [lK (hA b off e), lK (hA b off e)]
 exact hc k hk
theorem Mk.setA {w : World} {ar pt : Nat → List UInt8} (h : Mk w MB AB PB A cap g ar pt) (n : Nat) (v : List UInt8) : Mk (w.setCell ⟨AB, n, none⟩ (.string (tb v))) MB AB PB A cap g (fun j => if j = n then v else ar j) pt := by
 refine ⟨(Below.heap_setCell _ _ _ _ h.ma).trans h.blk, ?_, (Below.heap_setCell _ _ _ _ (fun e => h.ap e.symm)).trans h.pt, h.gr.set_other fun b off e => (h.ga b off e).1, h.ap, h.ma, h.mp, h.ga⟩
 have := h.ar.set_ n (.string (tb v))
 rw [vF] at this
 exact this
theorem Mk.setP {w : World} {ar pt : Nat → List UInt8} (h : Mk w MB AB PB A cap g ar pt) (n : Nat) (v : List UInt8) : Mk (w.setCell ⟨PB, n, none⟩ (.string (tb v))) MB AB PB A cap g ar (fun j => if j = n then v else pt j) := by
 refine ⟨(Below.heap_setCell _ _ _ _ h.mp).trans h.blk, (Below.heap_setCell _ _ _ _ h.ap).trans h.ar, ?_, h.gr.set_other fun b off e => (h.ga b off e).2, h.ap, h.ma, h.mp, h.ga⟩
 have := h.pt.set_ n (.string (tb v))
 rw [vF] at this
 exact this
theorem Dv {g : List Bl} (hv : aa g = true) {n c : Nat} (hc : Rch g [] c) : bF g c = some n ↔ c ∈ di g n := by
 rw [fV hv, db hv hc]
 exact ⟨fun h => ⟨hc, h⟩, fun h => h.2⟩
theorem Dw (hv : aa g = true) (hT : ew g) (hgn : g.length + aO g ≤ 1048576) {m : Nat} (hTA : nT g MB AB PB A cap m) : nT g MB AB PB A cap (m + 1) := by
 intro n fr ar pt w hn hL hI hO hM
 have hl := hn.lt hv
 have h26 := (aj.1 hv).2.1
 have hpos : aP g (cy g n) = some n := by rw [← eM hv hl]; exact pN hv hl
 have HIX := GR (fun W (h : Gr W A g) => by have := tA A cap g (cy g n) W h (by omega); rw [hpos] at this; exact this)
 have HKD := GR (fun W (h : Gr W A g) => si A cap g (cy g n) n W h hgn hv hl (eM hv hl).symm)
 have hfl := hO.len hv
 have hfz : (tb (cH g fr)).size ≤ 52 := by rw [aB]; unfold cH; rw [List.length_map]; exact hfl
 have HIN := GR (fun ar pt W (hM : Mk W MB AB PB A cap g ar pt) => qQ hv hT hTA n hn (by omega) hgn (aq g n) (cf g n fr) ar pt W (List.suffix_refl _) (InvOut.into hv hI) (OkOut.into hO hl) hM)
 have hwl := na hv hT (m := m) hn (List.suffix_refl (aq g n)) (cf g n fr)
 have hwz : (tb (aJ g (aw g m) n (aq g n) (cf g n fr))).size ≤ 428 := by rw [aB]; exact hwl
 have c0 : w.cell? ⟨MB, 0, none⟩ = some (.slice A g.length cap) := hM.blk.cell 0
 have HM := GR hM
 have HV := GR hv
 have hli : (n : Int) < (g.length : Int) := by omega
 clear hM hwl hpos hI hO hT hTA
 go_enter Tryz.func95, Tryz.ntmps95
 go_wp2_with fail
 refine (HIX.out w HM.out.gr).mono ?_
 rintro e w1 ⟨rfl, b1⟩
 have HB1 := GR b1
 have HM1 := GR (HM.out.below b1)
 have c4 : w1.cell? ⟨MB, 4, none⟩ = some (.slice (some ⟨AB, 0, none⟩) g.length g.length) := HM1.out.blk.cell 4
 have ca : w1.cell? ⟨AB, n, none⟩ = some (.string (tb (ar n))) := by rw [HM1.out.ar.cell n, iH _ hl]
 have fa := HM1.out.ar.frozen n
 clear b1
 rw [show BO (some n) = (n : Int) from rfl]
 obtain ⟨W1, hW1⟩ : ∃ W1, W1 = w1.setCell ⟨AB, n, none⟩ (.string (tb (cH g fr))) := ⟨_, rfl⟩
 have HM2 := GR (show Mk W1 MB AB PB A cap g (fun j => if j = n then cH g fr else ar j) pt by rw [hW1]; exact HM1.out.setA n (cH g fr))
 have HT1 := GR (show MkT AB PB w W1 by rw [hW1]; exact MkT.trans (Turns.of_below HB1.out) (Turns.setCell (p := ⟨AB, n, none⟩) (.inl rfl) _))
 have c02 : W1.cell? ⟨MB, 0, none⟩ = some (.slice A g.length cap) := HM2.out.blk.cell 0
 have HW1 := GR hW1
 have c02' : (w1.setCell ⟨AB, n, none⟩ (.string (tb (cH g fr)))).cell? ⟨MB, 0, none⟩ = some (.slice A g.length cap) := by rw [← hW1]; exact c02
 clear hW1 c0
 go_wp2_with fail
 rw [← HW1.out]
 refine (HKD.out W1 HM2.out.gr).mono ?_
 rintro e w2 ⟨rfl, b2⟩
 have HB2 := GR b2
 clear b2 c02 c02' c4 ca fa
 have c1 : w2.cell? ⟨MB, 1, none⟩ = some (.string (ae g (ac g))) := (HM2.out.below HB2.out).blk.cell 1
 have hol : ∀ i ∈ ac g, i < g.length := aX HV.out
 have hzO : (ae g (ac g)).size = (ac g).length := ax HV.out _ hol
 have hL26 : (ac g).length ≤ 26 := by have := bK HV.out; omega
 have hkz : (ae g (di g n)).size ≤ 4611686018427387904 := by
  rw [ax HV.out _ (yh HV.out)]
  have h1 : (di g n).length ≤ (am g).length := List.length_filter_le _ _
  have h2 := bO HV.out
  omega
 have hmz : (ae g (ak g)).size ≤ 4611686018427387904 := by
  have hml : ∀ i ∈ ak g, i < g.length := dP 2 bD
  rw [ax HV.out _ hml]
  have h1 : (ak g).length ≤ (am g).length := eX 2 bD
  have h2 := bO HV.out
  omega
 obtain ⟨ORD, hORD⟩ : ∃ ORD, ORD = ae g (ac g) := ⟨_, rfl⟩
 obtain ⟨KDS, hKDS⟩ : ∃ KDS, KDS = ae g (di g n) := ⟨_, rfl⟩
 obtain ⟨MTS, hMTS⟩ : ∃ MTS, MTS = ae g (ak g) := ⟨_, rfl⟩
 rw [← hORD] at c1 hzO
 rw [← hKDS] at hkz ⊢
 rw [← hMTS] at hmz
 have HORD := GR hORD
 have HKDS := GR hKDS
 have HMTS := GR hMTS
 have HKZ := GR hkz
 have HMZ := GR hmz
 have HOL := GR hol
 clear hORD hKDS hMTS hkz hmz hol
 go_wp2_with fail
 go_loopw [9, 10] (fun bv kv wr => ∃ k : Nat, k ≤ (ac g).length ∧ kv = .int .i64 ((k : Int) - 1) ∧ bv = .string (ae g (eD g n k)) ∧ Hid (Below w2.heap.size w2 wr)) (fun _ kv _ => (intOf kv + 1).toNat)
 case atStart =>
  refine ⟨(ac g).length, Nat.le_refl _, ?_, ?_, Below.refl _ _⟩
  ·first | rfl | (congr 1; omega) | go_num
  ·rw [BE]; rfl
 case round =>
  obtain ⟨k, hk, rfl, rfl, HB⟩ := hrel
  cases k with
  | zero =>
   have g0 : decide ((0 : Int) ≤ ((0 : Nat) : Int) - 1) = false := by decide
   rw [zM]
   go_wp2_with fail
   have hHl : ∀ i ∈ aL g, i < g.length := dP 1 aS
   obtain ⟨HDS, hHDS⟩ : ∃ HDS, HDS = ae g (aL g) := ⟨_, rfl⟩
   have hhz : HDS.size ≤ 4611686018427387904 := by
    rw [hHDS, ax HV.out _ hHl]
    have := mg HV.out
    omega
   have HMr := GR ((HM2.out.below HB2.out).below HB.out)
   have c3r : wr.cell? ⟨MB, 3, none⟩ = some (.string HDS) := by rw [hHDS]; exact HMr.out.blk.cell 3
   obtain ⟨X, hX⟩ : ∃ X, X = cy g n := ⟨_, rfl⟩
   have hXz : X.size = 1 := by rw [hX]; rfl
   have bX : (X[0]'(by omega)) = au g n := by subst hX; rfl
   obtain ⟨x3, hx3⟩ : ∃ x3, x3 = Lib.indexByte HDS.data.toList (au g n) := ⟨_, rfl⟩
   have hi3 : 0 ≤ x3 ↔ n ∈ aL g := by rw [hx3, hHDS]; exact co HV.out hHl hl (bu HV.out hl)
   have tC3 : ∀ k, Calls Tryz.prog 114 #[.string HDS, .int .u8 (X[0]'(by omega)).toNat] (wr.drewN k) fun e w'' => e = .returned (.int .i64 x3) ∧ ∃ m, w'' = wr.drewN m := fun k => by
    have h := bf HDS (X[0]'(by omega)) (wr.drewN k) hhz
    rw [bX, ← hx3, ← bX] at h
    exact Calls.quiet_of_same (h.mono fun _ _ ⟨a, b⟩ => ⟨a, b.symm⟩)
   rw [← hX] at HIN ⊢
   have HXX := GR hX
   clear hx3 hHDS hHl hhz hX bX
   by_cases hh : n ∈ aL g
   ·have y1 : 0 ≤ x3 := hi3.2 hh
    have HHH := GR hh
    clear hi3 hh
    go_wp2_with fail
    go_quiet (with_reducible exact tC3 _)
    clear tC3
    obtain ⟨W5, hW5⟩ : ∃ W5, W5 = wr.drewN nq := ⟨_, rfl⟩
    have HB5 := GR (show Below wr.heap.size wr W5 by rw [hW5]; exact ab wr nq)
    rw [← hW5]
    clear hW5 c3r
    have HSM := GR (tm X (au g n) W5 HXX.out (gV HV.out hl).2)
    go_wp2_with fail
    refine HSM.out.mono ?_
    rintro e w6 ⟨rfl, b6⟩
    have HB6 := GR b6
    clear b6
    have HM6 := GR ((HMr.out.below HB5.out).below HB6.out)
    have e1 : tb (cH g (cf g n fr)) = (⟨#[au g n + 32]⟩ : ByteArray) ++ tb (cH g fr) := by
     rw [jb]; unfold cf; rw [if_pos HHH.out]; rfl
    rw [e1] at HIN
    have HRT := GR (show aw g (m + 1) n fr = 123 :: (aJ g (aw g m) n (aq g n) (cf g n fr) ++ [125]) by
     rw [aw, if_pos HHH.out]; unfold cf; rw [if_pos HHH.out])
    obtain ⟨WW, hWW⟩ : ∃ WW, WW = aJ g (aw g m) n (aq g n) (cf g n fr) := ⟨_, rfl⟩
    rw [← hWW] at HIN HRT hwz
    have HC6 := GR (HIN.out _ _ w6 HM6.out)
    clear hWW e1 HIN
    go_wp2_with fail
    refine HC6.out.mono ?_
    rintro e w7 ⟨rfl, hT7, hM7⟩
    have HT7 := GR hT7
    have HM7 := GR hM7
    have c5 : w7.cell? ⟨MB, 5, none⟩ = some (.slice (some ⟨PB, 0, none⟩) g.length g.length) := hM7.blk.cell 5
    have cp : ∃ z, w7.cell? ⟨PB, n, none⟩ = some (.string z) := ⟨_, by rw [hM7.pt.cell n, iH _ hl]⟩
    obtain ⟨z, cp⟩ := cp
    have fp := hM7.pt.frozen n
    clear hT7 hM7
    go_wp2_with fail
    go_ret
    have HTB := GR (show (⟨#[123]⟩ : ByteArray) ++ tb WW ++ ⟨#[125]⟩ = tb (aw g (m + 1) n fr) by
     rw [HRT.out]; apply bg; simp [tb])
    refine ⟨?_, ?_, ?_⟩
    ·rw [← HTB.out]; rfl
    ·refine MkT.trans HT1.out (MkT.trans (Turns.of_below (((HB2.out.trans (HB.out.mono HB2.out.size)).trans (HB5.out.mono (Nat.le_trans HB2.out.size HB.out.size))).trans (HB6.out.mono (Nat.le_trans (Nat.le_trans HB2.out.size HB.out.size) HB5.out.size)))) (MkT.trans HT7.out (Turns.setCell (p := ⟨PB, n, none⟩) (.inr rfl) _)))
    ·rw [HTB.out]
     have := HM7.out.setP n (aw g (m + 1) n fr)
     rw [show jy g (m + 1) n fr = bt g (jy g m) n (aq g n) (cf g n fr) ++ [(n, aw g (m + 1) n fr)] from rfl, fC, vE]
     exact this
   ·have y1 : x3 < 0 := by
     by_cases h : x3 < 0
     ·exact h
     ·exact absurd (hi3.1 (by omega)) hh
    have y3 : decide ((0 : Int) ≤ x3) = false := decide_eq_false (by omega)
    have y4 : ¬ (0 : Int) ≤ x3 := by omega
    have HHH := GR hh
    clear hi3 hh y1
    go_wp2_with fail
    go_quiet (with_reducible exact tC3 _)
    clear tC3
    obtain ⟨W5, hW5⟩ : ∃ W5, W5 = wr.drewN nq := ⟨_, rfl⟩
    have HB5 := GR (show Below wr.heap.size wr W5 by rw [hW5]; exact ab wr nq)
    rw [← hW5]
    clear hW5 c3r
    have HM6 := GR (HMr.out.below HB5.out)
    have e1 : tb (cH g (cf g n fr)) = tb (cH g fr) := by
     unfold cf; rw [if_neg HHH.out]
    rw [e1] at HIN
    have HRT := GR (show aJ g (aw g m) n (aq g n) (cf g n fr) = aw g (m + 1) n fr by
     rw [aw, if_neg HHH.out]; unfold cf; rw [if_neg HHH.out])
    obtain ⟨WW, hWW⟩ : ∃ WW, WW = aJ g (aw g m) n (aq g n) (cf g n fr) := ⟨_, rfl⟩
    rw [← hWW] at HIN HRT hwz
    have HC6 := GR (HIN.out _ _ W5 HM6.out)
    clear hWW e1 HIN
    go_wp2_with fail
    refine HC6.out.mono ?_
    rintro e w7 ⟨rfl, hT7, hM7⟩
    have HT7 := GR hT7
    have HM7 := GR hM7
    have c5 : w7.cell? ⟨MB, 5, none⟩ = some (.slice (some ⟨PB, 0, none⟩) g.length g.length) := hM7.blk.cell 5
    have cp : ∃ z, w7.cell? ⟨PB, n, none⟩ = some (.string z) := ⟨_, by rw [hM7.pt.cell n, iH _ hl]⟩
    obtain ⟨z, cp⟩ := cp
    have fp := hM7.pt.frozen n
    clear hT7 hM7
    go_wp2_with fail
    go_ret
    refine ⟨?_, ?_, ?_⟩
    ·rw [HRT.out]; rfl
    ·refine MkT.trans HT1.out (MkT.trans (Turns.of_below ((HB2.out.trans (HB.out.mono HB2.out.size)).trans (HB5.out.mono (Nat.le_trans HB2.out.size HB.out.size)))) (MkT.trans HT7.out (Turns.setCell (p := ⟨PB, n, none⟩) (.inr rfl) _)))
    ·rw [HRT.out]
     have := HM7.out.setP n (aw g (m + 1) n fr)
     rw [show jy g (m + 1) n fr = bt g (jy g m) n (aq g n) (cf g n fr) ++ [(n, aw g (m + 1) n fr)] from rfl, fC, vE]
     exact this
  | succ j =>
   have ej : ((j + 1 : Nat) : Int) - 1 = (j : Int) := by omega
   rw [ej]
   have c1r : wr.cell? ⟨MB, 1, none⟩ = some (.string ORD) := (HB.out.cell (p := ⟨MB, 1, none⟩) (HM2.out.below HB2.out).blk.lt).trans c1
   have c2r : wr.cell? ⟨MB, 2, none⟩ = some (.string MTS) := by rw [HMTS.out]; exact ((HM2.out.below HB2.out).below HB.out).blk.cell 2
   obtain ⟨c, hc⟩ : ∃ c, c = (ac g)[j] := ⟨_, rfl⟩
   have hcr : Rch g [] c := (aA HV.out).1 (by rw [hc]; exact List.getElem_mem _)
   have hcl := hcr.lt HV.out
   obtain ⟨C, hC⟩ : ∃ C, C = ORD.extract j (j + 1) := ⟨_, rfl⟩
   have hCn : C = cy g c := by rw [hC, HORD.out, mh HV.out HOL.out (by omega), ← hc, eM HV.out hcl]
   have hCz : C.size = 1 := by rw [hCn]; rfl
   have bC : (C[0]'(by omega)) = au g c := by subst hCn; rfl
   obtain ⟨x1, hx1⟩ : ∃ x1, x1 = Lib.indexByte KDS.data.toList (au g c) := ⟨_, rfl⟩
   obtain ⟨x2, hx2⟩ : ∃ x2, x2 = Lib.indexByte MTS.data.toList (au g c) := ⟨_, rfl⟩
   have hi1 : 0 ≤ x1 ↔ c ∈ di g n := by rw [hx1, HKDS.out]; exact co HV.out (yh HV.out) hcl (bu HV.out hcl)
   have hi2 : 0 ≤ x2 ↔ c ∈ ak g := by rw [hx2, HMTS.out]; exact co HV.out (dP 2 bD) hcl (bu HV.out hcl)
   have tC1 : ∀ k, Calls Tryz.prog 114 #[.string KDS, .int .u8 (C[0]'(by omega)).toNat] (wr.drewN k) fun e w'' => e = .returned (.int .i64 x1) ∧ ∃ m, w'' = wr.drewN m := fun k => by
    have h := bf KDS (C[0]'(by omega)) (wr.drewN k) HKZ.out
    rw [bC, ← hx1, ← bC] at h
    exact Calls.quiet_of_same (h.mono fun _ _ ⟨a, b⟩ => ⟨a, b.symm⟩)
   have tC2 : ∀ k, Calls Tryz.prog 114 #[.string MTS, .int .u8 (C[0]'(by omega)).toNat] (wr.drewN k) fun e w'' => e = .returned (.int .i64 x2) ∧ ∃ m, w'' = wr.drewN m := fun k => by
    have h := bf MTS (C[0]'(by omega)) (wr.drewN k) HMZ.out
    rw [bC, ← hx2, ← bC] at h
    exact Calls.quiet_of_same (h.mono fun _ _ ⟨a, b⟩ => ⟨a, b.symm⟩)
   have hst := zN (g := g) (n := n) (k := j) (by omega)
   rw [← hc] at hst
   have hpk := Dv HV.out (n := n) hcr
   have hbz : (ae g (eD g n (j + 1))).size ≤ 26 := by
    have hbl : ∀ i ∈ eD g n (j + 1), i < g.length := fun i hi => by
     unfold eD at hi
     rw [List.mem_reverse] at hi
     exact HOL.out i (List.drop_subset _ _ (List.mem_filter.1 hi).1)
    rw [ax HV.out _ hbl]
    unfold eD
    rw [List.length_reverse]
    refine Nat.le_trans (List.length_filter_le _ _) ?_
    rw [List.length_drop]; omega
   have HCN := GR hCn
   have hjI : (j : Int) + 1 ≤ (ac g).length := by omega
   have hj0 : (0 : Int) ≤ (j : Int) := by omega
   have s1 : IntKind.i64.wrap ((j : Int) + 1) = (j : Int) + 1 := IntWalk.i64_in _ (by omega)
   have s2 : ((j : Int) + 1).toNat = j + 1 := by omega
   have HHC := GR hC
   have hCr : ORD.extract j (j + 1) = C := hC.symm
   clear hx1 hx2 hc hCn bC hC
   by_cases h1 : c ∈ di g n
   ·have y1 : 0 ≤ x1 := hi1.2 h1
    by_cases h2 : c ∈ ak g
    ·have y2 : 0 ≤ x2 := hi2.2 h2
     have HST := GR (show ae g (eD g n j) = ae g (eD g n (j + 1)) ++ C by
      rw [hst, if_pos (by rw [Bool.and_eq_true, decide_eq_true_iff, decide_eq_true_iff]; exact ⟨h2, hpk.2 h1⟩), vG, eM HV.out hcl, HCN.out])
     clear hi1 hi2 h1 h2 hst hpk
     go_wp2_with fail
     go_quiet (first | with_reducible exact tC1 _ | with_reducible exact tC2 _)
     clear tC1 tC2
     go_wp2_with fail
     go_roundw
     case measure => simp [intOf]
     case rel => exact ⟨j, by omega, by go_num, by rw [HST.out], HB.out.trans ((ab _ nq).mono HB.out.size)⟩
    ·have y2 : x2 < 0 := by
      by_cases h : x2 < 0
      ·exact h
      ·exact absurd (hi2.1 (by omega)) h2
     have HST := GR (show ae g (eD g n j) = ae g (eD g n (j + 1)) by
      rw [hst, if_neg (by rw [Bool.and_eq_true, decide_eq_true_iff]; exact fun h => h2 h.1), List.append_nil])
     clear hi1 hi2 h1 h2 hst hpk
     go_wp2_with fail
     go_quiet (first | with_reducible exact tC1 _ | with_reducible exact tC2 _)
     clear tC1 tC2
     go_wp2_with fail
     go_roundw
     case measure => simp [intOf]
     case rel => exact ⟨j, by omega, by go_num, by rw [HST.out], HB.out.trans ((ab _ nq).mono HB.out.size)⟩
   ·have y1 : x1 < 0 := by
     by_cases h : x1 < 0
     ·exact h
     ·exact absurd (hi1.1 (by omega)) h1
    have y3 : decide ((0 : Int) ≤ x1) = false := decide_eq_false (by omega)
    have y4 : ¬ (0 : Int) ≤ x1 := by omega
    clear y1
    have HST := GR (show ae g (eD g n j) = ae g (eD g n (j + 1)) by
     rw [hst, if_neg (by rw [Bool.and_eq_true, decide_eq_true_iff, decide_eq_true_iff]; exact fun h => h1 (hpk.1 h.2)), List.append_nil])
    clear hi1 hi2 h1 hst hpk
    go_wp2_with fail
    go_quiet (first | with_reducible exact tC1 _ | with_reducible exact tC2 _)
    clear tC1 tC2
    go_wp2_with fail
    go_roundw
    case measure => simp [intOf]
    case rel => exact ⟨j, by omega, by go_num, by rw [HST.out], HB.out.trans ((ab _ nq).mono HB.out.size)⟩
theorem vH (hv : aa g = true) (hT : ew g) (hgn : g.length + aO g ≤ 1048576) : ∀ m, nT g MB AB PB A cap m
 | 0 => fun n fr ar pt w hn hL hI hO hM => absurd hL (by have := j7 hv hn; omega)
 | m + 1 => Dw hv hT hgn (vH hv hT hgn m)
end Go.Proofs.YtlkfakdghjaoaaaGreatDoor
