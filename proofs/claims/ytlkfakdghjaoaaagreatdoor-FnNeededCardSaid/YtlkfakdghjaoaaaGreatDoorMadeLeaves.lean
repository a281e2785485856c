import Derived.Test.YtlkfakdghjaoaaaGreatDoorFrameFacts
namespace Go.Proofs.YtlkfakdghjaoaaaGreatDoor
open Go.RowKit Go.Sort
def gH (fr : Fr) (x : Nat × Bool) : It := .leave (fr.findIdx fun y => decide (y = x))
def ff (g : List Bl) (T : Nat → Fr → List It) (n t : Nat) (fr : Fr) : List It :=
 if ah g n < ah g t then (if t ∈ ak g then [gH fr (t, false)] else T t fr) else [gH fr (t, true)]
def ii (g : List Bl) (T : Nat → Fr → List It) (n : Nat) (fr : Fr) : List It :=
 match ai g n with
 | [] => [.blk (au g n), .stop]
 | [t] => .blk (au g n) :: ff g T n t fr
 | t :: u :: _ => [.ask (au g n) (ff g T n t fr) (ff g T n u fr)]
def bW (g : List Bl) (T : Nat → Fr → List It) (n : Nat) : List Nat → Fr → List It
 | [], fr => ii g T n fr
 | y :: bs, fr => .frame false (bW g T n bs ((y, false) :: fr)) :: T y fr
def dX (g : List Bl) : Nat → Nat → Fr → List It
 | 0, _, _ => []
 | m + 1, n, fr => if n ∈ aL g then [.frame true (bW g (dX g m) n (aq g n) ((n, true) :: fr))] else bW g (dX g m) n (aq g n) fr
theorem sZ {fr : Fr} {x : Nat × Bool} {f : Nat} (h : aC (gH fr x) f) : aK (gH fr x) = kB fr x := by
 unfold gH at h ⊢
 rw [aC] at h
 rw [aK]
 unfold kB el dH
 rw [if_pos h.2]
theorem kz {g : List Bl} {T : Nat → Fr → List It} {U : Nat → Fr → List UInt8} {n t : Nat} {fr : Fr} (hT : az (T t fr) fr.length → aH (T t fr) = U t fr) (h : az (ff g T n t fr) fr.length) :
  aH (ff g T n t fr) = aT g U n t fr := by
 unfold ff at h ⊢
 unfold aT
 split
 ·rename_i h1
  rw [if_pos h1] at h
  split
  ·rename_i h2
   rw [if_pos h2, az] at h
   rw [aH, aH, List.append_nil, sZ h.1]
  ·rename_i h2
   rw [if_neg h2] at h
   exact hT h
 ·rename_i h1
  rw [if_neg h1, az] at h
  rw [aH, aH, List.append_nil, sZ h.1]
theorem Bh {g : List Bl} {T : Nat → Fr → List It} {U : Nat → Fr → List UInt8} {n : Nat} {fr : Fr} (hT : ∀ t fr, az (T t fr) fr.length → aH (T t fr) = U t fr) (h : az (ii g T n fr) fr.length) :
  aH (ii g T n fr) = dM g U n fr := by
 unfold ii at h ⊢
 unfold dM
 rcases hx : ai g n with _ | ⟨t, _ | ⟨u, ts⟩⟩
 ·rfl
 ·rw [hx] at h
  simp only [az] at h
  simp only [aH, aK]
  rw [kz (hT t fr) h.2]
  rfl
 ·rw [hx] at h
  simp only [az, aC] at h
  simp only [aH, aK]
  rw [kz (hT t fr) h.1.2.1, kz (hT u fr) h.1.2.2, List.append_nil]
theorem iS {g : List Bl} {T : Nat → Fr → List It} {U : Nat → Fr → List UInt8} (hT : ∀ t fr, az (T t fr) fr.length → aH (T t fr) = U t fr) (n : Nat) : ∀ (bs : List Nat) (fr : Fr), az (bW g T n bs fr) fr.length →
  aH (bW g T n bs fr) = aJ g U n bs fr
 | [], fr, h => Bh hT h
 | y :: bs, fr, h => by
  rw [bW, az, aC] at h
  rw [bW, aJ, aH, aK, iS hT n bs ((y, false) :: fr) h.1.2, hT y fr h.2]
  unfold eG gj
  simp
theorem ja (g : List Bl) : ∀ (m n : Nat) (fr : Fr), az (dX g m n fr) fr.length → aH (dX g m n fr) = aw g m n fr
 | 0, _, _, _ => rfl
 | m + 1, n, fr, h => by
  rw [dX] at h ⊢
  rw [aw]
  split
  ·rename_i hh
   rw [if_pos hh, az, aC] at h
   rw [aH, aK, aH, iS (ja g m) n _ ((n, true) :: fr) h.1.2]
   unfold eG gj
   simp
  ·rename_i hh
   rw [if_neg hh] at h
   exact iS (ja g m) n _ fr h
end Go.Proofs.YtlkfakdghjaoaaaGreatDoor

namespace Go.Proofs.YtlkfakdghjaoaaaGreatDoor
open Go.RowKit Go.Sort
def vg (c : UInt8) : Bool := c == 40 || c == 123
def vh (c : UInt8) : Bool := c == 41 || c == 125
def fX : List UInt8 → Nat → Nat
 | [], d => d
 | c :: s, d => if vg c = true then fX s (d + 1) else if vh c = true then fX s (d - 1) else fX s d
def dQ : List UInt8 → Nat → Nat
 | [], d => d
 | c :: s, d => if vg c = true then dQ s (d + 1) else if vh c = true then max d (dQ s (d - 1)) else dQ s d
theorem nK : ∀ (s : List UInt8) (d : Nat), d ≤ dQ s d
 | [], d => Nat.le_refl _
 | c :: s, d => by
  unfold dQ
  split
  ·have := nK s (d + 1); omega
  ·split
   ·exact Nat.le_max_left _ _
   ·exact nK s d
theorem eC : ∀ (a b : List UInt8) (d : Nat), fX (a ++ b) d = fX b (fX a d)
 | [], b, d => rfl
 | c :: a, b, d => by
  rw [List.cons_append, fX, fX]
  split
  ·exact eC a b _
  ·split
   ·exact eC a b _
   ·exact eC a b _
theorem cZ : ∀ (a b : List UInt8) (d : Nat), dQ (a ++ b) d = max (dQ a d) (dQ b (fX a d))
 | [], b, d => by rw [List.nil_append]; have := nK b d; rw [dQ, fX]; omega
 | c :: a, b, d => by
  rw [List.cons_append, dQ, dQ, fX]
  split
  ·exact cZ a b _
  ·split
   ·rw [cZ a b]; omega
   ·exact cZ a b _
theorem dl {c : UInt8} (h : vg c = false ∧ vh c = false) (s : List UInt8) (d : Nat) : fX (c :: s) d = fX s d := by rw [fX, if_neg (by simp [h.1]), if_neg (by simp [h.2])]
theorem bE {c : UInt8} (h : vg c = false ∧ vh c = false) (s : List UInt8) (d : Nat) : dQ (c :: s) d = dQ s d := by rw [dQ, if_neg (by simp [h.1]), if_neg (by simp [h.2])]
theorem iC {c : UInt8} (h : a7 c = true) : vg c = false ∧ vh c = false := by
 have key : ∀ x : UInt8, a7 x = false → c ≠ x := fun x hx e => by rw [e, hx] at h; cases h
 unfold vg vh
 rw [Bool.or_eq_false_iff, Bool.or_eq_false_iff, beq_eq_false_iff_ne, beq_eq_false_iff_ne, beq_eq_false_iff_ne, beq_eq_false_iff_ne]
 exact ⟨⟨key _ (by decide), key _ (by decide)⟩, key _ (by decide), key _ (by decide)⟩
theorem mj {n : Nat} (h : n < 10) : vg (dH n) = false ∧ vh (dH n) = false := by
 revert n; decide +kernel
theorem EF (b : Bool) (s : List UInt8) (d : Nat) : fX (eG b :: s) d = fX s (d + 1) := by cases b <;> rfl
theorem EG (b : Bool) (s : List UInt8) (d : Nat) : fX (gj b :: s) d = fX s (d - 1) := by cases b <;> rfl
theorem rW (b : Bool) (s : List UInt8) (d : Nat) : dQ (eG b :: s) d = dQ s (d + 1) := by cases b <;> rfl
theorem yt (b : Bool) (s : List UInt8) (d : Nat) : dQ (gj b :: s) d = max d (dQ s (d - 1)) := by cases b <;> rfl
mutual
theorem GA : ∀ (i : It) (f : Nat), aC i f → ∀ d, fX (aK i) d = d
 | .blk c, f, h, d => by rw [aC] at h; rw [aK, dl (iC h)]; rfl
 | .ask c l r, f, h, d => by
  rw [aC] at h
  rw [aK, dl (by decide), dl (iC h.1), dl (by decide), eC, nL l f h.2.1, dl (by decide), dl (by decide), eC, nL r f h.2.2, dl (by decide)]
  rfl
 | .stop, f, h, d => by rw [aK]; rfl
 | .frame b l, f, h, d => by
  rw [aC] at h
  rw [aK, EF, eC, nL l (f + 1) h.2, EG]
  rfl
 | .leave n, f, h, d => by rw [aC] at h; rw [aK, dl (by decide), dl (mj h.2)]; rfl
 | .set n, f, h, d => by rw [aC] at h; rw [aK, dl (by decide), dl (mj h)]; rfl
 | .pick bs, f, h, d => by rw [aC] at h; rw [aK, dl (by decide), GB bs f h.2.2]
theorem nL : ∀ (l : List It) (f : Nat), az l f → ∀ d, fX (aH l) d = d
 | [], f, h, d => rfl
 | i :: l, f, h, d => by rw [az] at h; rw [aH, eC, GA i f h.1, nL l f h.2]
theorem GB : ∀ (bs : List (List It)) (f : Nat), dx bs f → ∀ d, fX (bV bs) d = d
 | [], f, h, d => rfl
 | b :: bs, f, h, d => by
  rw [dx] at h
  rw [bV, dl (by decide), eC, nL b f h.1, dl (by decide), GB bs f h.2]
end
mutual
theorem GO : ∀ (i : It) (f : Nat), f ≤ 9 → aC i f → dQ (aK i) f ≤ 9
 | .blk c, f, hf, h => by rw [aC] at h; rw [aK, bE (iC h)]; exact hf
 | .ask c l r, f, hf, h => by
  rw [aC] at h
  rw [aK, bE (by decide), bE (iC h.1), bE (by decide), cZ, nL l f h.2.1, bE (by decide), bE (by decide), cZ, nL r f h.2.2, bE (by decide)]
  have h1 := yu l f hf h.2.1
  have h2 := yu r f hf h.2.2
  rw [dQ]; omega
 | .stop, f, hf, h => by rw [aK]; exact hf
 | .frame b l, f, hf, h => by
  rw [aC] at h
  rw [aK, rW, cZ, nL l (f + 1) h.2, yt]
  have h1 := yu l (f + 1) (by omega) h.2
  rw [dQ]; omega
 | .leave n, f, hf, h => by rw [aC] at h; rw [aK, bE (by decide), bE (mj h.2)]; exact hf
 | .set n, f, hf, h => by rw [aC] at h; rw [aK, bE (by decide), bE (mj h)]; exact hf
 | .pick bs, f, hf, h => by rw [aC] at h; rw [aK, bE (by decide)]; exact GC bs f hf h.2.2
theorem yu : ∀ (l : List It) (f : Nat), f ≤ 9 → az l f → dQ (aH l) f ≤ 9
 | [], f, hf, h => hf
 | i :: l, f, hf, h => by
  rw [az] at h
  rw [aH, cZ, GA i f h.1]
  have h1 := GO i f hf h.1
  have h2 := yu l f hf h.2
  omega
theorem GC : ∀ (bs : List (List It)) (f : Nat), f ≤ 9 → dx bs f → dQ (bV bs) f ≤ 9
 | [], f, hf, h => hf
 | b :: bs, f, hf, h => by
  rw [dx] at h
  rw [bV, bE (by decide), cZ, nL b f h.1, bE (by decide)]
  have h1 := yu b f hf h.1
  have h2 := GC bs f hf h.2
  omega
end
end Go.Proofs.YtlkfakdghjaoaaaGreatDoor

namespace Go.Proofs.YtlkfakdghjaoaaaGreatDoor
open Go.RowKit Go.Sort
theorem vi {fr : Fr} {x : Nat × Bool} (hx : x ∈ fr) (hl : fr.length ≤ 9) : az [gH fr x] fr.length := by
 have : (fr.findIdx fun y => decide (y = x)) < fr.length := List.findIdx_lt_length_of_exists ⟨x, hx, by simp⟩
 rw [az, az]
 unfold gH
 rw [aC]
 exact ⟨⟨this, by omega⟩, trivial⟩
section
variable {g : List Bl} {T : Nat → Fr → List It} {U : Nat → Fr → List UInt8}
theorem Dj (hv : aa g = true) (hT : ew g) (IH : ∀ c fr, Rch g [] c → InvOut g c fr → OkOut g c fr → dQ (U c fr) fr.length ≤ 9 → az (T c fr) fr.length)
  {n t : Nat} {fr : Fr} (hn : Rch g [] n) (hi : InvIn g n [] fr) (ho : OkIn g n [] fr) (ht : t ∈ ai g n) (hm : dQ (aT g U n t fr) fr.length ≤ 9) : az (ff g T n t fr) fr.length := by
 have hl : fr.length ≤ 9 := Nat.le_trans (nK _ _) hm
 unfold aT at hm
 unfold ff
 split
 ·rename_i h1
  rw [if_pos h1] at hm
  split
  ·rename_i h2; exact vi (hi.fwd hv hn ht h1 h2) hl
  ·rename_i h2
   rw [if_neg h2] at hm
   obtain ⟨hr, hp⟩ := tl hv hT hn (kF.2 ⟨ht, h1, h2⟩)
   exact IH t fr hr (hi.jump hv hr hp) (ho.child hv hr hp) hm
 ·rename_i h1; exact vi (hi.back hv hT hn ht h1) hl
theorem zE (hv : aa g = true) {n : Nat} (hn : n < g.length) : a7 (au g n) = true := by
 have := gV hv hn
 unfold a7
 rw [Bool.and_eq_true, decide_eq_true_iff, decide_eq_true_iff]
 exact this
theorem Dk (hv : aa g = true) (hT : ew g) (IH : ∀ c fr, Rch g [] c → InvOut g c fr → OkOut g c fr → dQ (U c fr) fr.length ≤ 9 → az (T c fr) fr.length)
  (hTU : ∀ t fr, az (T t fr) fr.length → aH (T t fr) = U t fr) {n : Nat} {fr : Fr} (hn : Rch g [] n) (hi : InvIn g n [] fr) (ho : OkIn g n [] fr) (hm : dQ (dM g U n fr) fr.length ≤ 9) : az (ii g T n fr) fr.length := by
 have hlet := zE hv (hn.lt hv)
 have J := fun t (ht : t ∈ ai g n) (h : dQ (aT g U n t fr) fr.length ≤ 9) => Dj hv hT IH hn hi ho ht h
 unfold dM at hm
 unfold ii
 rcases hx : ai g n with _ | ⟨t, _ | ⟨u, ts⟩⟩
 ·simp only [az, aC]; exact ⟨hlet, trivial, trivial⟩
 ·rw [hx] at hm J
  simp only at hm ⊢
  rw [bE (iC hlet)] at hm
  rw [az, aC]
  exact ⟨hlet, J t (by simp) hm⟩
 ·rw [hx] at hm J
  simp only at hm ⊢
  rw [bE (by decide), bE (iC hlet), bE (by decide), cZ] at hm
  have h1 := J t (by simp) (by omega)
  have e1 : fX (aT g U n t fr) fr.length = fr.length := by rw [← kz (hTU t fr) h1]; exact nL _ _ h1 _
  rw [e1, bE (by decide), bE (by decide), cZ] at hm
  have h2 := J u (by simp) (by omega)
  simp only [az, aC]
  exact ⟨⟨hlet, h1, h2⟩, trivial⟩
theorem mm (hv : aa g = true) (hT : ew g) (IH : ∀ c fr, Rch g [] c → InvOut g c fr → OkOut g c fr → dQ (U c fr) fr.length ≤ 9 → az (T c fr) fr.length)
  (hTU : ∀ t fr, az (T t fr) fr.length → aH (T t fr) = U t fr) {n : Nat} (hn : Rch g [] n) :
  ∀ (bs : List Nat) (fr : Fr), (∀ y ∈ bs, y ∈ aq g n) → bs.Nodup → bs.Pairwise (fun a b => ah g b < ah g a) → InvIn g n bs fr → OkIn g n bs fr → dQ (aJ g U n bs fr) fr.length ≤ 9 → az (bW g T n bs fr) fr.length
 | [], fr, _, _, _, hi, ho, hm => Dk hv hT IH hTU hn hi ho hm
 | y :: bs, fr, hb, hd, hs, hi, ho, hm => by
  obtain ⟨hr, hmt, hpar⟩ := (dY hv).1 (hb y (List.mem_cons_self ..))
  have hd' := List.nodup_cons.1 hd
  have e40 : (40 : UInt8) = eG false := rfl
  have e41 : (41 : UInt8) = gj false := rfl
  rw [aJ, e40, e41, rW, cZ] at hm
  have hm1 : dQ (aJ g U n bs ((y, false) :: fr)) ((y, false) :: fr).length ≤ 9 := by rw [List.length_cons]; omega
  have h1 := mm hv hT IH hTU hn bs _ (fun z hz => hb z (List.mem_cons_of_mem _ hz)) hd'.2 (List.pairwise_cons.1 hs).2 hi.wrap (ho.wrap hv hr hpar hd'.1) hm1
  have e1 : fX (aJ g U n bs ((y, false) :: fr)) (fr.length + 1) = fr.length + 1 := by
   rw [← iS hTU n bs _ h1]; exact nL _ _ h1 _
  rw [e1, yt, Nat.add_sub_cancel] at hm
  have h2 := IH y fr hr (hi.child hv hs hr hpar) (ho.child hv hr hpar) (by omega)
  rw [bW, az, aC]
  exact ⟨⟨by omega, h1⟩, h2⟩
end
theorem pQ {g : List Bl} (hv : aa g = true) (hT : ew g) : ∀ (m n : Nat) (fr : Fr), Rch g [] n → InvOut g n fr → OkOut g n fr → dQ (aw g m n fr) fr.length ≤ 9 → az (dX g m n fr) fr.length
 | 0, _, _, _, _, _, _ => by rw [dX, az]; trivial
 | m + 1, n, fr, hn, hi, ho, hm => by
  have hs := ij hv n
  have hnd : (aq g n).Nodup := by
   rw [List.nodup_iff_pairwise_ne]
   exact hs.imp fun hab e => by rw [e] at hab; omega
  have hi' := hi.into hv
  have ho' := ho.into (hn.lt hv)
  rw [dX]
  rw [aw] at hm
  split
  ·rename_i hh
   rw [if_pos hh] at hm hi' ho'
   have e1 : (123 : UInt8) = eG true := rfl
   rw [e1, rW, cZ] at hm
   have h1 := mm hv hT (pQ hv hT m) (ja g m) hn _ _ (fun _ h => h) hnd hs hi' ho' (by rw [List.length_cons]; omega)
   have := nK (aJ g (aw g m) n (aq g n) ((n, true) :: fr)) (fr.length + 1)
   rw [az, aC, az]
   exact ⟨⟨by omega, h1⟩, trivial⟩
  ·rename_i hh
   rw [if_neg hh] at hm hi' ho'
   exact mm hv hT (pQ hv hT m) (ja g m) hn _ _ (fun _ h => h) hnd hs hi' ho' hm
noncomputable def iR (g : List Bl) : List It := dX g (ac g).length 0 []
theorem rX {g : List Bl} (hb : aY g = true) : bh (aD g) (iR g) := by
 have ht := c6 hb
 obtain ⟨hv, hw⟩ := cm.1 ht
 have hT := lJ hv hw
 have htb : iq (aD g) = true := by
  unfold aY at hb
  rw [Bool.and_eq_true] at hb
  exact hb.2
 obtain ⟨l, hl, hok, he⟩ := Cg htb
 have hm : dQ (aD g) 0 ≤ 9 := by rw [he]; exact yu l 0 (by omega) hok
 have h := pQ hv hT (ac g).length 0 [] (.start (by simp)) (kh g) (lg g) hm
 refine ⟨hl, h, ?_⟩
 exact (ja g _ _ _ h).symm
end Go.Proofs.YtlkfakdghjaoaaaGreatDoor

namespace Go.Proofs.YtlkfakdghjaoaaaGreatDoor
open Go.RowKit Go.Sort
def cM (kd x : UInt8) : Nat := if x = kd then 1 else 0
def fe (g : List Bl) (n t : Nat) : Nat := if ah g n < ah g t ∧ t ∉ ak g then 0 else 1
def jF (g : List Bl) (kd : UInt8) (n : Nat) : Nat :=
 match ai g n with
 | [] => cM kd 88 + cM kd 46
 | [t] => cM kd 88 + fe g n t * cM kd 94
 | t :: u :: _ => cM kd 63 + (fe g n t + fe g n u) * cM kd 94
def ld (g : List Bl) (kd : UInt8) (n : Nat) : Nat := (if n ∈ aL g then cM kd 123 else 0) + (aq g n).length * cM kd 40 + jF g kd n
section
variable {g : List Bl} {kd : UInt8} {T : Nat → Fr → List It} {K : Nat → Nat}
theorem rV (h : ∀ c fr, ce kd (T c fr) = K c) (n t : Nat) (fr : Fr) : ce kd (ff g T n t fr) = fe g n t * cM kd 94 + (if ah g n < ah g t ∧ t ∉ ak g then K t else 0) := by
 have hs : ∀ x, ce kd [gH fr x] = cM kd 94 := fun x => by
  unfold gH
  rw [ce, ce, eZ]
  rfl
 unfold ff fe
 by_cases h1 : ah g n < ah g t
 ·rw [if_pos h1]
  by_cases h2 : t ∈ ak g
  ·rw [if_pos h2, if_neg (fun q => q.2 h2), if_neg (fun q => q.2 h2), hs]; omega
  ·rw [if_neg h2, if_pos ⟨h1, h2⟩, if_pos ⟨h1, h2⟩, h]; omega
 ·rw [if_neg h1, if_neg (fun q => h1 q.1), if_neg (fun q => h1 q.1), hs]; omega
theorem Fz (c : UInt8) : eZ kd (.blk c) = cM kd 88 := by rw [eZ]; rfl
theorem FA (c : UInt8) (l r : List It) : eZ kd (.ask c l r) = cM kd 63 + (ce kd l + ce kd r) := by rw [eZ]; rfl
theorem EE (hv : aa g = true) (h : ∀ c fr, ce kd (T c fr) = K c) (n : Nat) (fr : Fr) : ce kd (ii g T n fr) = jF g kd n + ((eR g n).map K).sum := by
 have h2 := rY hv n
 have hf : ∀ (t : Nat) (l : List Nat), ((((t :: l).filter fun t => decide (ah g n < ah g t) && decide (t ∉ ak g)).map K).sum : Nat) = (if ah g n < ah g t ∧ t ∉ ak g then K t else 0) + ((l.filter fun t => decide (ah g n < ah g t) && decide (t ∉ ak g)).map K).sum := fun t l => by
  rw [List.filter_cons]
  by_cases hc : ah g n < ah g t ∧ t ∉ ak g
  ·rw [if_pos (by rw [Bool.and_eq_true, decide_eq_true_iff, decide_eq_true_iff]; exact hc), if_pos hc, List.map_cons, List.sum_cons]
  ·rw [if_neg (by rw [Bool.and_eq_true, decide_eq_true_iff, decide_eq_true_iff]; exact hc), if_neg hc, Nat.zero_add]
 unfold ii jF eR
 rcases hx : ai g n with _ | ⟨t, _ | ⟨u, _ | ⟨x, ts⟩⟩⟩
 ·show ce kd [It.blk (au g n), It.stop] = _
  rw [ce, ce, ce, eZ, eZ]
  rfl
 ·simp only
  rw [ce, rV h, hf, Fz]
  simp only [List.filter_nil, List.map_nil, List.sum_nil]
  omega
 ·simp only
  rw [ce, FA, rV h, rV h, hf, hf, ce, Nat.add_mul]
  simp only [List.filter_nil, List.map_nil, List.sum_nil]
  omega
 ·rw [hx] at h2
  simp only [List.length_cons] at h2
  omega
theorem sY (hv : aa g = true) (h : ∀ c fr, ce kd (T c fr) = K c) (n : Nat) : ∀ (bs : List Nat) (fr : Fr), ce kd (bW g T n bs fr) = bs.length * cM kd 40 + jF g kd n + ((bs ++ eR g n).map K).sum
 | [], fr => by
  rw [bW, EE hv h]
  simp
 | y :: bs, fr => by
  rw [bW, ce, eZ, sY hv h n bs, h, List.cons_append, List.map_cons, List.sum_cons, List.length_cons, Nat.add_mul]
  have : (if cJ (.frame false (bW g T n bs ((y, false) :: fr))) = kd then 1 else 0) = cM kd 40 := rfl
  rw [this]
  omega
end
theorem vf {α : Type} (f : Nat → List α) (k : α → Nat) : ∀ l : List Nat, ((l.flatMap f).map k).sum = (l.map fun c => ((f c).map k).sum).sum
 | [] => rfl
 | a :: l => by rw [List.flatMap_cons, List.map_append, List.sum_append, vf f k l, List.map_cons, List.sum_cons]
theorem yr {g : List Bl} (hv : aa g = true) (kd : UInt8) : ∀ (m n : Nat) (fr : Fr), ce kd (dX g m n fr) = ((gI g m n).map (ld g kd)).sum
 | 0, _, _ => by rw [dX, ce]; rfl
 | m + 1, n, fr => by
  have hw : ∀ fr, ce kd (bW g (dX g m) n (aq g n) fr) = (aq g n).length * cM kd 40 + jF g kd n + ((iG g n).map fun c => ((gI g m c).map (ld g kd)).sum).sum := fun fr => by
   rw [sY hv (K := fun c => ((gI g m c).map (ld g kd)).sum) (yr hv kd m)]
   rfl
  rw [dX, gI, List.map_append, List.sum_append, vf]
  have hown : ((([n] : List Nat).map (ld g kd)).sum : Nat) = ld g kd n := by simp
  rw [hown]
  have hoe : ld g kd n = (if n ∈ aL g then cM kd 123 else 0) + (aq g n).length * cM kd 40 + jF g kd n := rfl
  rw [hoe]
  split
  ·rw [ce, eZ, hw, ce]
   have : (if cJ (.frame true (bW g (dX g m) n (aq g n) ((n, true) :: fr))) = kd then 1 else 0) = cM kd 123 := rfl
   rw [this]
   omega
  ·rw [hw]; omega
theorem Bg {g : List Bl} (ht : dV g = true) : (gI g (ac g).length 0).Perm (ac g) := by
 obtain ⟨hv, hw⟩ := cm.1 ht
 have hT := lJ hv hw
 have h0 : Rch g [] 0 := .start (by simp)
 refine (List.perm_ext_iff_of_nodup (qF hv hT _ _ h0) (aZ hv)).2 fun x => ⟨fun h => ?_, fun h => ?_⟩
 ·exact (aA hv).2 (j8 hv hT _ _ h0 x h).1
 ·exact vn hv hT _ 0 h0 (by omega) x ((aA hv).1 h) (.entry g x)
theorem mi {g : List Bl} (hb : aY g = true) (kd : UInt8) : ce kd (iR g) = ((ac g).map (ld g kd)).sum := by
 have ht := c6 hb
 unfold iR
 rw [yr (cm.1 ht).1]
 exact ((Bg ht).map _).sum_nat
end Go.Proofs.YtlkfakdghjaoaaaGreatDoor

namespace Go.Proofs.YtlkfakdghjaoaaaGreatDoor
open Go.RowKit Go.Sort
theorem qG {g : List Bl} {kd : UInt8} (h : kd ≠ 88 ∧ kd ≠ 46 ∧ kd ≠ 63 ∧ kd ≠ 94) (n : Nat) : jF g kd n = 0 := by
 have e1 : cM kd 88 = 0 := if_neg fun e => h.1 e.symm
 have e2 : cM kd 46 = 0 := if_neg fun e => h.2.1 e.symm
 have e3 : cM kd 63 = 0 := if_neg fun e => h.2.2.1 e.symm
 have e4 : cM kd 94 = 0 := if_neg fun e => h.2.2.2 e.symm
 unfold jF
 rw [e1, e2, e3, e4]
 split <;> rfl
theorem yv {p : Nat → Prop} [DecidablePred p] : ∀ l : List Nat, (l.map fun n => if p n then 1 else 0).sum = (l.filter fun n => decide (p n)).length
 | [] => rfl
 | a :: l => by
  rw [List.map_cons, List.sum_cons, yv l, List.filter_cons]
  by_cases h : p a
  ·rw [if_pos h, if_pos (by simpa using h), List.length_cons]; omega
  ·rw [if_neg h, if_neg (by simpa using h)]; omega
theorem lH {a b : List Nat} (ha : a.Nodup) (hb : b.Nodup) (h : ∀ x, x ∈ a ↔ x ∈ b) : a.length = b.length := ((List.perm_ext_iff_of_nodup ha hb).2 h).length_eq
theorem mo (g : List Bl) (m : Nat) (K : Nat → Bool) : (fL g m K).Nodup := List.Pairwise.filter _ (List.Pairwise.filter _ List.nodup_range)
theorem Bp {g : List Bl} (hv : aa g = true) {m : Nat} {K : Nat → Bool} {t : Nat} (h : t ∈ fL g m K) : Rch g [] t := (aU hv).1 (List.mem_filter.1 h).1
theorem tg {f : Nat → Option Nat} {l : List Nat} (hl : l.Nodup) : ∀ W : List Nat, (∀ w ∈ W, ∃ k ∈ l, f w = some k) → (l.map fun k => (W.filter fun w => decide (f w = some k)).length).sum = W.length
 | [], _ => by
  have : ∀ l : List Nat, (l.map fun k => (([] : List Nat).filter fun w => decide (f w = some k)).length).sum = 0 := fun l => by
   induction l with
   | nil => rfl
   | cons a l ih => rw [List.map_cons, List.sum_cons, ih]; rfl
  exact this l
 | w :: W, h => by
  obtain ⟨k, hk, hf⟩ := h w (List.mem_cons_self ..)
  have ih := tg hl W fun x hx => h x (List.mem_cons_of_mem _ hx)
  have key : ∀ l : List Nat, (l.map fun k => ((w :: W).filter fun w => decide (f w = some k)).length).sum = (l.filter fun j => decide (f w = some j)).length + (l.map fun k => (W.filter fun w => decide (f w = some k)).length).sum := fun l => by
   induction l with
   | nil => rfl
   | cons a l ihl =>
    rw [List.map_cons, List.sum_cons, ihl, List.map_cons, List.sum_cons, List.filter_cons, List.filter_cons]
    by_cases e : f w = some a
    ·rw [if_pos (by simpa using e), if_pos (by simpa using e), List.length_cons, List.length_cons]; omega
    ·rw [if_neg (by simpa using e), if_neg (by simpa using e)]; omega
  rw [key, ih, List.length_cons]
  have h1 : (l.filter fun j => decide (f w = some j)).length = [k].length := by
   refine lH (hl.filter _) (by simp) fun x => ?_
   rw [List.mem_filter, decide_eq_true_iff, hf, List.mem_singleton]
   constructor
   ·rintro ⟨_, e⟩; injection e with e; exact e.symm
   ·rintro rfl; exact ⟨hk, rfl⟩
  rw [h1, List.length_singleton]; omega
theorem Br {g : List Bl} (hv : aa g = true) : ((ac g).map fun n => (aq g n).length).sum = (ak g).length := by
 have hW : ((ac g).filter fun c => decide (c ∈ ak g)).length = (ak g).length := by
  refine lH ((aZ hv).filter _) (mo g _ _) fun x => ?_
  rw [List.mem_filter, decide_eq_true_iff, aA hv]
  exact ⟨fun h => h.2, fun h => ⟨jG hv h, h⟩⟩
 rw [← hW, ← tg (f := bF g) (aZ hv) ((ac g).filter fun c => decide (c ∈ ak g)) ?_]
 ·refine congrArg List.sum (List.map_congr_left fun n _ => ?_)
  unfold aq
  rw [List.length_reverse, List.filter_filter]
  refine congrArg List.length (List.filter_congr fun c _ => ?_)
  rw [Bool.and_comm]
 ·intro w hw
  rw [List.mem_filter, decide_eq_true_iff] at hw
  have hr := jG hv hw.2
  have h0 : w ≠ 0 := fun e => by
   have := (List.mem_filter.1 hw.2).2
   rw [decide_eq_true_iff] at this
   subst e
   have h2 : (dg g bD 0).length = 0 := by rw [← sS hv 0, iQ hv]; rfl
   omega
  obtain ⟨p, hp⟩ := iA hv hr h0
  exact ⟨p, (aA hv).2 hp.2.1, (db hv hr).2 hp⟩
theorem Dp {g : List Bl} (hb : aY g = true) : ce 40 (iR g) = (ak g).length := by
 have hv := (cm.1 (c6 hb)).1
 rw [mi hb, ← Br hv]
 refine congrArg List.sum (List.map_congr_left fun n _ => ?_)
 unfold ld
 rw [qG (by decide)]
 have e1 : cM 40 123 = 0 := rfl
 have e2 : cM 40 40 = 1 := rfl
 rw [e1, e2]
 split <;> omega
theorem zF {g : List Bl} (hb : aY g = true) : ce 123 (iR g) = (aL g).length := by
 have hv := (cm.1 (c6 hb)).1
 have e : (aL g).length = ((ac g).filter fun n => decide (n ∈ aL g)).length := by
  refine lH (mo g _ _) ((aZ hv).filter _) fun x => ?_
  rw [List.mem_filter, decide_eq_true_iff, aA hv]
  exact ⟨fun h => ⟨Bp hv h, h⟩, fun h => h.2⟩
 rw [mi hb, e, ← yv]
 refine congrArg List.sum (List.map_congr_left fun n _ => ?_)
 unfold ld
 rw [qG (by decide)]
 have e1 : cM 123 123 = 1 := rfl
 have e2 : cM 123 40 = 0 := rfl
 rw [e1, e2]
 omega
theorem xC {g : List Bl} (hb : aY g = true) : ce 94 (iR g) = ((ac g).map fun n => ((ai g n).filter fun t => decide (fe g n t = 1)).length).sum := by
 have hv := (cm.1 (c6 hb)).1
 rw [mi hb]
 refine congrArg List.sum (List.map_congr_left fun n _ => ?_)
 have h2 := rY hv n
 have e1 : cM 94 123 = 0 := rfl
 have e2 : cM 94 40 = 0 := rfl
 have hs : ∀ t, fe g n t = 0 ∨ fe g n t = 1 := fun t => by unfold fe; split; exact .inl rfl; exact .inr rfl
 have hf : ∀ (t : Nat) (l : List Nat), ((t :: l).filter fun t => decide (fe g n t = 1)).length = fe g n t + (l.filter fun t => decide (fe g n t = 1)).length := fun t l => by
  rw [List.filter_cons]
  rcases hs t with h | h
  ·rw [h, if_neg (by decide)]; omega
  ·rw [h, if_pos (by decide), List.length_cons]; omega
 unfold ld jF
 rw [e1, e2]
 rcases hx : ai g n with _ | ⟨t, _ | ⟨u, _ | ⟨x, ts⟩⟩⟩
 ·simp only
  split <;> rfl
 ·simp only
  rw [hf, List.filter_nil, List.length_nil]
  have : cM 94 88 = 0 := rfl
  have h94 : cM 94 94 = 1 := rfl
  rw [this, h94]
  split <;> omega
 ·simp only
  rw [hf, hf, List.filter_nil, List.length_nil]
  have : cM 94 63 = 0 := rfl
  have h94 : cM 94 94 = 1 := rfl
  rw [this, h94]
  split <;> omega
 ·rw [hx] at h2
  simp only [List.length_cons] at h2
  omega
end Go.Proofs.YtlkfakdghjaoaaaGreatDoor

namespace Go.Proofs.YtlkfakdghjaoaaaGreatDoor
open Go.RowKit Go.Sort
end Go.Proofs.YtlkfakdghjaoaaaGreatDoor

namespace Go.Proofs.YtlkfakdghjaoaaaGreatDoor
open Go.RowKit Go.Sort
theorem Dl {g : List Bl} (hv : aa g = true) {i : Nat} (hi : i < g.length) : (ai g i).Nodup := by
 rcases goes hv hi with ⟨h, _⟩ | ⟨p, _, h, _⟩ | ⟨p, q, _, _, h, _, _, _, _, _, hne⟩
 ·rw [h]; simp
 ·rw [h]; simp
 ·rw [h]; simp [hne]
theorem vk (Q : Nat → Nat → Bool) (M : List Nat) : ∀ W : List Nat, (W.map fun n => (M.filter fun t => Q n t).length).sum = (M.map fun t => (W.filter fun n => Q n t).length).sum
 | [] => by
  have : ∀ M : List Nat, (M.map fun t => (([] : List Nat).filter fun n => Q n t).length).sum = 0 := fun M => by
   induction M with
   | nil => rfl
   | cons a M ih => rw [List.map_cons, List.sum_cons, ih]; rfl
  exact (this M).symm
 | w :: W => by
  rw [List.map_cons, List.sum_cons, vk Q M W]
  have key : ∀ M : List Nat, (M.filter fun t => Q w t).length + (M.map fun t => (W.filter fun n => Q n t).length).sum = (M.map fun t => ((w :: W).filter fun n => Q n t).length).sum := fun M => by
   induction M with
   | nil => rfl
   | cons a M ih =>
    rw [List.map_cons, List.sum_cons, List.map_cons, List.sum_cons, ← ih, List.filter_cons, List.filter_cons]
    cases h : Q w a
    ·simp; omega
    ·simp; omega
  exact key M
theorem qD {p q r : Nat → Bool} (h : ∀ t, r t = (p t || q t)) (hd : ∀ t, p t = true → q t = false) : ∀ l : List Nat, (l.filter r).length = (l.filter p).length + (l.filter q).length
 | [] => rfl
 | a :: l => by
  rw [List.filter_cons, List.filter_cons, List.filter_cons, h a]
  have := qD h hd l
  have hda := hd a
  cases hp : p a <;> cases hq : q a <;> simp [hp, hq] at hda ⊢ <;> omega
theorem xA {g : List Bl} (hb : aY g = true) : ce 94 (iR g) = (bw g aS).length + ((ak g).map fun y => (dg g bD y).length).sum := by
 have hv := (cm.1 (c6 hb)).1
 rw [xC hb]
 have split1 : ∀ n, ((ai g n).filter fun t => decide (fe g n t = 1)).length = ((ai g n).filter fun t => aS (aG g n t)).length + ((ai g n).filter fun t => decide (ah g n < ah g t) && decide (t ∈ ak g)).length := fun n => by
  refine qD (fun t => ?_) (fun t h => ?_) _
  ·unfold fe
   rw [jD]
   by_cases h1 : ah g n < ah g t <;> by_cases h2 : t ∈ ak g <;> simp [h1, h2] <;> omega
  ·rw [jD, decide_eq_true_iff] at h
   rw [decide_eq_false (by omega)]
   rfl
 have hsum : ∀ l : List Nat, (l.map fun n => ((ai g n).filter fun t => decide (fe g n t = 1)).length).sum = (l.map fun n => ((ai g n).filter fun t => aS (aG g n t)).length).sum + (l.map fun n => ((ai g n).filter fun t => decide (ah g n < ah g t) && decide (t ∈ ak g)).length).sum := fun l => by
  induction l with
  | nil => rfl
  | cons a l ih => rw [List.map_cons, List.sum_cons, List.map_cons, List.sum_cons, List.map_cons, List.sum_cons, ih, split1]; omega
 rw [hsum]
 have hback : ∀ l : List Nat, (l.map fun n => ((ai g n).filter fun t => aS (aG g n t)).length).sum = (l.flatMap (ci g aS)).length := fun l => by
  induction l with
  | nil => rfl
  | cons a l ih =>
   rw [List.map_cons, List.sum_cons, List.flatMap_cons, List.length_append, ih]
   unfold ci
   rw [List.length_map]
 rw [hback]
 have hfwd : ((ac g).map fun n => ((ai g n).filter fun t => decide (ah g n < ah g t) && decide (t ∈ ak g)).length).sum = ((ak g).map fun y => (dg g bD y).length).sum := by
  have e1 : ((ac g).map fun n => ((ai g n).filter fun t => decide (ah g n < ah g t) && decide (t ∈ ak g)).length).sum = ((ac g).map fun n => ((ak g).filter fun t => decide (t ∈ ai g n) && decide (ah g n < ah g t)).length).sum := by
   refine congrArg List.sum (List.map_congr_left fun n hn => ?_)
   have hnl := ((aA hv).1 hn).lt hv
   refine lH ((Dl hv hnl).filter _) ((mo g _ _).filter _) fun x => ?_
   rw [List.mem_filter, List.mem_filter, Bool.and_eq_true, Bool.and_eq_true, decide_eq_true_iff, decide_eq_true_iff, decide_eq_true_iff]
   exact ⟨fun h => ⟨h.2.2, h.1, h.2.1⟩, fun h => ⟨h.2.1, h.2.2, h.1⟩⟩
  rw [e1, vk (fun n t => decide (t ∈ ai g n) && decide (ah g n < ah g t))]
  refine congrArg List.sum (List.map_congr_left fun t _ => ?_)
  refine lH ((aZ hv).filter _) (List.Pairwise.filter _ (List.Pairwise.filter _ List.nodup_range)) fun x => ?_
  rw [List.mem_filter, gM hv, aA hv, Bool.and_eq_true, decide_eq_true_iff, decide_eq_true_iff]
  refine and_congr_right fun _ => and_congr_right fun _ => ?_
  unfold bD
  by_cases hp : ah g x < ah g t
  ·rw [gL hp]; exact ⟨fun _ => rfl, fun _ => hp⟩
  ·refine ⟨fun h => absurd h hp, fun h => ?_⟩
   unfold aG at h
   rw [if_neg hp] at h
   split at h <;> cases h
 rw [hfwd]
 rfl
end Go.Proofs.YtlkfakdghjaoaaaGreatDoor
