import Derived.Test.YtlkfakdghjaoaaaGreatDoorFrameFacts
namespace Go.Proofs.YtlkfakdghjaoaaaGreatDoor
open Go.RowKit Go.Sort
def fm (fr : Fr) (x : Nat × Bool) : It := .leave (fr.findIdx fun y => decide (y = x))
def eo (g : List Bl) (T : Nat → Fr → List It) (n t : Nat) (fr : Fr) : List It :=
 if ah g n < ah g t then (if t ∈ aw g then [fm fr (t,false)] else T t fr) else [fm fr (t,true)]
def fG (g : List Bl) (T : Nat → Fr → List It) (n : Nat) (fr : Fr) : List It :=
 match ai g n with
 | [] => [.blk (an g n),.stop]
 | [t] => .blk (an g n) :: eo g T n t fr
 | t :: u :: _ => [.ask (an g n) (eo g T n t fr) (eo g T n u fr)]
def bt (g : List Bl) (T : Nat → Fr → List It) (n : Nat) : List Nat → Fr → List It
 | [],fr => fG g T n fr
 | y :: bs,fr => .frame false (bt g T n bs ((y,false) :: fr)) :: T y fr
def c8 (g : List Bl) : Nat → Nat → Fr → List It
 | 0,_,_ => []
 | m + 1,n,fr => if n ∈ aS g then [.frame true (bt g (c8 g m) n (aq g n) ((n,true) :: fr))] else bt g (c8 g m) n (aq g n) fr
theorem sg {fr : Fr} {x : Nat × Bool} {f : Nat} (h : aB (fm fr x) f) : aJ (fm fr x) = jU fr x := by
 unfold fm at h ⊢
 rw [aB] at h
 rw [aJ]
 unfold jU dW dz
 rw [if_pos h.2]
theorem jS {g : List Bl} {T : Nat → Fr → List It} {U : Nat → Fr → List UInt8} {n t : Nat} {fr : Fr} (hT : az (T t fr) fr.length → aF (T t fr) = U t fr) (h : az (eo g T n t fr) fr.length) :
  aF (eo g T n t fr) = aO g U n t fr:=by
 unfold eo at h ⊢
 unfold aO
 split
 ·rename_i h1
  rw [if_pos h1] at h
  split
  ·rename_i h2
   rw [if_pos h2,az] at h
   rw [aF,aF,List.append_nil,sg h.1]
  ·rename_i h2
   rw [if_neg h2] at h
   exact hT h
 ·rename_i h1
  rw [if_neg h1,az] at h
  rw [aF,aF,List.append_nil,sg h.1]
theorem Ac {g : List Bl} {T : Nat → Fr → List It} {U : Nat → Fr → List UInt8} {n : Nat} {fr : Fr} (hT : ∀ t fr, az (T t fr) fr.length → aF (T t fr) = U t fr) (h : az (fG g T n fr) fr.length) :
  aF (fG g T n fr) = dE g U n fr:=by
 unfold fG at h ⊢
 unfold dE
 rcases hx : ai g n with _ | ⟨t,_ | ⟨u,ts⟩⟩
 ·rfl
 ·rw [hx] at h
  simp only [az] at h
  simp only [aF,aJ]
  rw [jS (hT t fr) h.2]
  rfl
 ·rw [hx] at h
  simp only [az,aB] at h
  simp only [aF,aJ]
  rw [jS (hT t fr) h.1.2.1,jS (hT u fr) h.1.2.2,List.append_nil]
theorem ij {g : List Bl} {T : Nat → Fr → List It} {U : Nat → Fr → List UInt8} (hT : ∀ t fr, az (T t fr) fr.length → aF (T t fr) = U t fr) (n : Nat) : ∀ (bs : List Nat) (fr : Fr), az (bt g T n bs fr) fr.length →
  aF (bt g T n bs fr) = aI g U n bs fr
 | [],fr,h => Ac hT h
 | y :: bs,fr,h => by
  rw [bt,az,aB] at h
  rw [bt,aI,aF,aJ,ij hT n bs ((y,false) :: fr) h.1.2,hT y fr h.2]
  unfold et fC
  simp
theorem iC (g : List Bl) : ∀ (m n : Nat) (fr : Fr), az (c8 g m n fr) fr.length → aF (c8 g m n fr) = av g m n fr
 | 0,_,_,_ => rfl
 | m + 1,n,fr,h => by
  rw [c8] at h ⊢
  rw [av]
  split
  ·rename_i hh
   rw [if_pos hh,az,aB] at h
   rw [aF,aJ,aF,ij (iC g m) n _ ((n,true) :: fr) h.1.2]
   unfold et fC
   simp
  ·rename_i hh
   rw [if_neg hh] at h
   exact ij (iC g m) n _ fr h
end Go.Proofs.YtlkfakdghjaoaaaGreatDoor

namespace Go.Proofs.YtlkfakdghjaoaaaGreatDoor
open Go.RowKit Go.Sort
def um (c : UInt8) : Bool := c == 40 || c == 123
def un (c : UInt8) : Bool := c == 41 || c == 125
def fx : List UInt8 → Nat → Nat
 | [],d => d
 | c :: s,d => if um c = true then fx s (d + 1) else if un c = true then fx s (d - 1) else fx s d
def dG : List UInt8 → Nat → Nat
 | [],d => d
 | c :: s,d => if um c = true then dG s (d + 1) else if un c = true then max d (dG s (d - 1)) else dG s d
theorem nh : ∀ (s : List UInt8) (d : Nat), d ≤ dG s d
 | [],d => Nat.le_refl _
 | c :: s,d => by
  unfold dG
  split
  ·have:=nh s (d + 1); omega
  ·split
   ·exact Nat.le_max_left _ _
   ·exact nh s d
theorem ek : ∀ (a b : List UInt8) (d : Nat), fx (a ++ b) d = fx b (fx a d)
 | [],b,d => rfl
 | c :: a,b,d => by
  rw [List.cons_append,fx,fx]
  split
  ·exact ek a b _
  ·split
   ·exact ek a b _
   ·exact ek a b _
theorem cw : ∀ (a b : List UInt8) (d : Nat), dG (a ++ b) d = max (dG a d) (dG b (fx a d))
 | [],b,d => by rw [List.nil_append]; have:=nh b d; rw [dG,fx]; omega
 | c :: a,b,d => by
  rw [List.cons_append,dG,dG,fx]
  split
  ·exact cw a b _
  ·split
   ·rw [cw a b]; omega
   ·exact cw a b _
theorem c7 {c : UInt8} (h : um c = false ∧ un c = false) (s : List UInt8) (d : Nat) : fx (c :: s) d = fx s d := by rw [fx, if_neg (by simp [h.1]), if_neg (by simp [h.2])]
theorem bp {c : UInt8} (h : um c = false ∧ un c = false) (s : List UInt8) (d : Nat) : dG (c :: s) d = dG s d := by rw [dG, if_neg (by simp [h.1]), if_neg (by simp [h.2])]
theorem gS {c : UInt8} (h : aW c = true) : um c = false ∧ un c = false := by
 have key : ∀ x : UInt8,aW x = false → c ≠ x:=fun x hx e => by rw [e,hx] at h; cases h
 unfold um un
 rw [Bool.or_eq_false_iff,Bool.or_eq_false_iff,beq_eq_false_iff_ne,beq_eq_false_iff_ne,beq_eq_false_iff_ne,beq_eq_false_iff_ne]
 exact ⟨⟨key _ (by decide),key _ (by decide)⟩,key _ (by decide),key _ (by decide)⟩
theorem lM {n : Nat} (h : n < 10) : um (dz n) = false ∧ un (dz n) = false := by
 revert n; decide +kernel
theorem DG (b : Bool) (s : List UInt8) (d : Nat) : fx (et b :: s) d = fx s (d + 1) := by cases b <;> rfl
theorem DH (b : Bool) (s : List UInt8) (d : Nat) : fx (fC b :: s) d = fx s (d - 1) := by cases b <;> rfl
theorem rm (b : Bool) (s : List UInt8) (d : Nat) : dG (et b :: s) d = dG s (d + 1) := by cases b <;> rfl
theorem xr (b : Bool) (s : List UInt8) (d : Nat) : dG (fC b :: s) d = max d (dG s (d - 1)) := by cases b <;> rfl
mutual
theorem FP : ∀ (i : It) (f : Nat), aB i f → ∀ d, fx (aJ i) d = d
 | .blk c,f,h,d => by rw [aB] at h; rw [aJ,c7 (gS h)]; rfl
 | .ask c l r,f,h,d => by
  rw [aB] at h
  rw [aJ,c7 (by decide),c7 (gS h.1),c7 (by decide),ek,ni l f h.2.1,c7 (by decide),c7 (by decide),ek,ni r f h.2.2,c7 (by decide)]
  rfl
 | .stop,f,h,d => by rw [aJ]; rfl
 | .frame b l,f,h,d => by
  rw [aB] at h
  rw [aJ,DG,ek,ni l (f + 1) h.2,DH]
  rfl
 | .leave n,f,h,d => by rw [aB] at h; rw [aJ,c7 (by decide),c7 (lM h.2)]; rfl
 | .set n,f,h,d => by rw [aB] at h; rw [aJ,c7 (by decide),c7 (lM h)]; rfl
 | .pick bs,f,h,d => by rw [aB] at h; rw [aJ,c7 (by decide),FQ bs f h.2.2]
theorem ni : ∀ (l : List It) (f : Nat), az l f → ∀ d, fx (aF l) d = d
 | [],f,h,d => rfl
 | i :: l,f,h,d => by rw [az] at h; rw [aF,ek,FP i f h.1,ni l f h.2]
theorem FQ : ∀ (bs : List (List It)) (f : Nat), di bs f → ∀ d, fx (bN bs) d = d
 | [],f,h,d => rfl
 | b :: bs,f,h,d => by
  rw [di] at h
  rw [bN,c7 (by decide),ek,ni b f h.1,c7 (by decide),FQ bs f h.2]
end
mutual
theorem F4 : ∀ (i : It) (f : Nat), f ≤ 9 → aB i f → dG (aJ i) f ≤ 9
 | .blk c,f,hf,h => by rw [aB] at h; rw [aJ,bp (gS h)]; exact hf
 | .ask c l r,f,hf,h => by
  rw [aB] at h
  rw [aJ,bp (by decide),bp (gS h.1),bp (by decide),cw,ni l f h.2.1,bp (by decide),bp (by decide),cw,ni r f h.2.2,bp (by decide)]
  have h1:=xt l f hf h.2.1
  have h2:=xt r f hf h.2.2
  rw [dG]; omega
 | .stop,f,hf,h => by rw [aJ]; exact hf
 | .frame b l,f,hf,h => by
  rw [aB] at h
  rw [aJ,rm,cw,ni l (f + 1) h.2,xr]
  have h1:=xt l (f + 1) (by omega) h.2
  rw [dG]; omega
 | .leave n,f,hf,h => by rw [aB] at h; rw [aJ,bp (by decide),bp (lM h.2)]; exact hf
 | .set n,f,hf,h => by rw [aB] at h; rw [aJ,bp (by decide),bp (lM h)]; exact hf
 | .pick bs,f,hf,h => by rw [aB] at h; rw [aJ,bp (by decide)]; exact FR bs f hf h.2.2
theorem xt : ∀ (l : List It) (f : Nat), f ≤ 9 → az l f → dG (aF l) f ≤ 9
 | [],f,hf,h => hf
 | i :: l,f,hf,h => by
  rw [az] at h
  rw [aF,cw,FP i f h.1]
  have h1:=F4 i f hf h.1
  have h2:=xt l f hf h.2
  omega
theorem FR : ∀ (bs : List (List It)) (f : Nat), f ≤ 9 → di bs f → dG (bN bs) f ≤ 9
 | [],f,hf,h => hf
 | b :: bs,f,hf,h => by
  rw [di] at h
  rw [bN,bp (by decide),cw,ni b f h.1,bp (by decide)]
  have h1:=xt b f hf h.1
  have h2:=FR bs f hf h.2
  omega
end
end Go.Proofs.YtlkfakdghjaoaaaGreatDoor

namespace Go.Proofs.YtlkfakdghjaoaaaGreatDoor
open Go.RowKit Go.Sort
theorem uo {fr : Fr} {x : Nat × Bool} (hx : x ∈ fr) (hl : fr.length ≤ 9) : az [fm fr x] fr.length := by
 have : (fr.findIdx fun y => decide (y = x)) < fr.length:=List.findIdx_lt_length_of_exists ⟨x,hx,by simp⟩
 rw [az,az]
 unfold fm
 rw [aB]
 exact ⟨⟨this,by omega⟩,trivial⟩
section
variable {g : List Bl} {T : Nat → Fr → List It} {U : Nat → Fr → List UInt8}
theorem Ci (hv : aa g = true) (hT : ec g) (IH : ∀ c fr, Rch g [] c → InvOut g c fr → OkOut g c fr → dG (U c fr) fr.length ≤ 9 → az (T c fr) fr.length)
  {n t : Nat} {fr : Fr} (hn : Rch g [] n) (hi : InvIn g n [] fr) (ho : OkIn g n [] fr) (ht : t ∈ ai g n) (hm : dG (aO g U n t fr) fr.length ≤ 9) : az (eo g T n t fr) fr.length:=by
 have hl : fr.length ≤ 9:=Nat.le_trans (nh _ _) hm
 unfold aO at hm
 unfold eo
 split
 ·rename_i h1
  rw [if_pos h1] at hm
  split
  ·rename_i h2; exact uo (hi.fwd hv hn ht h1 h2) hl
  ·rename_i h2
   rw [if_neg h2] at hm
   obtain ⟨hr,hp⟩:=sp hv hT hn (jW.2 ⟨ht,h1,h2⟩)
   exact IH t fr hr (hi.jump hv hr hp) (ho.child hv hr hp) hm
 ·rename_i h1; exact uo (hi.back hv hT hn ht h1) hl
theorem yE (hv : aa g = true) {n : Nat} (hn : n < g.length) : aW (an g n) = true := by
 have:=gv hv hn
 unfold aW
 rw [Bool.and_eq_true,decide_eq_true_iff,decide_eq_true_iff]
 exact this
theorem Cj (hv : aa g = true) (hT : ec g) (IH : ∀ c fr, Rch g [] c → InvOut g c fr → OkOut g c fr → dG (U c fr) fr.length ≤ 9 → az (T c fr) fr.length)
  (hTU : ∀ t fr,az (T t fr) fr.length → aF (T t fr) = U t fr) {n : Nat} {fr : Fr} (hn : Rch g [] n) (hi : InvIn g n [] fr) (ho : OkIn g n [] fr) (hm : dG (dE g U n fr) fr.length ≤ 9) : az (fG g T n fr) fr.length:=by
 have hlet:=yE hv (hn.lt hv)
 have J:=fun t (ht : t ∈ ai g n) (h : dG (aO g U n t fr) fr.length ≤ 9) => Ci hv hT IH hn hi ho ht h
 unfold dE at hm
 unfold fG
 rcases hx : ai g n with _ | ⟨t,_ | ⟨u,ts⟩⟩
 ·simp only [az,aB]; exact ⟨hlet,trivial,trivial⟩
 ·rw [hx] at hm J
  simp only at hm ⊢
  rw [bp (gS hlet)] at hm
  rw [az,aB]
  exact ⟨hlet,J t (by simp) hm⟩
 ·rw [hx] at hm J
  simp only at hm ⊢
  rw [bp (by decide),bp (gS hlet),bp (by decide),cw] at hm
  have h1:=J t (by simp) (by omega)
  have e1 : fx (aO g U n t fr) fr.length = fr.length:=by rw [← jS (hTU t fr) h1]; exact ni _ _ h1 _
  rw [e1,bp (by decide),bp (by decide),cw] at hm
  have h2:=J u (by simp) (by omega)
  simp only [az,aB]
  exact ⟨⟨hlet,h1,h2⟩,trivial⟩
theorem lN (hv : aa g = true) (hT : ec g) (IH : ∀ c fr, Rch g [] c → InvOut g c fr → OkOut g c fr → dG (U c fr) fr.length ≤ 9 → az (T c fr) fr.length)
  (hTU : ∀ t fr,az (T t fr) fr.length → aF (T t fr) = U t fr) {n : Nat} (hn : Rch g [] n) :
  ∀ (bs : List Nat) (fr : Fr),(∀ y ∈ bs,y ∈ aq g n) → bs.Nodup → bs.Pairwise (fun a b => ah g b < ah g a) → InvIn g n bs fr → OkIn g n bs fr → dG (aI g U n bs fr) fr.length ≤ 9 → az (bt g T n bs fr) fr.length
 | [],fr,_,_,_,hi,ho,hm => Cj hv hT IH hTU hn hi ho hm
 | y :: bs,fr,hb,hd,hs,hi,ho,hm => by
  obtain ⟨hr,hmt,hpar⟩:=(dM hv).1 (hb y (List.mem_cons_self ..))
  have hd':=List.nodup_cons.1 hd
  have e40 : (40 : UInt8) = et false:=rfl
  have e41 : (41 : UInt8) = fC false:=rfl
  rw [aI,e40,e41,rm,cw] at hm
  have hm1 : dG (aI g U n bs ((y,false) :: fr)) ((y,false) :: fr).length ≤ 9:=by rw [List.length_cons]; omega
  have h1:=lN hv hT IH hTU hn bs _ (fun z hz => hb z (List.mem_cons_of_mem _ hz)) hd'.2 (List.pairwise_cons.1 hs).2 hi.wrap (ho.wrap hv hr hpar hd'.1) hm1
  have e1 : fx (aI g U n bs ((y,false) :: fr)) (fr.length + 1) = fr.length + 1:=by
   rw [← ij hTU n bs _ h1]; exact ni _ _ h1 _
  rw [e1,xr,Nat.add_sub_cancel] at hm
  have h2:=IH y fr hr (hi.child hv hs hr hpar) (ho.child hv hr hpar) (by omega)
  rw [bt,az,aB]
  exact ⟨⟨by omega,h1⟩,h2⟩
end
theorem pm {g : List Bl} (hv : aa g = true) (hT : ec g) : ∀ (m n : Nat) (fr : Fr), Rch g [] n → InvOut g n fr → OkOut g n fr → dG (av g m n fr) fr.length ≤ 9 → az (c8 g m n fr) fr.length
 | 0,_,_,_,_,_,_ => by rw [c8,az]; trivial
 | m + 1,n,fr,hn,hi,ho,hm => by
  have hs:=gG hv n
  have hnd : (aq g n).Nodup:=by
   rw [List.nodup_iff_pairwise_ne]
   exact hs.imp fun hab e => by rw [e] at hab; omega
  have hi':=hi.into hv
  have ho':=ho.into (hn.lt hv)
  rw [c8]
  rw [av] at hm
  split
  ·rename_i hh
   rw [if_pos hh] at hm hi' ho'
   have e1 : (123 : UInt8) = et true:=rfl
   rw [e1,rm,cw] at hm
   have h1:=lN hv hT (pm hv hT m) (iC g m) hn _ _ (fun _ h => h) hnd hs hi' ho' (by rw [List.length_cons]; omega)
   have:=nh (aI g (av g m) n (aq g n) ((n,true) :: fr)) (fr.length + 1)
   rw [az,aB,az]
   exact ⟨⟨by omega,h1⟩,trivial⟩
  ·rename_i hh
   rw [if_neg hh] at hm hi' ho'
   exact lN hv hT (pm hv hT m) (iC g m) hn _ _ (fun _ h => h) hnd hs hi' ho' hm
noncomputable def ii (g : List Bl) : List It:=c8 g (af g).length 0 []
theorem kW {g : List Bl} (hb : aU g = true) : aP (aT g) (ii g) := by
 have ht:=dt hb
 obtain ⟨hv,hw⟩:=cH.1 ht
 have hT:=kY hv hw
 have htb : dw (aT g) = true:=by
  unfold aU at hb
  rw [Bool.and_eq_true] at hb
  exact hb.2
 obtain ⟨l,hl,hok,he⟩:=A9 htb
 have hm : dG (aT g) 0 ≤ 9:=by rw [he]; exact xt l 0 (by omega) hok
 have h:=pm hv hT (af g).length 0 [] (.start (by simp)) (jD g) (kt g) hm
 refine ⟨hl,h,?_⟩
 exact (iC g _ _ _ h).symm
end Go.Proofs.YtlkfakdghjaoaaaGreatDoor

namespace Go.Proofs.YtlkfakdghjaoaaaGreatDoor
open Go.RowKit Go.Sort
def dL (kd x : UInt8) : Nat := if x = kd then 1 else 0
def qa (g : List Bl) (n t : Nat) : Nat := if ah g n < ah g t ∧ t ∉ aw g then 0 else 1
def i9 (g : List Bl) (kd : UInt8) (n : Nat) : Nat :=
 match ai g n with
 | [] => dL kd 88 + dL kd 46
 | [t] => dL kd 88 + qa g n t * dL kd 94
 | t :: u :: _ => dL kd 63 + (qa g n t + qa g n u) * dL kd 94
def lL (g : List Bl) (kd : UInt8) (n : Nat) : Nat := (if n ∈ aS g then dL kd 123 else 0) + (aq g n).length * dL kd 40 + i9 g kd n
section
variable {g : List Bl} {kd : UInt8} {T : Nat → Fr → List It} {K : Nat → Nat}
theorem rl (h : ∀ c fr, cn kd (T c fr) = K c) (n t : Nat) (fr : Fr) : cn kd (eo g T n t fr) = qa g n t * dL kd 94 + (if ah g n < ah g t ∧ t ∉ aw g then K t else 0) := by
 have hs : ∀ x,cn kd [fm fr x] = dL kd 94:=fun x => by
  unfold fm
  rw [cn,cn,eN]
  rfl
 unfold eo qa
 by_cases h1 : ah g n < ah g t
 ·rw [if_pos h1]
  by_cases h2 : t ∈ aw g
  ·rw [if_pos h2,if_neg (fun q => q.2 h2),if_neg (fun q => q.2 h2),hs]; omega
  ·rw [if_neg h2,if_pos ⟨h1,h2⟩,if_pos ⟨h1,h2⟩,h]; omega
 ·rw [if_neg h1,if_neg (fun q => h1 q.1),if_neg (fun q => h1 q.1),hs]; omega
theorem EH (c : UInt8) : eN kd (.blk c) = dL kd 88 := by rw [eN]; rfl
theorem EI (c : UInt8) (l r : List It) : eN kd (.ask c l r) = dL kd 63 + (cn kd l + cn kd r) := by rw [eN]; rfl
theorem DF (hv : aa g = true) (h : ∀ c fr, cn kd (T c fr) = K c) (n : Nat) (fr : Fr) : cn kd (fG g T n fr) = i9 g kd n + ((dN g n).map K).sum := by
 have h2:=rp hv n
 have hf : ∀ (t : Nat) (l : List Nat),((((t :: l).filter fun t => decide (ah g n < ah g t) && decide (t ∉ aw g)).map K).sum : Nat) = (if ah g n < ah g t ∧ t ∉ aw g then K t else 0) + ((l.filter fun t => decide (ah g n < ah g t) && decide (t ∉ aw g)).map K).sum:=fun t l => by
  rw [List.filter_cons]
  by_cases hc : ah g n < ah g t ∧ t ∉ aw g
  ·rw [if_pos (by rw [Bool.and_eq_true,decide_eq_true_iff,decide_eq_true_iff]; exact hc),if_pos hc,List.map_cons,List.sum_cons]
  ·rw [if_neg (by rw [Bool.and_eq_true,decide_eq_true_iff,decide_eq_true_iff]; exact hc),if_neg hc,Nat.zero_add]
 unfold fG i9 dN
 rcases hx : ai g n with _ | ⟨t,_ | ⟨u,_ | ⟨x,ts⟩⟩⟩
 ·show cn kd [It.blk (an g n),It.stop] = _
  rw [cn,cn,cn,eN,eN]
  rfl
 ·simp only
  rw [cn,rl h,hf,EH]
  simp only [List.filter_nil,List.map_nil,List.sum_nil]
  omega
 ·simp only
  rw [cn,EI,rl h,rl h,hf,hf,cn,Nat.add_mul]
  simp only [List.filter_nil,List.map_nil,List.sum_nil]
  omega
 ·rw [hx] at h2
  simp only [List.length_cons] at h2
  omega
theorem se (hv : aa g = true) (h : ∀ c fr, cn kd (T c fr) = K c) (n : Nat) : ∀ (bs : List Nat) (fr : Fr), cn kd (bt g T n bs fr) = bs.length * dL kd 40 + i9 g kd n + ((bs ++ dN g n).map K).sum
 | [],fr => by
  rw [bt,DF hv h]
  simp
 | y :: bs,fr => by
  rw [bt,cn,eN,se hv h n bs,h,List.cons_append,List.map_cons,List.sum_cons,List.length_cons,Nat.add_mul]
  have : (if dR (.frame false (bt g T n bs ((y,false) :: fr))) = kd then 1 else 0) = dL kd 40:=rfl
  rw [this]
  omega
end
theorem ul {α : Type} (f : Nat → List α) (k : α → Nat) : ∀ l : List Nat, ((l.flatMap f).map k).sum = (l.map fun c => ((f c).map k).sum).sum
 | [] => rfl
 | a :: l => by rw [List.flatMap_cons,List.map_append,List.sum_append,ul f k l,List.map_cons,List.sum_cons]
theorem xq {g : List Bl} (hv : aa g = true) (kd : UInt8) : ∀ (m n : Nat) (fr : Fr), cn kd (c8 g m n fr) = ((eE g m n).map (lL g kd)).sum
 | 0,_,_ => by rw [c8,cn]; rfl
 | m + 1,n,fr => by
  have hw : ∀ fr,cn kd (bt g (c8 g m) n (aq g n) fr) = (aq g n).length * dL kd 40 + i9 g kd n + ((gW g n).map fun c => ((eE g m c).map (lL g kd)).sum).sum:=fun fr => by
   rw [se hv (K:=fun c => ((eE g m c).map (lL g kd)).sum) (xq hv kd m)]
   rfl
  rw [c8,eE,List.map_append,List.sum_append,ul]
  have hown : ((([n] : List Nat).map (lL g kd)).sum : Nat) = lL g kd n:=by simp
  rw [hown]
  have hoe : lL g kd n = (if n ∈ aS g then dL kd 123 else 0) + (aq g n).length * dL kd 40 + i9 g kd n:=rfl
  rw [hoe]
  split
  ·rw [cn,eN,hw,cn]
   have : (if dR (.frame true (bt g (c8 g m) n (aq g n) ((n,true) :: fr))) = kd then 1 else 0) = dL kd 123:=rfl
   rw [this]
   omega
  ·rw [hw]; omega
theorem sf {g : List Bl} (ht : df g = true) : (eE g (af g).length 0).Perm (af g) := by
 obtain ⟨hv,hw⟩:=cH.1 ht
 have hT:=kY hv hw
 have h0 : Rch g [] 0:=.start (by simp)
 refine (List.perm_ext_iff_of_nodup (qc hv hT _ _ h0) (ba hv)).2 fun x => ⟨fun h => ?_,fun h => ?_⟩
 ·exact (aD hv).2 (jz hv hT _ _ h0 x h).1
 ·exact ur hv hT _ 0 h0 (by omega) x ((aD hv).1 h) (.entry g x)
theorem yD {g : List Bl} (hb : aU g = true) (kd : UInt8) : cn kd (ii g) = ((af g).map (lL g kd)).sum := by
 have ht:=dt hb
 unfold ii
 rw [xq (cH.1 ht).1]
 exact ((sf ht).map _).sum_nat
end Go.Proofs.YtlkfakdghjaoaaaGreatDoor

namespace Go.Proofs.YtlkfakdghjaoaaaGreatDoor
open Go.RowKit Go.Sort
theorem qd {g : List Bl} {kd : UInt8} (h : kd ≠ 88 ∧ kd ≠ 46 ∧ kd ≠ 63 ∧ kd ≠ 94) (n : Nat) : i9 g kd n = 0 := by
 have e1 : dL kd 88 = 0:=if_neg fun e => h.1 e.symm
 have e2 : dL kd 46 = 0:=if_neg fun e => h.2.1 e.symm
 have e3 : dL kd 63 = 0:=if_neg fun e => h.2.2.1 e.symm
 have e4 : dL kd 94 = 0:=if_neg fun e => h.2.2.2 e.symm
 unfold i9
 rw [e1,e2,e3,e4]
 split <;> rfl
end Go.Proofs.YtlkfakdghjaoaaaGreatDoor

namespace Go.Proofs.YtlkfakdghjaoaaaGreatDoor
open Go.RowKit Go.Sort
end Go.Proofs.YtlkfakdghjaoaaaGreatDoor

namespace Go.Proofs.YtlkfakdghjaoaaaGreatDoor
open Go.RowKit Go.Sort
end Go.Proofs.YtlkfakdghjaoaaaGreatDoor
