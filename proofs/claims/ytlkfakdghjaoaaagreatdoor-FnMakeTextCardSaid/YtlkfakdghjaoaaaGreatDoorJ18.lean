import Derived.Test.YtlkfakdghjaoaaaGreatDoorMadeLeaves
import Derived.Test.YtlkfakdghjaoaaaGreatDoorJ3
namespace Go.Proofs.YtlkfakdghjaoaaaGreatDoor
open Go.RowKit Go.Sort
section
variable {g : List Bl} {T : Nat → Fr → List It} {K : Nat → List UInt8}
theorem rn (h : ∀ c fr, (da (T c fr)).Perm (K c)) (n t : Nat) (fr : Fr) : (da (eo g T n t fr)).Perm (if ah g n < ah g t ∧ t ∉ aw g then K t else []) := by
 have hs : ∀ x,da [fm fr x] = []:=fun x => by
  unfold fm
  rw [da,da,iZ]
  rfl
 unfold eo
 by_cases h1 : ah g n < ah g t
 ·rw [if_pos h1]
  by_cases h2 : t ∈ aw g
  ·rw [if_pos h2,if_neg (fun q => q.2 h2),hs]
  ·rw [if_neg h2,if_pos ⟨h1,h2⟩]; exact h t fr
 ·rw [if_neg h1,if_neg (fun q => h1 q.1),hs]
theorem DI (hv : aa g = true) (h : ∀ c fr, (da (T c fr)).Perm (K c)) (n : Nat) (fr : Fr) : (da (fG g T n fr)).Perm (an g n :: (dN g n).flatMap K) := by
 have h2:=rp hv n
 have hf : ∀ (t : Nat) (l : List Nat),(((t :: l).filter fun t => decide (ah g n < ah g t) && decide (t ∉ aw g)).flatMap K) = (if ah g n < ah g t ∧ t ∉ aw g then K t else []) ++ ((l.filter fun t => decide (ah g n < ah g t) && decide (t ∉ aw g)).flatMap K):=fun t l => by
  rw [List.filter_cons]
  by_cases hc : ah g n < ah g t ∧ t ∉ aw g
  ·rw [if_pos (by rw [Bool.and_eq_true,decide_eq_true_iff,decide_eq_true_iff]; exact hc),if_pos hc,List.flatMap_cons]
  ·rw [if_neg (by rw [Bool.and_eq_true,decide_eq_true_iff,decide_eq_true_iff]; exact hc),if_neg hc,List.nil_append]
 unfold fG dN
 rcases hx : ai g n with _ | ⟨t,_ | ⟨u,_ | ⟨x,ts⟩⟩⟩
 ·show (da [It.blk (an g n),It.stop]).Perm _
  rw [da,da,da,iZ,iZ]
  exact List.Perm.refl _
 ·simp only
  rw [da,iZ,hf]
  simp only [List.filter_nil,List.flatMap_nil,List.append_nil]
  exact (rn h n t fr).cons _
 ·simp only
  rw [da,iZ,hf,hf,da]
  simp only [List.filter_nil,List.flatMap_nil,List.append_nil]
  exact ((rn h n t fr).append (rn h n u fr)).cons _
 ·rw [hx] at h2
  simp only [List.length_cons] at h2
  omega
theorem sh (hv : aa g = true) (h : ∀ c fr, (da (T c fr)).Perm (K c)) (n : Nat) : ∀ (bs : List Nat) (fr : Fr), (da (bt g T n bs fr)).Perm (an g n :: (bs ++ dN g n).flatMap K)
 | [],fr => DI hv h n fr
 | y :: bs,fr => by
  rw [bt,da,iZ,List.cons_append,List.flatMap_cons]
  refine ((sh hv h n bs _).append (h y fr)).trans ?_
  rw [List.cons_append]
  exact List.perm_append_comm.cons _
end
theorem xu {g : List Bl} (hv : aa g = true) : ∀ (m n : Nat) (fr : Fr), (da (c8 g m n fr)).Perm ((eE g m n).map (an g))
 | 0,_,_ => by rw [c8,da]; exact List.Perm.refl _
 | m + 1,n,fr => by
  have hw : ∀ fr,(da (bt g (c8 g m) n (aq g n) fr)).Perm ((eE g (m + 1) n).map (an g)):=fun fr => by
   refine (sh hv (K:=fun c => (eE g m c).map (an g)) (xu hv m) n _ fr).trans ?_
   rw [eE,List.map_append,List.map_flatMap]
   exact (List.perm_append_singleton _ _).symm
  rw [c8]
  split
  ·rw [da,iZ,da,List.append_nil]; exact hw _
  ·exact hw _
theorem lO {g : List Bl} (hb : aU g = true) : (da (ii g)).Perm ((af g).map (an g)) := by
 have ht:=dt hb
 exact (xu (cH.1 ht).1 _ _ _).trans ((sf ht).map _)
theorem Ad {g : List Bl} (hb : aU g = true) : (da (ii g)).Nodup := by
 have hv:=(cH.1 (dt hb)).1
 rw [(lO hb).nodup_iff,List.nodup_iff_pairwise_ne,List.pairwise_map]
 refine (List.nodup_iff_pairwise_ne.1 (ba hv)).imp_of_mem fun {a b} ha hb' hne e => hne ?_
 exact lJ hv (((aD hv).1 ha).lt hv) (((aD hv).1 hb').lt hv) e
theorem uq {g : List Bl} (hb : aU g = true) : cn 35 (ii g) = 0 ∧ cn 61 (ii g) = 0 := by
 have none : ∀ kd : UInt8,dL kd 123 = 0 → dL kd 40 = 0 → (∀ n,i9 g kd n = 0) → cn kd (ii g) = 0:=fun kd h1 h2 h3 => by
  rw [yD hb]
  have : ∀ l : List Nat,(l.map (lL g kd)).sum = 0:=fun l => by
   induction l with
   | nil => rfl
   | cons a l ih =>
    rw [List.map_cons,List.sum_cons,ih]
    unfold lL
    rw [h1,h2,h3]
    split <;> rfl
  exact this _
 exact ⟨none 35 rfl rfl (qd (by decide)),none 61 rfl rfl (qd (by decide))⟩
end Go.Proofs.YtlkfakdghjaoaaaGreatDoor

namespace Go.Proofs.YtlkfakdghjaoaaaGreatDoor
open Go.RowKit Go.Sort
def jA (xs : List (Nat × Nat)) : Nat := if xs = [] then 2 else g8 xs
def eR (g : List Bl) (n : Nat) (s : RSt) : ROut :=
 .fin (jA (bI g (60 - s.trace.length) n s.left)) (s.trace ++ (bI g (60 - s.trace.length) n s.left).map fun x => an g x.1) 0
theorem jT {n : Nat} : ∀ {xs : List (Nat × Nat)}, jA ((n, 2) :: xs) = jA xs
 | [] => rfl
 | x :: xs => by
  unfold jA
  rw [if_neg (by simp),if_neg (by simp)]
  unfold g8
  rw [List.getLast?_cons_cons]
theorem Ae {g : List Bl} {n : Nat} {s : RSt} (h : s.trace.length = 60) : eR g n s = .fin 2 s.trace 0 := by
 unfold eR
 rw [h]
 simp [bI,jA]
theorem Af {g : List Bl} {n : Nat} {s : RSt} (h : s.trace.length < 60) (hn : ai g n = []) : eR g n s = .fin 0 (s.trace ++ [an g n]) 0 := by
 obtain ⟨m,hm⟩ : ∃ m,60 - s.trace.length = m + 1:=⟨59 - s.trace.length,by omega⟩
 unfold eR
 rw [hm,j6 hn]
 rfl
theorem Ag {g : List Bl} {n t : Nat} {s : RSt} (h : s.trace.length < 60) (hn : ai g n = [t]) : eR g n s = eR g t (s.blk (an g n)) := by
 obtain ⟨m,hm⟩ : ∃ m,60 - s.trace.length = m + 1:=⟨59 - s.trace.length,by omega⟩
 have h2 : 60 - (s.blk (an g n)).trace.length = m:=by simp only [RSt.blk,List.length_append,List.length_singleton]; omega
 unfold eR
 rw [hm,h2,iE hn,jT,List.map_cons]
 show ROut.fin _ (s.trace ++ (an g n :: _)) 0 = .fin _ ((s.trace ++ [an g n]) ++ _) 0
 rw [List.append_assoc]
 rfl
theorem Ck {g : List Bl} {n t u : Nat} {ts : List Nat} {s : RSt} (h : s.trace.length < 60) (hn : ai g n = t :: u :: ts) (hl : s.left = []) : eR g n s = .fin 1 (s.trace ++ [an g n]) 0 := by
 obtain ⟨m,hm⟩ : ∃ m,60 - s.trace.length = m + 1:=⟨59 - s.trace.length,by omega⟩
 unfold eR
 rw [hm,hl]
 simp only [bI,hn]
 rfl
theorem DJ {g : List Bl} {n t u : Nat} {ts : List Nat} {s : RSt} {c : UInt8} {l : List UInt8} (h : s.trace.length < 60) (hn : ai g n = t :: u :: ts) (hl : s.left = c :: l) :
  eR g n s = eR g (if c = 108 then t else u) { s.blk (an g n) with left:=l }:=by
 obtain ⟨m,hm⟩ : ∃ m,60 - s.trace.length = m + 1:=⟨59 - s.trace.length,by omega⟩
 have h2 : 60 - ({ s.blk (an g n) with left:=l } : RSt).trace.length = m:=by simp only [RSt.blk,List.length_append,List.length_singleton]; omega
 unfold eR
 rw [hm,h2,hl]
 have e : bI g (m + 1) n (c :: l) = (n,2) :: bI g m (if c = 108 then t else u) l:=by simp only [bI,hn]
 rw [e,jT,List.map_cons]
 show ROut.fin _ (s.trace ++ (an g n :: _)) 0 = .fin _ ((s.trace ++ [an g n]) ++ _) 0
 rw [List.append_assoc]
 rfl
def GoodR (g : List Bl) (n : Nat) (fr : Fr) (s : RSt) (d : Nat) (o : ROut) : Prop :=
 o = eR g n s ∨ ∃ k t b s',fr[k]? = some (t,b) ∧ o = .leave k s' ∧ eR g n s = eR g t s' ∧ d ≤ s'.trace.length ∧ s'.trace.length ≤ 60 ∧ s'.idle ≤ 1 ∧ s'.num = 0
def F5 (fr : Fr) (s : RSt) : Prop := s.trace.length ≤ 60 ∧ s.num = 0 ∧ s.idle ≤ 3 + fr.length ∧ fr.length ≤ 9
def n9 (g : List Bl) (n : Nat) (fr : Fr) (l : List It) : Prop := ∀ s, F5 fr s → ∃ o, Runs (.l l) s o ∧ GoodR g n fr s (s.trace.length + 1) o
theorem GoodR.of {g : List Bl} {n t : Nat} {fr : Fr} {s s' : RSt} {d d' : Nat} {o : ROut} (h : GoodR g t fr s' d' o) (he : eR g n s = eR g t s') (hd : d ≤ d') : GoodR g n fr s d o := by
 rcases h with rfl | ⟨k,u,b,s2,h1,h2,h3,h4,h5⟩
 ·exact .inl he.symm
 ·exact .inr ⟨k,u,b,s2,h1,h2,he.trans h3,by omega,h5⟩
theorem Runs.one {i : It} {s : RSt} {o : ROut} (hi : s.idle ≠ 4000) (h : Runs (.i i) s.step o) (hn : ∀ s', o ≠ .next s') : Runs (.l [i]) s o := by
 cases o with
 | next s' => exact absurd rfl (hn s')
 | leave k s' => exact Runs.cons_leave hi h
 | fin e t m => exact Runs.cons_fin hi h
theorem GoodR.not_next {g : List Bl} {n : Nat} {fr : Fr} {s : RSt} {d : Nat} {o : ROut} (h : GoodR g n fr s d o) (s' : RSt) : o ≠ .next s' := by
 rcases h with rfl | ⟨k,u,b,s2,_,rfl,_⟩
 ·intro e; cases e
 ·intro e; cases e
theorem sj {g : List Bl} {t : Nat} {b : Bool} {fr : Fr} (ho : az [fm fr (t, b)] fr.length) {s : RSt} (hs : s.trace.length ≤ 60) (hn : s.num = 0) (hi : s.idle = 0) :
  ∃ o,Runs (.l [fm fr (t,b)]) s o ∧ GoodR g t fr s s.trace.length o:=by
 unfold fm at ho ⊢
 rw [az,aB] at ho
 have hlt:=ho.1.1
 refine ⟨.leave _ s.step,Runs.cons_leave (by omega) (Runs.leave _ _),.inr ⟨_,t,b,s.step,?_,rfl,rfl,Nat.le_refl _,hs,?_,hn⟩⟩
 ·have:=List.findIdx_getElem (w:=hlt)
  rw [decide_eq_true_iff] at this
  rw [List.getElem?_eq_getElem hlt,this]
 ·show s.idle + 1 ≤ 1
  omega
theorem nj {g : List Bl} {T : Nat → Fr → List It} {n t : Nat} {fr : Fr} (hT : ah g n < ah g t → az (T t fr) fr.length → n9 g t fr (T t fr)) (ho : az (eo g T n t fr) fr.length) (hf : fr.length ≤ 9) {s : RSt} (hs : s.trace.length ≤ 60) (hn : s.num = 0) (hi : s.idle = 0) :
  ∃ o,Runs (.l (eo g T n t fr)) s o ∧ GoodR g t fr s s.trace.length o:=by
 unfold eo at ho ⊢
 by_cases h1 : ah g n < ah g t
 ·rw [if_pos h1] at ho ⊢
  by_cases h2 : t ∈ aw g
  ·rw [if_pos h2] at ho ⊢
   exact sj ho hs hn hi
  ·rw [if_neg h2] at ho ⊢
   obtain ⟨o,h3,h4⟩:=hT h1 ho s ⟨hs,hn,by omega,hf⟩
   exact ⟨o,h3,h4.of rfl (by omega)⟩
 ·rw [if_neg h1] at ho ⊢
  exact sj ho hs hn hi
theorem Ah {g : List Bl} {T : Nat → Fr → List It} {n : Nat} {fr : Fr} (hT : ∀ t, t ∈ ai g n → ah g n < ah g t → az (T t fr) fr.length → n9 g t fr (T t fr)) (ho : az (fG g T n fr) fr.length) : n9 g n fr (fG g T n fr) := by
 rintro s ⟨hs,hn,hi,hf⟩
 have hi4 : s.idle ≠ 4000:=by omega
 unfold fG at ho ⊢
 by_cases h60 : s.trace.length = 60
 ·have hg : GoodR g n fr s (s.trace.length + 1) (.fin 2 s.trace s.num) := .inl (by rw [Ae h60, hn])
  rcases hx : ai g n with _ | ⟨t,_ | ⟨u,ts⟩⟩
  ·exact ⟨_,Runs.cons_fin hi4 (Runs.blkLong (s:=s.step) h60),hg⟩
  ·exact ⟨_,Runs.cons_fin hi4 (Runs.blkLong (s:=s.step) h60),hg⟩
  ·exact ⟨_,Runs.cons_fin hi4 (Runs.askLong (s:=s.step) h60),hg⟩
 ·have hlt : s.trace.length < 60 := by omega
  have hl1 : (s.trace ++ [an g n]).length = s.trace.length + 1:=by simp
  rcases hx : ai g n with _ | ⟨t,_ | ⟨u,ts⟩⟩
  ·refine ⟨.fin 0 (s.trace ++ [an g n]) s.num,Runs.cons hi4 (Runs.blk (s:=s.step) h60) (Runs.cons_fin (by show (0 : Nat) ≠ 4000; omega) (Runs.stop _)),.inl (by rw [Af hlt hx,hn])⟩
  ·rw [hx] at ho
   simp only [az] at ho
   obtain ⟨o,h1,h2⟩:=nj (s:=s.step.blk (an g n)) (hT t (by rw [hx]; simp)) ho.2 hf (by show (s.trace ++ [an g n]).length ≤ 60; omega) hn rfl
   refine ⟨o,Runs.cons hi4 (Runs.blk (s:=s.step) h60) h1,h2.of (Ag hlt hx) ?_⟩
   show s.trace.length + 1 ≤ (s.trace ++ [an g n]).length
   omega
  ·rw [hx] at ho
   simp only [az,aB] at ho
   cases hl : s.left with
   | nil => exact ⟨_,Runs.cons_fin hi4 (Runs.askNone (s:=s.step) h60 hl),.inl (by rw [Ck hlt hx hl]; show ROut.fin 1 (s.trace ++ [an g n]) s.num = _; rw [hn])⟩
   | cons c l =>
    have key : ∃ o,Runs (.l (if c = 108 then eo g T n t fr else eo g T n u fr)) { s.step.blk (an g n) with left:=l } o ∧ GoodR g (if c = 108 then t else u) fr { s.step.blk (an g n) with left:=l } (s.trace ++ [an g n]).length o:=by
     by_cases hc : c = 108
     ·rw [if_pos hc,if_pos hc]
      exact nj (s:={ s.step.blk (an g n) with left:=l }) (hT t (by rw [hx]; simp)) ho.1.2.1 hf (by show (s.trace ++ [an g n]).length ≤ 60; omega) hn rfl
     ·rw [if_neg hc,if_neg hc]
      exact nj (s:={ s.step.blk (an g n) with left:=l }) (hT u (by rw [hx]; simp)) ho.1.2.2 hf (by show (s.trace ++ [an g n]).length ≤ 60; omega) hn rfl
    obtain ⟨o,h1,h2⟩:=key
    exact ⟨o,Runs.one hi4 (Runs.ask (s:=s.step) h60 hl h1) h2.not_next,h2.of (DJ hlt hx hl) (by omega)⟩
theorem oI {g : List Bl} {T : Nat → Fr → List It} {n : Nat} (hT : ∀ t fr, Rch g [] t → ah g n < ah g t → az (T t fr) fr.length → n9 g t fr (T t fr)) (hn : Rch g [] n) : ∀ (bs : List Nat) (fr : Fr), (∀ y ∈ bs, Rch g [] y ∧ ah g n < ah g y) → az (bt g T n bs fr) fr.length → n9 g n fr (bt g T n bs fr)
 | [],fr,_,ho => Ah (fun t ht hp => hT t fr (.step hn ht (by simp)) hp) ho
 | y :: bs,fr,hb,ho => by
  rintro s ⟨hs,hm,hi,hf⟩
  have hi4 : s.idle ≠ 4000:=by omega
  rw [bt,az,aB] at ho
  obtain ⟨⟨hlt,hin⟩,hy⟩:=ho
  obtain ⟨o1,r1,g1⟩:=oI hT hn bs ((y,false) :: fr) (fun z hz => hb z (List.mem_cons_of_mem _ hz)) hin s.step ⟨hs,hm,by show s.idle + 1 ≤ 3 + (fr.length + 1); omega,by show fr.length + 1 ≤ 9; omega⟩
  rw [bt]
  rcases g1 with rfl | ⟨k,t,b,s',hk,rfl,he,hd,h60,hi1,h0⟩
  ·exact ⟨_,Runs.cons_fin hi4 (Runs.frame (Runs.f_fin r1)),.inl rfl⟩
  ·have hd : s.trace.length + 1 ≤ s'.trace.length:=hd
   cases k with
   | zero =>
    have hk : (y,false) = (t,b):=by simpa using hk
    injection hk with e1 e2
    subst e1; subst e2
    obtain ⟨hyr,hyp⟩:=hb y (List.mem_cons_self ..)
    obtain ⟨o2,r2,g2⟩:=hT y fr hyr hyp hy s' ⟨h60,h0,by omega,hf⟩
    exact ⟨o2,Runs.cons hi4 (Runs.frame (Runs.f_once r1)) r2,g2.of he (by omega)⟩
   | succ k => exact ⟨_,Runs.cons_leave hi4 (Runs.frame (Runs.f_out r1)),.inr ⟨k,t,b,s',by simpa using hk,rfl,he,hd,h60,hi1,h0⟩⟩
theorem wt {g : List Bl} (hv : aa g = true) {n y : Nat} (h : y ∈ aq g n) : Rch g [] y ∧ ah g n < ah g y := by
 obtain ⟨hr,_,hp⟩:=(dM hv).1 h
 exact ⟨hr,eL hv hr hp⟩
theorem sk {g : List Bl} (hv : aa g = true) : ∀ (m n : Nat) (fr : Fr), Rch g [] n → (af g).length ≤ m + ah g n → az (c8 g m n fr) fr.length → n9 g n fr (c8 g m n fr)
 | 0,n,fr,hn,hL,_ => by have:=lK hv hn; omega
 | m + 1,n,fr,hn,hL,ho => by
  have hW:=fun bs fr => oI (g:=g) (T:=c8 g m) (n:=n) (fun t fr' hr hp ho => sk hv m t fr' hr (by omega) ho) hn bs fr
  have hbl : ∀ y ∈ aq g n,Rch g [] y ∧ ah g n < ah g y:=fun y hy => wt hv hy
  rw [c8] at ho ⊢
  by_cases hh : n ∈ aS g
  ·rw [if_pos hh] at ho ⊢
   rw [az,aB] at ho
   obtain ⟨⟨hlt,hin⟩,_⟩:=ho
   have hD:=hW _ ((n,true) :: fr) hbl hin
   have key : ∀ (d : Nat) (s : RSt),60 - s.trace.length ≤ d → s.trace.length ≤ 60 → s.num = 0 → s.idle ≤ 4 + fr.length → ∃ o,Runs (.f true (bt g (c8 g m) n (aq g n) ((n,true) :: fr))) s o ∧ GoodR g n fr s (s.trace.length + 1) o:=by
    intro d
    induction d with
    | zero =>
     intro s hd hs hm hi
     obtain ⟨o1,r1,g1⟩:=hD s ⟨hs,hm,by show s.idle ≤ 3 + (fr.length + 1); omega,by show fr.length + 1 ≤ 9; omega⟩
     rcases g1 with rfl | ⟨k,t,b,s',hk,rfl,he,hd',h60,hi1,h0⟩
     ·exact ⟨_,Runs.f_fin r1,.inl rfl⟩
     ·omega
    | succ d ih =>
     intro s hd hs hm hi
     obtain ⟨o1,r1,g1⟩:=hD s ⟨hs,hm,by show s.idle ≤ 3 + (fr.length + 1); omega,by show fr.length + 1 ≤ 9; omega⟩
     rcases g1 with rfl | ⟨k,t,b,s',hk,rfl,he,hd',h60,hi1,h0⟩
     ·exact ⟨_,Runs.f_fin r1,.inl rfl⟩
     ·cases k with
      | zero =>
       have hk : (n,true) = (t,b):=by simpa using hk
       injection hk with e1 e2
       subst e1; subst e2
       have hs1 : s'.step.trace.length = s'.trace.length:=rfl
       obtain ⟨o2,r2,g2⟩:=ih s'.step (by omega) h60 h0 (by show s'.idle + 1 ≤ _; omega)
       exact ⟨o2,Runs.f_again r1 (by omega) r2,g2.of he (by omega)⟩
      | succ k => exact ⟨_,Runs.f_out r1,.inr ⟨k,t,b,s',by simpa using hk,rfl,he,hd',h60,hi1,h0⟩⟩
   rintro s ⟨hs,hm,hi,hf⟩
   obtain ⟨o,r,gd⟩:=key 60 s.step (by omega) hs hm (by show s.idle + 1 ≤ _; omega)
   exact ⟨o,Runs.one (by omega) (Runs.frame r) gd.not_next,gd.of rfl (Nat.le_refl _)⟩
  ·rw [if_neg hh] at ho ⊢
   exact hW _ fr hbl ho
theorem Cl {g : List Bl} (hb : aU g = true) (c : List UInt8) : Runs (.l (ii g)) (mH c) (eR g 0 (mH c)) := by
 have hv:=(cH.1 (dt hb)).1
 obtain ⟨o,h1,h2⟩:=sk hv (af g).length 0 [] (.start (by simp)) (by omega) (kW hb).2.1 (mH c) ⟨Nat.zero_le _,rfl,Nat.zero_le _,Nat.zero_le _⟩
 rcases h2 with rfl | ⟨k,t,b,s',hk,_⟩
 ·exact h1
 ·simp at hk
theorem ut {g : List Bl} (hv : aa g = true) : ∀ (l : List Nat), (∀ i ∈ l, i < g.length) → ae g l = tb (l.map (an g))
 | [],_ => rfl
 | y :: l,h => by
  rw [nv hv (h y (List.mem_cons_self ..)),ut hv l (fun i hi => h i (List.mem_cons_of_mem _ hi)),List.map_cons]
  exact iD _ _
theorem nk {g : List Bl} : ∀ (m i : Nat) (left : List UInt8), jA (bI g m i left) = 2 → (bI g m i left).length = m
 | 0,_,_ => fun _ => rfl
 | m + 1,i,left => fun h => by
  rcases hx : ai g i with _ | ⟨t,_ | ⟨u,ts⟩⟩
  ·rw [j6 hx] at h; cases h
  ·rw [iE hx,jT] at h
   rw [iE hx,List.length_cons,nk m t left h]
  ·cases left with
   | nil =>
    have e : bI g (m + 1) i [] = [(i,1)]:=by simp only [bI,hx]
    rw [e] at h; cases h
   | cons c l =>
    have e : bI g (m + 1) i (c :: l) = (i,2) :: bI g m (if c = 108 then t else u) l:=by simp only [bI,hx]
    rw [e,jT] at h
    rw [e,List.length_cons,nk m _ l h]
theorem Ai (g : List Bl) (m i : Nat) (left : List UInt8) : ∃ e r, bI g (m + 1) i left = (i, e) :: r := by
 rcases hx : ai g i with _ | ⟨t,_ | ⟨u,ts⟩⟩
 ·exact ⟨_,_,j6 hx⟩
 ·exact ⟨_,_,iE hx⟩
 ·cases left with
  | nil => exact ⟨1,[],by simp only [bI,hx]⟩
  | cons c l => exact ⟨2,bI g m (if c = 108 then t else u) l,by simp only [bI,hx]⟩
theorem Aj {g : List Bl} (hb : aU g = true) (x : List UInt8) (hx : cg (tb x) = true) : ∃ o, Runs (.l (ii g)) (mH x) o ∧ tb o.trace = mf g (tb x) ∧ (o.code : Int) = mg g (tb x) ∧ FT (some o) = false := by
 have hv:=(cH.1 (dt hb)).1
 have hB:=vx hv hx
 have hpos:=(ak.1 hv).1
 have hd : (tb x).data.toList = x:=aA x
 obtain ⟨xs,hxs⟩ : ∃ xs,xs = bI g 60 0 x:=⟨_,rfl⟩
 have ho : eR g 0 (mH x) = .fin (jA xs) (xs.map fun y => an g y.1) 0:=by rw [hxs]; rfl
 have hlt : ∀ y ∈ xs,y.1 < g.length:=by rw [hxs]; exact rD hv 60 0 x hpos
 have hne : xs ≠ []:=by
  obtain ⟨e,r,hr⟩:=Ai g 59 0 x
  rw [hxs,hr]; simp
 refine ⟨_,Cl hb x,?_,?_,?_⟩
 ·rw [ho,vy hB]
  unfold lc eS
  rw [hd,← hxs,ut hv _ (fun i hi => by obtain ⟨y,hy,rfl⟩:=List.mem_map.1 hi; exact hlt y hy),List.map_map]
  rfl
 ·rw [ho,vz hB]
  unfold qA eS
  rw [hd,← hxs]
  show ((jA xs : Nat) : Int) = _
  unfold jA
  rw [if_neg hne]
 ·rw [ho]
  unfold FT
  show (decide (jA xs = 2) && decide ((xs.map fun y => an g y.1).length < 60)) = false
  by_cases h2 : jA xs = 2
  ·have := nk 60 0 x (by rw [← hxs]; exact h2)
   rw [← hxs] at this
   rw [List.length_map,this]
   simp
  ·rw [decide_eq_false h2]; rfl
end Go.Proofs.YtlkfakdghjaoaaaGreatDoor
