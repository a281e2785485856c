import Derived.Test.YtlkfakdghjaoaaaGreatDoorMadeLeaves
import Derived.Test.YtlkfakdghjaoaaaGreatDoorJ3
namespace Go.Proofs.YtlkfakdghjaoaaaGreatDoor
open Go.RowKit Go.Sort
section
variable {g : List Bl} {T : Nat → Fr → List It} {K : Nat → List UInt8}
end
end Go.Proofs.YtlkfakdghjaoaaaGreatDoor

namespace Go.Proofs.YtlkfakdghjaoaaaGreatDoor
open Go.RowKit Go.Sort
def j9 (xs : List (Nat × Nat)) : Nat := if xs = [] then 2 else iM xs
def fg (g : List Bl) (n : Nat) (s : RSt) : ROut :=
 .fin (j9 (bQ g (60 - s.trace.length) n s.left)) (s.trace ++ (bQ g (60 - s.trace.length) n s.left).map fun x => au g x.1) 0
theorem kA {n : Nat} : ∀ {xs : List (Nat × Nat)}, j9 ((n, 2) :: xs) = j9 xs
 | [] => rfl
 | x :: xs => by
  unfold j9
  rw [if_neg (by simp), if_neg (by simp)]
  unfold iM
  rw [List.getLast?_cons_cons]
theorem Bi {g : List Bl} {n : Nat} {s : RSt} (h : s.trace.length = 60) : fg g n s = .fin 2 s.trace 0 := by
 unfold fg
 rw [h]
 simp [bQ, j9]
theorem Bj {g : List Bl} {n : Nat} {s : RSt} (h : s.trace.length < 60) (hn : ai g n = []) : fg g n s = .fin 0 (s.trace ++ [au g n]) 0 := by
 obtain ⟨m, hm⟩ : ∃ m, 60 - s.trace.length = m + 1 := ⟨59 - s.trace.length, by omega⟩
 unfold fg
 rw [hm, kN hn]
 rfl
theorem Bk {g : List Bl} {n t : Nat} {s : RSt} (h : s.trace.length < 60) (hn : ai g n = [t]) : fg g n s = fg g t (s.blk (au g n)) := by
 obtain ⟨m, hm⟩ : ∃ m, 60 - s.trace.length = m + 1 := ⟨59 - s.trace.length, by omega⟩
 have h2 : 60 - (s.blk (au g n)).trace.length = m := by simp only [RSt.blk, List.length_append, List.length_singleton]; omega
 unfold fg
 rw [hm, h2, jd hn, kA, List.map_cons]
 show ROut.fin _ (s.trace ++ (au g n :: _)) 0 = .fin _ ((s.trace ++ [au g n]) ++ _) 0
 rw [List.append_assoc]
 rfl
theorem Dn {g : List Bl} {n t u : Nat} {ts : List Nat} {s : RSt} (h : s.trace.length < 60) (hn : ai g n = t :: u :: ts) (hl : s.left = []) : fg g n s = .fin 1 (s.trace ++ [au g n]) 0 := by
 obtain ⟨m, hm⟩ : ∃ m, 60 - s.trace.length = m + 1 := ⟨59 - s.trace.length, by omega⟩
 unfold fg
 rw [hm, hl]
 simp only [bQ, hn]
 rfl
theorem EH {g : List Bl} {n t u : Nat} {ts : List Nat} {s : RSt} {c : UInt8} {l : List UInt8} (h : s.trace.length < 60) (hn : ai g n = t :: u :: ts) (hl : s.left = c :: l) :
  fg g n s = fg g (if c = 108 then t else u) { s.blk (au g n) with left := l } := by
 obtain ⟨m, hm⟩ : ∃ m, 60 - s.trace.length = m + 1 := ⟨59 - s.trace.length, by omega⟩
 have h2 : 60 - ({ s.blk (au g n) with left := l } : RSt).trace.length = m := by simp only [RSt.blk, List.length_append, List.length_singleton]; omega
 unfold fg
 rw [hm, h2, hl]
 have e : bQ g (m + 1) n (c :: l) = (n, 2) :: bQ g m (if c = 108 then t else u) l := by simp only [bQ, hn]
 rw [e, kA, List.map_cons]
 show ROut.fin _ (s.trace ++ (au g n :: _)) 0 = .fin _ ((s.trace ++ [au g n]) ++ _) 0
 rw [List.append_assoc]
 rfl
def GoodR (g : List Bl) (n : Nat) (fr : Fr) (s : RSt) (d : Nat) (o : ROut) : Prop :=
 o = fg g n s ∨ ∃ k t b s', fr[k]? = some (t, b) ∧ o = .leave k s' ∧ fg g n s = fg g t s' ∧ d ≤ s'.trace.length ∧ s'.trace.length ≤ 60 ∧ s'.idle ≤ 1 ∧ s'.num = 0
def GP (fr : Fr) (s : RSt) : Prop := s.trace.length ≤ 60 ∧ s.num = 0 ∧ s.idle ≤ 3 + fr.length ∧ fr.length ≤ 9
def oF (g : List Bl) (n : Nat) (fr : Fr) (l : List It) : Prop := ∀ s, GP fr s → ∃ o, Runs (.l l) s o ∧ GoodR g n fr s (s.trace.length + 1) o
theorem GoodR.of {g : List Bl} {n t : Nat} {fr : Fr} {s s' : RSt} {d d' : Nat} {o : ROut} (h : GoodR g t fr s' d' o) (he : fg g n s = fg g t s') (hd : d ≤ d') : GoodR g n fr s d o := by
 rcases h with rfl | ⟨k, u, b, s2, h1, h2, h3, h4, h5⟩
 ·exact .inl he.symm
 ·exact .inr ⟨k, u, b, s2, h1, h2, he.trans h3, by omega, h5⟩
theorem Runs.one {i : It} {s : RSt} {o : ROut} (hi : s.idle ≠ 4000) (h : Runs (.i i) s.step o) (hn : ∀ s', o ≠ .next s') : Runs (.l [i]) s o := by
 cases o with
 | next s' => exact absurd rfl (hn s')
 | leave k s' => exact Runs.cons_leave hi h
 | fin e t m => exact Runs.cons_fin hi h
theorem GoodR.not_next {g : List Bl} {n : Nat} {fr : Fr} {s : RSt} {d : Nat} {o : ROut} (h : GoodR g n fr s d o) (s' : RSt) : o ≠ .next s' := by
 rcases h with rfl | ⟨k, u, b, s2, _, rfl, _⟩
 ·intro e; cases e
 ·intro e; cases e
theorem td {g : List Bl} {t : Nat} {b : Bool} {fr : Fr} (ho : az [gH fr (t, b)] fr.length) {s : RSt} (hs : s.trace.length ≤ 60) (hn : s.num = 0) (hi : s.idle = 0) :
  ∃ o, Runs (.l [gH fr (t, b)]) s o ∧ GoodR g t fr s s.trace.length o := by
 unfold gH at ho ⊢
 rw [az, aC] at ho
 have hlt := ho.1.1
 refine ⟨.leave _ s.step, Runs.cons_leave (by omega) (Runs.leave _ _), .inr ⟨_, t, b, s.step, ?_, rfl, rfl, Nat.le_refl _, hs, ?_, hn⟩⟩
 ·have := List.findIdx_getElem (w := hlt)
  rw [decide_eq_true_iff] at this
  rw [List.getElem?_eq_getElem hlt, this]
 ·show s.idle + 1 ≤ 1
  omega
theorem nM {g : List Bl} {T : Nat → Fr → List It} {n t : Nat} {fr : Fr} (hT : ah g n < ah g t → az (T t fr) fr.length → oF g t fr (T t fr)) (ho : az (ff g T n t fr) fr.length) (hf : fr.length ≤ 9) {s : RSt} (hs : s.trace.length ≤ 60) (hn : s.num = 0) (hi : s.idle = 0) :
  ∃ o, Runs (.l (ff g T n t fr)) s o ∧ GoodR g t fr s s.trace.length o := by
 unfold ff at ho ⊢
 by_cases h1 : ah g n < ah g t
 ·rw [if_pos h1] at ho ⊢
  by_cases h2 : t ∈ ak g
  ·rw [if_pos h2] at ho ⊢
   exact td ho hs hn hi
  ·rw [if_neg h2] at ho ⊢
   obtain ⟨o, h3, h4⟩ := hT h1 ho s ⟨hs, hn, by omega, hf⟩
   exact ⟨o, h3, h4.of rfl (by omega)⟩
 ·rw [if_neg h1] at ho ⊢
  exact td ho hs hn hi
theorem Bm {g : List Bl} {T : Nat → Fr → List It} {n : Nat} {fr : Fr} (hT : ∀ t, t ∈ ai g n → ah g n < ah g t → az (T t fr) fr.length → oF g t fr (T t fr)) (ho : az (ii g T n fr) fr.length) : oF g n fr (ii g T n fr) := by
 rintro s ⟨hs, hn, hi, hf⟩
 have hi4 : s.idle ≠ 4000 := by omega
 unfold ii at ho ⊢
 by_cases h60 : s.trace.length = 60
 ·have hg : GoodR g n fr s (s.trace.length + 1) (.fin 2 s.trace s.num) := .inl (by rw [Bi h60, hn])
  rcases hx : ai g n with _ | ⟨t, _ | ⟨u, ts⟩⟩
  ·exact ⟨_, Runs.cons_fin hi4 (Runs.blkLong (s := s.step) h60), hg⟩
  ·exact ⟨_, Runs.cons_fin hi4 (Runs.blkLong (s := s.step) h60), hg⟩
  ·exact ⟨_, Runs.cons_fin hi4 (Runs.askLong (s := s.step) h60), hg⟩
 ·have hlt : s.trace.length < 60 := by omega
  have hl1 : (s.trace ++ [au g n]).length = s.trace.length + 1 := by simp
  rcases hx : ai g n with _ | ⟨t, _ | ⟨u, ts⟩⟩
  ·refine ⟨.fin 0 (s.trace ++ [au g n]) s.num, Runs.cons hi4 (Runs.blk (s := s.step) h60) (Runs.cons_fin (by show (0 : Nat) ≠ 4000; omega) (Runs.stop _)), .inl (by rw [Bj hlt hx, hn])⟩
  ·rw [hx] at ho
   simp only [az] at ho
   obtain ⟨o, h1, h2⟩ := nM (s := s.step.blk (au g n)) (hT t (by rw [hx]; simp)) ho.2 hf (by show (s.trace ++ [au g n]).length ≤ 60; omega) hn rfl
   refine ⟨o, Runs.cons hi4 (Runs.blk (s := s.step) h60) h1, h2.of (Bk hlt hx) ?_⟩
   show s.trace.length + 1 ≤ (s.trace ++ [au g n]).length
   omega
  ·rw [hx] at ho
   simp only [az, aC] at ho
   cases hl : s.left with
   | nil => exact ⟨_, Runs.cons_fin hi4 (Runs.askNone (s := s.step) h60 hl), .inl (by rw [Dn hlt hx hl]; show ROut.fin 1 (s.trace ++ [au g n]) s.num = _; rw [hn])⟩
   | cons c l =>
    have key : ∃ o, Runs (.l (if c = 108 then ff g T n t fr else ff g T n u fr)) { s.step.blk (au g n) with left := l } o ∧ GoodR g (if c = 108 then t else u) fr { s.step.blk (au g n) with left := l } (s.trace ++ [au g n]).length o := by
     by_cases hc : c = 108
     ·rw [if_pos hc, if_pos hc]
      exact nM (s := { s.step.blk (au g n) with left := l }) (hT t (by rw [hx]; simp)) ho.1.2.1 hf (by show (s.trace ++ [au g n]).length ≤ 60; omega) hn rfl
     ·rw [if_neg hc, if_neg hc]
      exact nM (s := { s.step.blk (au g n) with left := l }) (hT u (by rw [hx]; simp)) ho.1.2.2 hf (by show (s.trace ++ [au g n]).length ≤ 60; omega) hn rfl
    obtain ⟨o, h1, h2⟩ := key
    exact ⟨o, Runs.one hi4 (Runs.ask (s := s.step) h60 hl h1) h2.not_next, h2.of (EH hlt hx hl) (by omega)⟩
theorem pf {g : List Bl} {T : Nat → Fr → List It} {n : Nat} (hT : ∀ t fr, Rch g [] t → ah g n < ah g t → az (T t fr) fr.length → oF g t fr (T t fr)) (hn : Rch g [] n) : ∀ (bs : List Nat) (fr : Fr), (∀ y ∈ bs, Rch g [] y ∧ ah g n < ah g y) → az (bW g T n bs fr) fr.length → oF g n fr (bW g T n bs fr)
 | [], fr, _, ho => Bm (fun t ht hp => hT t fr (.step hn ht (by simp)) hp) ho
 | y :: bs, fr, hb, ho => by
  rintro s ⟨hs, hm, hi, hf⟩
  have hi4 : s.idle ≠ 4000 := by omega
  rw [bW, az, aC] at ho
  obtain ⟨⟨hlt, hin⟩, hy⟩ := ho
  obtain ⟨o1, r1, g1⟩ := pf hT hn bs ((y, false) :: fr) (fun z hz => hb z (List.mem_cons_of_mem _ hz)) hin s.step ⟨hs, hm, by show s.idle + 1 ≤ 3 + (fr.length + 1); omega, by show fr.length + 1 ≤ 9; omega⟩
  rw [bW]
  rcases g1 with rfl | ⟨k, t, b, s', hk, rfl, he, hd, h60, hi1, h0⟩
  ·exact ⟨_, Runs.cons_fin hi4 (Runs.frame (Runs.f_fin r1)), .inl rfl⟩
  ·have hd : s.trace.length + 1 ≤ s'.trace.length := hd
   cases k with
   | zero =>
    have hk : (y, false) = (t, b) := by simpa using hk
    injection hk with e1 e2
    subst e1; subst e2
    obtain ⟨hyr, hyp⟩ := hb y (List.mem_cons_self ..)
    obtain ⟨o2, r2, g2⟩ := hT y fr hyr hyp hy s' ⟨h60, h0, by omega, hf⟩
    exact ⟨o2, Runs.cons hi4 (Runs.frame (Runs.f_once r1)) r2, g2.of he (by omega)⟩
   | succ k => exact ⟨_, Runs.cons_leave hi4 (Runs.frame (Runs.f_out r1)), .inr ⟨k, t, b, s', by simpa using hk, rfl, he, hd, h60, hi1, h0⟩⟩
theorem xB {g : List Bl} (hv : aa g = true) {n y : Nat} (h : y ∈ aq g n) : Rch g [] y ∧ ah g n < ah g y := by
 obtain ⟨hr, _, hp⟩ := (dY hv).1 h
 exact ⟨hr, eY hv hr hp⟩
theorem tf {g : List Bl} (hv : aa g = true) : ∀ (m n : Nat) (fr : Fr), Rch g [] n → (ac g).length ≤ m + ah g n → az (dX g m n fr) fr.length → oF g n fr (dX g m n fr)
 | 0, n, fr, hn, hL, _ => by have := j7 hv hn; omega
 | m + 1, n, fr, hn, hL, ho => by
  have hW := fun bs fr => pf (g := g) (T := dX g m) (n := n) (fun t fr' hr hp ho => tf hv m t fr' hr (by omega) ho) hn bs fr
  have hbl : ∀ y ∈ aq g n, Rch g [] y ∧ ah g n < ah g y := fun y hy => xB hv hy
  rw [dX] at ho ⊢
  by_cases hh : n ∈ aL g
  ·rw [if_pos hh] at ho ⊢
   rw [az, aC] at ho
   obtain ⟨⟨hlt, hin⟩, _⟩ := ho
   have hD := hW _ ((n, true) :: fr) hbl hin
   have key : ∀ (d : Nat) (s : RSt), 60 - s.trace.length ≤ d → s.trace.length ≤ 60 → s.num = 0 → s.idle ≤ 4 + fr.length → ∃ o, Runs (.f true (bW g (dX g m) n (aq g n) ((n, true) :: fr))) s o ∧ GoodR g n fr s (s.trace.length + 1) o := by
    intro d
    induction d with
    | zero =>
     intro s hd hs hm hi
     obtain ⟨o1, r1, g1⟩ := hD s ⟨hs, hm, by show s.idle ≤ 3 + (fr.length + 1); omega, by show fr.length + 1 ≤ 9; omega⟩
     rcases g1 with rfl | ⟨k, t, b, s', hk, rfl, he, hd', h60, hi1, h0⟩
     ·exact ⟨_, Runs.f_fin r1, .inl rfl⟩
     ·omega
    | succ d ih =>
     intro s hd hs hm hi
     obtain ⟨o1, r1, g1⟩ := hD s ⟨hs, hm, by show s.idle ≤ 3 + (fr.length + 1); omega, by show fr.length + 1 ≤ 9; omega⟩
     rcases g1 with rfl | ⟨k, t, b, s', hk, rfl, he, hd', h60, hi1, h0⟩
     ·exact ⟨_, Runs.f_fin r1, .inl rfl⟩
     ·cases k with
      | zero =>
       have hk : (n, true) = (t, b) := by simpa using hk
       injection hk with e1 e2
       subst e1; subst e2
       have hs1 : s'.step.trace.length = s'.trace.length := rfl
       obtain ⟨o2, r2, g2⟩ := ih s'.step (by omega) h60 h0 (by show s'.idle + 1 ≤ _; omega)
       exact ⟨o2, Runs.f_again r1 (by omega) r2, g2.of he (by omega)⟩
      | succ k => exact ⟨_, Runs.f_out r1, .inr ⟨k, t, b, s', by simpa using hk, rfl, he, hd', h60, hi1, h0⟩⟩
   rintro s ⟨hs, hm, hi, hf⟩
   obtain ⟨o, r, gd⟩ := key 60 s.step (by omega) hs hm (by show s.idle + 1 ≤ _; omega)
   exact ⟨o, Runs.one (by omega) (Runs.frame r) gd.not_next, gd.of rfl (Nat.le_refl _)⟩
  ·rw [if_neg hh] at ho ⊢
   exact hW _ fr hbl ho
theorem Do {g : List Bl} (hb : aY g = true) (c : List UInt8) : Runs (.l (iR g)) (nc c) (fg g 0 (nc c)) := by
 have hv := (cm.1 (c6 hb)).1
 obtain ⟨o, h1, h2⟩ := tf hv (ac g).length 0 [] (.start (by simp)) (by omega) (rX hb).2.1 (nc c) ⟨Nat.zero_le _, rfl, Nat.zero_le _, Nat.zero_le _⟩
 rcases h2 with rfl | ⟨k, t, b, s', hk, _⟩
 ·exact h1
 ·simp at hk
theorem vo {g : List Bl} (hv : aa g = true) : ∀ (l : List Nat), (∀ i ∈ l, i < g.length) → ae g l = tb (l.map (au g))
 | [], _ => rfl
 | y :: l, h => by
  rw [nS hv (h y (List.mem_cons_self ..)), vo hv l (fun i hi => h i (List.mem_cons_of_mem _ hi)), List.map_cons]
  exact jb _ _
theorem nN {g : List Bl} : ∀ (m i : Nat) (left : List UInt8), j9 (bQ g m i left) = 2 → (bQ g m i left).length = m
 | 0, _, _ => fun _ => rfl
 | m + 1, i, left => fun h => by
  rcases hx : ai g i with _ | ⟨t, _ | ⟨u, ts⟩⟩
  ·rw [kN hx] at h; cases h
  ·rw [jd hx, kA] at h
   rw [jd hx, List.length_cons, nN m t left h]
  ·cases left with
   | nil =>
    have e : bQ g (m + 1) i [] = [(i, 1)] := by simp only [bQ, hx]
    rw [e] at h; cases h
   | cons c l =>
    have e : bQ g (m + 1) i (c :: l) = (i, 2) :: bQ g m (if c = 108 then t else u) l := by simp only [bQ, hx]
    rw [e, kA] at h
    rw [e, List.length_cons, nN m _ l h]
theorem Bn (g : List Bl) (m i : Nat) (left : List UInt8) : ∃ e r, bQ g (m + 1) i left = (i, e) :: r := by
 rcases hx : ai g i with _ | ⟨t, _ | ⟨u, ts⟩⟩
 ·exact ⟨_, _, kN hx⟩
 ·exact ⟨_, _, jd hx⟩
 ·cases left with
  | nil => exact ⟨1, [], by simp only [bQ, hx]⟩
  | cons c l => exact ⟨2, bQ g m (if c = 108 then t else u) l, by simp only [bQ, hx]⟩
theorem Bo {g : List Bl} (hb : aY g = true) (x : List UInt8) (hx : bT (tb x) = true) : ∃ o, Runs (.l (iR g)) (nc x) o ∧ tb o.trace = lp g (tb x) ∧ (o.code : Int) = lq g (tb x) ∧ wl (some o) = false := by
 have hv := (cm.1 (c6 hb)).1
 have hB := p3 hv hx
 have hpos := (aj.1 hv).1
 have hd : (tb x).data.toList = x := aI x
 obtain ⟨xs, hxs⟩ : ∃ xs, xs = bQ g 60 0 x := ⟨_, rfl⟩
 have ho : fg g 0 (nc x) = .fin (j9 xs) (xs.map fun y => au g y.1) 0 := by rw [hxs]; rfl
 have hlt : ∀ y ∈ xs, y.1 < g.length := by rw [hxs]; exact sh hv 60 0 x hpos
 have hne : xs ≠ [] := by
  obtain ⟨e, r, hr⟩ := Bn g 59 0 x
  rw [hxs, hr]; simp
 refine ⟨_, Do hb x, ?_, ?_, ?_⟩
 ·rw [ho, wK hB]
  unfold lN fj
  rw [hd, ← hxs, vo hv _ (fun i hi => by obtain ⟨y, hy, rfl⟩ := List.mem_map.1 hi; exact hlt y hy), List.map_map]
  rfl
 ·rw [ho, wL hB]
  unfold ri fj
  rw [hd, ← hxs]
  show ((j9 xs : Nat) : Int) = _
  unfold j9
  rw [if_neg hne]
 ·rw [ho]
  unfold wl
  show (decide (j9 xs = 2) && decide ((xs.map fun y => au g y.1).length < 60)) = false
  by_cases h2 : j9 xs = 2
  ·have := nN 60 0 x (by rw [← hxs]; exact h2)
   rw [← hxs] at this
   rw [List.length_map, this]
   simp
  ·rw [decide_eq_false h2]; rfl
end Go.Proofs.YtlkfakdghjaoaaaGreatDoor
