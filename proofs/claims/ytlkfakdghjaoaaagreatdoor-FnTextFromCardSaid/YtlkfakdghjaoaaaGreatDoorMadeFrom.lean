import Derived.Test.YtlkfakdghjaoaaaGreatDoorMadeLeaves
namespace Go.Proofs.YtlkfakdghjaoaaaGreatDoor
open Go.RowKit Go.Sort
def brZ (c : UInt8) : Int := if c = 40 ∨ c = 123 then 1 else if c = 41 ∨ c = 125 then -1 else 0
def dz : List UInt8 → Int
 | [] => 0
 | c :: s => brZ c + dz s
theorem dz_app : ∀ a b : List UInt8, dz (a ++ b) = dz a + dz b
 | [], b => by show dz b = 0 + dz b; omega
 | c :: a, b => by
  show brZ c + dz (a ++ b) = brZ c + dz a + dz b
  rw [dz_app a b]; omega
theorem dz_most : ∀ a : List UInt8, -(a.length : Int) ≤ dz a ∧ dz a ≤ a.length
 | [] => by show -((0 : Nat) : Int) ≤ 0 ∧ (0 : Int) ≤ ((0 : Nat) : Int); omega
 | c :: a => by
  have h := dz_most a
  have h1 : -1 ≤ brZ c ∧ brZ c ≤ 1 := by unfold brZ; split; omega; split <;> omega
  show -((a.length + 1 : Nat) : Int) ≤ brZ c + dz a ∧ brZ c + dz a ≤ ((a.length + 1 : Nat) : Int)
  omega
theorem brZ_free {c : UInt8} (h : upB c = false ∧ dnB c = false) : brZ c = 0 := by
 unfold upB dnB at h
 rw [Bool.or_eq_false_iff, Bool.or_eq_false_iff, beq_eq_false_iff_ne, beq_eq_false_iff_ne, beq_eq_false_iff_ne, beq_eq_false_iff_ne] at h
 unfold brZ
 rw [if_neg (by rintro (e | e); exact h.1.1 e; exact h.1.2 e), if_neg (by rintro (e | e); exact h.2.1 e; exact h.2.2 e)]
mutual
theorem dzI : ∀ (i : It) (f : Nat), OkI i f → dz (txI i) = 0
 | .blk c, f, h => by
  rw [OkI] at h
  rw [txI]
  show brZ c + 0 = 0
  rw [brZ_free (free_let h)]; rfl
 | .ask c l r, f, h => by
  rw [OkI] at h
  have a := dzL l f h.2.1
  have b := dzL r f h.2.2
  have e := brZ_free (free_let h.1)
  rw [txI]
  have e1 : brZ 63 = 0 := rfl
  have e2 : brZ 91 = 0 := rfl
  have e3 : brZ 93 = 0 := rfl
  simp only [dz, dz_app, a, b, e, e1, e2, e3]
  omega
 | .stop, f, h => by rw [txI]; rfl
 | .frame b l, f, h => by
  rw [OkI] at h
  have a := dzL l (f + 1) h.2
  rw [txI]
  cases b
  ·show dz (40 :: (txL l ++ [41])) = 0
   have e1 : brZ 40 = 1 := rfl
   have e2 : brZ 41 = -1 := rfl
   simp only [dz, dz_app, a, e1, e2]
   omega
  ·show dz (123 :: (txL l ++ [125])) = 0
   have e1 : brZ 123 = 1 := rfl
   have e2 : brZ 125 = -1 := rfl
   simp only [dz, dz_app, a, e1, e2]
   omega
 | .leave n, f, h => by
  rw [OkI] at h
  rw [txI]
  have e := brZ_free (free_dig h.2)
  have e1 : brZ 94 = 0 := rfl
  simp only [dz, e, e1]
  omega
 | .set n, f, h => by
  rw [OkI] at h
  rw [txI]
  have e := brZ_free (free_dig h)
  have e1 : brZ 61 = 0 := rfl
  simp only [dz, e, e1]
  omega
 | .pick bs, f, h => by
  rw [OkI] at h
  rw [txI]
  have a := dzB bs f h.2.2
  have e1 : brZ 35 = 0 := rfl
  simp only [dz, a, e1]
  omega
theorem dzL : ∀ (l : List It) (f : Nat), OkL l f → dz (txL l) = 0
 | [], _, _ => rfl
 | i :: l, f, h => by
  rw [OkL] at h
  rw [txL, dz_app, dzI i f h.1, dzL l f h.2]; rfl
theorem dzB : ∀ (bs : List (List It)) (f : Nat), OkB bs f → dz (txB bs) = 0
 | [], _, _ => rfl
 | b :: bs, f, h => by
  rw [OkB] at h
  rw [txB]
  have e2 : brZ 91 = 0 := rfl
  have e3 : brZ 93 = 0 := rfl
  simp only [dz, dz_app, dzL b f h.1, dzB bs f h.2, e2, e3]
  omega
end
def Occ (s p : List UInt8) (d : Int) : Prop := ∃ a b, s = a ++ (p ++ b) ∧ dz a = d
theorem Occ.self (s : List UInt8) : Occ s s 0 := ⟨[], [], by simp, rfl⟩
theorem Occ.ahead {s p x y : List UInt8} {d : Int} (h : Occ s p d) : Occ (x ++ (s ++ y)) p (dz x + d) := by
 obtain ⟨a, b, rfl, hd⟩ := h
 refine ⟨x ++ a, b ++ y, by simp, by rw [dz_app, hd]⟩
theorem Occ.to {s s' p : List UInt8} {d d' : Int} (h : Occ s p d) (hs : s' = s) (hd : d' = d) : Occ s' p d' := by rw [hs, hd]; exact h
def Lies (g : List Bl) (l : List It) (f : Nat) (p : Nat × MPart) : Prop := Occ (txL l) p.2.1 ((p.2.2.length : Int) - f) ∧ letC g p.1 ∈ p.2.1
theorem bare_has (g : List Bl) (T : Nat → Fr → List UInt8) (n : Nat) (fr : Fr) : letC g n ∈ bareW g T n fr := by
 unfold bareW
 rcases nxt g n with _ | ⟨t, _ | ⟨u, ts⟩⟩ <;> simp
theorem within_has (g : List Bl) (T : Nat → Fr → List UInt8) (n : Nat) : ∀ (bs : List Nat) (fr : Fr), letC g n ∈ withinW g T n bs fr
 | [], fr => bare_has g T n fr
 | y :: bs, fr => by
  have := within_has g T n bs ((y, false) :: fr)
  rw [withinW]
  exact List.mem_cons_of_mem _ (List.mem_append_left _ this)
theorem tree_has (g : List Bl) (m n : Nat) (fr : Fr) : letC g n ∈ treeW g (m + 1) n fr := by
 rw [treeW]
 split
 ·exact List.mem_cons_of_mem _ (List.mem_append_left _ (within_has ..))
 ·exact within_has ..
theorem jump_lies {g : List Bl} {T : Nat → Fr → List It} {V : Nat → Fr → List (Nat × MPart)} {n t : Nat} {fr : Fr} (hT : ∀ t fr, OkL (T t fr) fr.length → ∀ p ∈ V t fr, Lies g (T t fr) fr.length p) (ho : OkL (jumpI g T n t fr) fr.length) : ∀ p ∈ jumpV g V n t fr, Lies g (jumpI g T n t fr) fr.length p := by
 intro p hp
 unfold jumpV at hp
 split at hp
 ·rename_i hc
  unfold jumpI at ho ⊢
  rw [if_pos hc.1, if_neg hc.2] at ho ⊢
  exact hT t fr ho p hp
 ·cases hp
theorem bare_lies {g : List Bl} {T : Nat → Fr → List It} {V : Nat → Fr → List (Nat × MPart)} {n : Nat} {fr : Fr} (h2 : (nxt g n).length ≤ 2) (hT : ∀ t fr, OkL (T t fr) fr.length → ∀ p ∈ V t fr, Lies g (T t fr) fr.length p) (ho : OkL (bareI g T n fr) fr.length) : ∀ p ∈ bareV g V n fr, Lies g (bareI g T n fr) fr.length p := by
 intro p hp
 unfold bareV at hp
 obtain ⟨x, hx, hp⟩ := List.mem_flatMap.1 hp
 unfold bareI at ho ⊢
 rcases hn : nxt g n with _ | ⟨t, _ | ⟨u, ts⟩⟩
 ·rw [hn] at hx; cases hx
 ·rw [hn] at hx ho
  obtain rfl := List.mem_singleton.1 hx
  simp only [OkL] at ho
  obtain ⟨a, b⟩ := jump_lies (g := g) hT ho.2 p hp
  refine ⟨(a.ahead (x := [letC g n]) (y := [])).to ?_ ?_, b⟩
  ·simp only [txL, txI, List.append_nil]
  ·have e := brZ_free (free_let ho.1)
   show _ = brZ (letC g n) + 0 + _
   rw [e]; omega
 ·rw [hn] at hx ho h2
  have hts : ts = [] := by cases ts with | nil => rfl | cons a b => simp at h2
  subst hts
  simp only [OkL, OkI] at ho
  have e := brZ_free (free_let ho.1.1)
  have e1 : brZ 63 = 0 := rfl
  have e2 : brZ 91 = 0 := rfl
  have e3 : brZ 93 = 0 := rfl
  rcases List.mem_cons.1 hx with rfl | hx
  ·obtain ⟨a, b⟩ := jump_lies (g := g) hT ho.1.2.1 p hp
   refine ⟨(a.ahead (x := [63, letC g n, 91]) (y := 93 :: 91 :: (txL (jumpI g T n u fr) ++ [93]))).to ?_ ?_, b⟩
   ·simp only [txL, txI, List.append_nil]
    simp
   ·simp only [dz, e, e1, e2]; omega
  ·obtain rfl := List.mem_singleton.1 hx
   obtain ⟨a, b⟩ := jump_lies (g := g) hT ho.1.2.2 p hp
   refine ⟨(a.ahead (x := 63 :: letC g n :: 91 :: (txL (jumpI g T n t fr) ++ [93, 91])) (y := [93])).to ?_ ?_, b⟩
   ·simp only [txL, txI, List.append_nil]
    simp
   ·have := dzL _ _ ho.1.2.1
    simp only [dz, dz_app, this, e, e1, e2, e3]; omega
theorem within_lies {g : List Bl} {T : Nat → Fr → List It} {V : Nat → Fr → List (Nat × MPart)} {n : Nat} (h2 : (nxt g n).length ≤ 2) (hT : ∀ t fr, OkL (T t fr) fr.length → ∀ p ∈ V t fr, Lies g (T t fr) fr.length p) : ∀ (bs : List Nat) (fr : Fr), OkL (withinI g T n bs fr) fr.length → ∀ p ∈ withinV g V n bs fr, Lies g (withinI g T n bs fr) fr.length p
 | [], fr, ho => bare_lies h2 hT ho
 | y :: bs, fr, ho => by
  intro p hp
  rw [withinV, List.mem_append] at hp
  rw [withinI, OkL] at ho
  have hfr := dzI _ _ ho.1
  rw [OkI] at ho
  rw [withinI]
  rcases hp with hp | hp
  ·obtain ⟨a, b⟩ := within_lies h2 hT bs ((y, false) :: fr) ho.1.2 p hp
   refine ⟨(a.ahead (x := [40]) (y := 41 :: txL (T y fr))).to ?_ ?_, b⟩
   ·simp only [txL, txI, opn, cls]
    simp
   ·have e1 : brZ 40 = 1 := rfl
    simp only [dz, e1, List.length_cons]
    omega
  ·obtain ⟨a, b⟩ := hT y fr ho.2 p hp
   refine ⟨(a.ahead (x := txI (.frame false (withinI g T n bs ((y, false) :: fr)))) (y := [])).to ?_ ?_, b⟩
   ·simp only [txL, List.append_nil]
   ·rw [hfr]; omega
theorem frS_length (g : List Bl) (fr : Fr) : (frS g fr).length = fr.length := by unfold frS; rw [List.length_map]
theorem tree_lies {g : List Bl} (hv : validB g = true) : ∀ (m n : Nat) (fr : Fr), OkL (treeI g m n fr) fr.length → ∀ p ∈ wrP g m n fr, Lies g (treeI g m n fr) fr.length p
 | 0, _, _, _ => fun _ h => by cases h
 | m + 1, n, fr, ho => by
  intro p hp
  rw [wrP, List.mem_append] at hp
  rcases hp with hp | hp
  ·have hW := fun fr => within_lies (g := g) (n := n) (nxt_few hv n) (tree_lies hv m) (belowL g n) fr
   unfold intoF at hp
   rw [treeI] at ho ⊢
   by_cases hh : n ∈ headL g
   ·rw [if_pos hh] at hp ho ⊢
    rw [OkL, OkI] at ho
    obtain ⟨a, b⟩ := hW ((n, true) :: fr) ho.1.2 p hp
    refine ⟨(a.ahead (x := [123]) (y := [125])).to ?_ ?_, b⟩
    ·simp only [txL, txI, opn, cls, List.append_nil]
     simp
    ·have e1 : brZ 123 = 1 := rfl
     simp only [dz, e1, List.length_cons]
     omega
   ·rw [if_neg hh] at hp ho ⊢
    exact hW fr ho p hp
  ·obtain rfl := List.mem_singleton.1 hp
   refine ⟨?_, tree_has g m n fr⟩
   show Occ _ (treeW g (m + 1) n fr) (((frS g fr).length : Int) - fr.length)
   rw [tree_text g (m + 1) n fr ho, frS_length]
   exact (Occ.self _).to rfl (by omega)
theorem updP_mem {g : List Bl} {s : List UInt8} {v : MPart} : ∀ (l : List (Nat × MPart)) (P : MParts), updP g P l s = some v → (∃ p ∈ l, s = [letC g p.1] ∧ p.2 = v) ∨ P s = some v
 | [], _, h => .inr h
 | p :: l, P, h => by
  rcases updP_mem l _ (show updP g (putP P [letC g p.1] p.2) l s = some v from h) with ⟨q, h1, h2⟩ | h1
  ·exact .inl ⟨q, List.mem_cons_of_mem _ h1, h2⟩
  ·unfold putP at h1
   split at h1
   ·rename_i e
    exact .inl ⟨p, List.mem_cons_self .., e, by injection h1⟩
   ·exact .inr h1
theorem made_lies {g : List Bl} (hb : madeB g = true) {n : Nat} (hn : Rch g [] n) : Occ (madeT g) (madeP g n) (madeA g n).length ∧ letC g n ∈ madeP g n := by
 have ht := madeB_tame hb
 have hv := (tameB_iff.1 ht).1
 have hq := madeQ_yes ht hn
 unfold madeQ at hq
 rcases updP_mem _ _ hq with ⟨p, h1, h2, h3⟩ | h
 ·have ho := made_ok hb
  obtain ⟨a, b⟩ := tree_lies hv _ _ _ ho.2.1 p h1
  rw [h3] at a b
  injection h2 with h2
  rw [← h2] at b
  refine ⟨a.to ho.2.2 ?_, b⟩
  show ((madeA g n).length : Int) = (madeA g n).length - ((0 : Nat) : Int)
  omega
 ·cases h
theorem made_entry {g : List Bl} (ht : tameB g = true) : madeP g 0 = madeT g ∧ madeA g 0 = [] := by
 have hv := (tameB_iff.1 ht).1
 have hT := tame_of hv (tameB_iff.1 ht).2
 have h0 : Rch g [] 0 := .start (by simp)
 have hq := madeQ_yes ht h0
 have hlt : 0 < (wayOrd g).length := List.length_pos_of_mem ((mem_wayOrd hv).2 h0)
 obtain ⟨m, hm⟩ : ∃ m, (wayOrd g).length = m + 1 := ⟨(wayOrd g).length - 1, by omega⟩
 have hp := wrP_keys g (wayOrd g).length 0 []
 have hnd : ((wrP g (wayOrd g).length 0 []).map (·.1)).Nodup := hp.nodup_iff.2 (keys_nodup hv hT _ _ h0)
 have hl : ∀ p ∈ wrP g (wayOrd g).length 0 [], p.1 < g.length := fun p hp' =>
  (keys_dom hv hT _ _ h0 p.1 (hp.mem_iff.1 (List.mem_map.2 ⟨p, hp', rfl⟩))).1.lt hv
 have hmem : (0, (madeT g, frS g [])) ∈ wrP g (wayOrd g).length 0 [] := by
  unfold madeT
  rw [hm, wrP]
  exact List.mem_append_right _ (List.mem_singleton.2 rfl)
 have := updP_at hv _ (fun _ => none) hl hnd hmem
 unfold madeQ at hq
 rw [hq] at this
 injection this with this
 injection this with h1 h2
 exact ⟨h1, h2⟩
end Go.Proofs.YtlkfakdghjaoaaaGreatDoor
