import Derived.Test.YtlkfakdghjaoaaaGreatDoorMakeFace
import Derived.Test.YtlkfakdghjaoaaaGreatDoorCount
import Derived.Test.YtlkfakdghjaoaaaGreatDoorJ2
namespace Go.Proofs.YtlkfakdghjaoaaaGreatDoor
open Go.RowKit Go.Sort
theorem withinV_map {α β : Type} (f : α → β) (g : List Bl) (V : Nat → Fr → List α) (n : Nat) : ∀ (bs : List Nat) (fr : Fr), withinV g (fun c fr => (V c fr).map f) n bs fr = (withinV g V n bs fr).map f
 | [], fr => by
  show bareV g _ n fr = (bareV g V n fr).map f
  unfold bareV
  rw [List.map_flatMap]
  refine congrArg (fun h => (nxt g n).flatMap h) (funext fun t => ?_)
  unfold jumpV
  split <;> rfl
 | y :: bs, fr => by rw [withinV, withinV, withinV_map f g V n bs, List.map_append]
theorem withinV_congr {α : Type} {g : List Bl} {V V' : Nat → Fr → List α} (h : ∀ c fr, V c fr = V' c fr) (n : Nat) (bs : List Nat) (fr : Fr) : withinV g V n bs fr = withinV g V' n bs fr := by
 have : V = V' := funext fun c => funext fun fr => h c fr
 rw [this]
theorem perm_flat {α β : Type} {f f' : α → List β} (h : ∀ a, (f a).Perm (f' a)) : ∀ l : List α, (l.flatMap f).Perm (l.flatMap f')
 | [] => List.Perm.refl _
 | a :: l => by rw [List.flatMap_cons, List.flatMap_cons]; exact (h a).append (perm_flat h l)
theorem nodup_flat {α β : Type} {f : α → List β} : ∀ l : List α, (∀ a ∈ l, (f a).Nodup) → l.Pairwise (fun a b => ∀ x ∈ f a, x ∉ f b) → (l.flatMap f).Nodup
 | [], _, _ => by simp
 | a :: l, h, hp => by
  rw [List.pairwise_cons] at hp
  rw [List.flatMap_cons, List.nodup_append]
  refine ⟨h a (List.mem_cons_self ..), nodup_flat l (fun b hb => h b (List.mem_cons_of_mem _ hb)) hp.2, fun x hx y hy e => ?_⟩
  subst e
  obtain ⟨b, hb, hy⟩ := List.mem_flatMap.1 hy
  exact hp.1 b hb x hx hy
theorem withinV_perm {α : Type} {g : List Bl} {V V' : Nat → Fr → List α} (h : ∀ c fr, (V c fr).Perm (V' c fr)) (n : Nat) : ∀ (bs : List Nat) (fr : Fr), (withinV g V n bs fr).Perm (withinV g V' n bs fr)
 | [], fr => by
  show (bareV g V n fr).Perm (bareV g V' n fr)
  unfold bareV
  refine perm_flat (fun t => ?_) _
  unfold jumpV
  split
  ·exact h t fr
  ·exact List.Perm.refl _
 | y :: bs, fr => by
  rw [withinV, withinV]
  exact (withinV_perm h n bs _).append (h y fr)
theorem wrT_eq (g : List Bl) : ∀ (m n : Nat) (fr : Fr), wrT g m n fr = (wrP g m n fr).map fun p => (p.1, p.2.1)
 | 0, _, _ => rfl
 | m + 1, n, fr => by
  rw [wrT, wrP, List.map_append, ← withinV_map, withinV_congr (wrT_eq g m)]
  rfl
theorem wrA_perm (g : List Bl) : ∀ (m n : Nat) (fr : Fr), (trF g (wrA g m n fr)).Perm ((wrP g m n fr).map fun p => (p.1, p.2.2))
 | 0, _, _ => List.Perm.refl _
 | m + 1, n, fr => by
  rw [wrA, wrP, List.map_append, ← withinV_map]
  show ((n, frS g fr) :: trF g (withinV g (wrA g m) n (belowL g n) (intoF g n fr))).Perm _
  have h1 : trF g (withinV g (wrA g m) n (belowL g n) (intoF g n fr)) = withinV g (fun c fr => trF g (wrA g m c fr)) n (belowL g n) (intoF g n fr) := (withinV_map (fun p : Nat × Fr => (p.1, frS g p.2)) g (wrA g m) n _ _).symm
  rw [h1]
  exact ((withinV_perm (wrA_perm g m) n _ _).cons (n, frS g fr)).trans (List.perm_append_singleton _ _).symm
def keysW (g : List Bl) : Nat → Nat → List Nat
 | 0, _ => []
 | m + 1, n => (visK g n).flatMap (keysW g m) ++ [n]
theorem withinV_keys {g : List Bl} {V : Nat → Fr → List Nat} {K : Nat → List Nat} (h : ∀ c fr, (V c fr).Perm (K c)) (n : Nat) : ∀ (bs : List Nat) (fr : Fr), (withinV g V n bs fr).Perm ((bs ++ bareK g n).flatMap K)
 | [], fr => by
  rw [List.nil_append]
  show (bareV g V n fr).Perm _
  unfold bareV bareK
  generalize nxt g n = l
  induction l with
  | nil => exact List.Perm.refl _
  | cons t l ih =>
   rw [List.flatMap_cons, List.filter_cons]
   unfold jumpV
   by_cases hc : placeN g n < placeN g t ∧ t ∉ meetsL g
   ·rw [if_pos hc, if_pos (by rw [Bool.and_eq_true, decide_eq_true_iff, decide_eq_true_iff]; exact hc), List.flatMap_cons]
    exact (h t fr).append ih
   ·rw [if_neg hc, if_neg (by rw [Bool.and_eq_true, decide_eq_true_iff, decide_eq_true_iff]; exact hc), List.nil_append]
    exact ih
 | y :: bs, fr => by
  rw [withinV, List.cons_append, List.flatMap_cons]
  exact ((withinV_keys h n bs _).append (h y fr)).trans List.perm_append_comm
theorem wrP_keys (g : List Bl) : ∀ (m n : Nat) (fr : Fr), ((wrP g m n fr).map (·.1)).Perm (keysW g m n)
 | 0, _, _ => List.Perm.refl _
 | m + 1, n, fr => by
  rw [wrP, List.map_append, ← withinV_map, keysW]
  exact (withinV_keys (wrP_keys g m) n _ _).append_right _
theorem keys_dom {g : List Bl} (hv : validB g = true) (hT : Tame g) : ∀ (m n : Nat), Rch g [] n → ∀ x ∈ keysW g m n, Rch g [] x ∧ Dm g n x
 | 0, _, _ => fun _ h => by cases h
 | m + 1, n, hn => fun x hx => by
  rw [keysW, List.mem_append, List.mem_flatMap, List.mem_singleton] at hx
  rcases hx with ⟨c, hc, hx⟩ | rfl
  ·obtain ⟨hcr, hcp⟩ := (mem_kids hv).1 (visK_kids hv hT hn hc)
   obtain ⟨h1, h2⟩ := keys_dom hv hT m c hcr x hx
   exact ⟨h1, (par_dom hcp).trans h2⟩
  ·exact ⟨hn, .refl g x⟩
theorem keys_nodup {g : List Bl} (hv : validB g = true) (hT : Tame g) : ∀ (m n : Nat), Rch g [] n → (keysW g m n).Nodup
 | 0, _, _ => List.nodup_nil
 | m + 1, n, hn => by
  have hk : ∀ c ∈ visK g n, Rch g [] c ∧ Par g n c := fun c hc => (mem_kids hv).1 (visK_kids hv hT hn hc)
  rw [keysW, List.nodup_append]
  refine ⟨?_, by simp, fun a ha b hb e => ?_⟩
  ·refine nodup_flat _ (fun c hc => keys_nodup hv hT m c (hk c hc).1) ?_
   refine (List.nodup_iff_pairwise_ne.1 (visK_nodup hv (hn.lt hv))).imp_of_mem fun {a b} ha hb hne => ?_
   intro x hxa hxb
   obtain ⟨hxr, h1⟩ := keys_dom hv hT m a (hk a ha).1 x hxa
   obtain ⟨_, h2⟩ := keys_dom hv hT m b (hk b hb).1 x hxb
   have key : ∀ p q, Rch g [] p → Par g n p → Rch g [] q → Par g n q → p ≠ q → Dm g p q → False := fun p q hpr hp hqr hq hpq hd => by
    have h3 : Dm g p n := ((hq.2.2 p).1 hd).resolve_left hpq
    exact hp.1 (h3.antisymm (par_dom hp) hpr).symm
   rcases h1.total h2 hxr with h3 | h3
   ·exact key a b (hk a ha).1 (hk a ha).2 (hk b hb).1 (hk b hb).2 hne h3
   ·exact key b a (hk b hb).1 (hk b hb).2 (hk a ha).1 (hk a ha).2 (fun e => hne e.symm) h3
  ·rw [List.mem_singleton] at hb
   subst hb
   subst e
   obtain ⟨c, hc, hx⟩ := List.mem_flatMap.1 ha
   have h3 := (keys_dom hv hT m c (hk c hc).1 a hx).2
   exact (hk c hc).2.1 (h3.antisymm (par_dom (hk c hc).2) (hk c hc).1).symm
theorem dom_child {g : List Bl} (hv : validB g = true) {n : Nat} : ∀ (k x : Nat), placeN g x ≤ k → Rch g [] x → Dm g n x → n ≠ x → ∃ c, Rch g [] c ∧ Par g n c ∧ Dm g c x
 | 0, x, hk, hx, hd, hne => by
  have := dom_place hv hx hd hne
  omega
 | k + 1, x, hk, hx, hd, hne => by
  have h0 : x ≠ 0 := fun e => hne (by subst e; exact hd.of_entry)
  obtain ⟨p, hp⟩ := par_some hv hx h0
  have hnp : Dm g n p := ((hp.2.2 n).1 hd).resolve_left hne
  by_cases e : n = p
  ·subst e; exact ⟨x, hx, hp, .refl g x⟩
  ·have hpl := par_place hv hx hp
   obtain ⟨c, h1, h2, h3⟩ := dom_child hv k p (by omega) hp.2.1 hnp e
   exact ⟨c, h1, h2, h3.trans (par_dom hp)⟩
theorem keys_all {g : List Bl} (hv : validB g = true) (hT : Tame g) : ∀ (m n : Nat), Rch g [] n → (wayOrd g).length ≤ m + placeN g n → ∀ x, Rch g [] x → Dm g n x → x ∈ keysW g m n
 | 0, n, hn, hL => fun x hx hd => by have := place_lt hv hn; omega
 | m + 1, n, hn, hL => fun x hx hd => by
  rw [keysW, List.mem_append, List.mem_flatMap, List.mem_singleton]
  by_cases e : n = x
  ·exact .inr e.symm
  ·obtain ⟨c, h1, h2, h3⟩ := dom_child hv _ x (Nat.le_refl _) hx hd e
   have := par_place hv h1 h2
   exact .inl ⟨c, visK_all hv hT h1 h2, keys_all hv hT m c h1 (by omega) x hx h3⟩
theorem updL_out {β : Type} {i : Nat} : ∀ (l : List (Nat × β)) (f : Nat → β), i ∉ l.map (·.1) → updL f l i = f i
 | [], _, _ => rfl
 | p :: l, f, h => by
  rw [List.map_cons, List.mem_cons, not_or] at h
  rw [updL_cons, updL_out l _ h.2, if_neg h.1]
theorem updL_at {β : Type} {i : Nat} {v : β} : ∀ (l : List (Nat × β)) (f : Nat → β), (l.map (·.1)).Nodup → (i, v) ∈ l → updL f l i = v
 | [], _, _, h => by cases h
 | p :: l, f, hn, h => by
  rw [List.map_cons, List.nodup_cons] at hn
  rw [updL_cons]
  rcases List.mem_cons.1 h with h | h
  ·subst h
   rw [updL_out l _ hn.1, if_pos rfl]
  ·exact updL_at l _ hn.2 h
theorem updP_out {g : List Bl} {s : List UInt8} : ∀ (l : List (Nat × MPart)) (P : MParts), (∀ p ∈ l, s ≠ [letC g p.1]) → updP g P l s = P s
 | [], _, _ => rfl
 | p :: l, P, h => by
  show updP g (putP P [letC g p.1] p.2) l s = _
  rw [updP_out l _ fun q hq => h q (List.mem_cons_of_mem _ hq)]
  unfold putP
  rw [if_neg (h p (List.mem_cons_self ..))]
theorem updP_at {g : List Bl} (hv : validB g = true) {i : Nat} {v : MPart} : ∀ (l : List (Nat × MPart)) (P : MParts), (∀ p ∈ l, p.1 < g.length) → (l.map (·.1)).Nodup → (i, v) ∈ l → updP g P l [letC g i] = some v
 | [], _, _, _, h => by cases h
 | p :: l, P, hl, hn, h => by
  rw [List.map_cons, List.nodup_cons] at hn
  show updP g (putP P [letC g p.1] p.2) l _ = _
  rcases List.mem_cons.1 h with h | h
  ·subst h
   rw [updP_out l _ fun q hq e => ?_]
   ·unfold putP; rw [if_pos rfl]
   ·have : letC g i = letC g q.1 := by injection e
    have h2 := letC_inj hv (hl _ (List.mem_cons_self ..)) (hl q (List.mem_cons_of_mem _ hq)) this
    exact hn.1 (List.mem_map.2 ⟨q, hq, h2.symm⟩)
  ·exact updP_at hv l _ (fun q hq => hl q (List.mem_cons_of_mem _ hq)) hn.2 h
theorem madeQ_yes {g : List Bl} (ht : tameB g = true) {n : Nat} (hn : Rch g [] n) : madeQ g [letC g n] = some (madeP g n, madeA g n) := by
 obtain ⟨hv, hw⟩ := tameB_iff.1 ht
 have hT := tame_of hv hw
 have h0 : Rch g [] 0 := .start (by simp)
 have hk := keys_all hv hT (wayOrd g).length 0 h0 (by omega) n hn (.entry g n)
 have hp := wrP_keys g (wayOrd g).length 0 []
 have hnd : ((wrP g (wayOrd g).length 0 []).map (·.1)).Nodup := hp.nodup_iff.2 (keys_nodup hv hT _ _ h0)
 have hlt : ∀ p ∈ wrP g (wayOrd g).length 0 [], p.1 < g.length := fun p hp' =>
  (keys_dom hv hT _ _ h0 p.1 (hp.mem_iff.1 (List.mem_map.2 ⟨p, hp', rfl⟩))).1.lt hv
 obtain ⟨q, hq, he⟩ := List.mem_map.1 (hp.mem_iff.2 hk)
 have he : q.1 = n := he
 obtain ⟨q1, q2, q3⟩ := q
 have he : q1 = n := he
 subst he
 have h1 : madeP g q1 = q2 := by
  unfold madeP
  refine updL_at _ _ ?_ ?_
  ·rw [wrT_eq, List.map_map]; exact hnd
  ·rw [wrT_eq]; exact List.mem_map.2 ⟨_, hq, rfl⟩
 have h2 : madeA g q1 = q3 := by
  have hpa := wrA_perm g (wayOrd g).length 0 []
  unfold madeA
  refine updL_at _ _ ?_ ?_
  ·rw [(hpa.map (·.1)).nodup_iff, List.map_map]; exact hnd
  ·exact hpa.mem_iff.2 (List.mem_map.2 ⟨_, hq, rfl⟩)
 rw [h1, h2]
 exact updP_at hv _ _ hlt hnd hq
theorem madeQ_no {g : List Bl} (ht : tameB g = true) {s : List UInt8} (h : ∀ n, Rch g [] n → s ≠ [letC g n]) : madeQ g s = none := by
 obtain ⟨hv, hw⟩ := tameB_iff.1 ht
 have hT := tame_of hv hw
 have h0 : Rch g [] 0 := .start (by simp)
 have hp := wrP_keys g (wayOrd g).length 0 []
 unfold madeQ
 rw [updP_out _ _ fun p hp' => h p.1 (keys_dom hv hT _ _ h0 p.1 (hp.mem_iff.1 (List.mem_map.2 ⟨p, hp', rfl⟩))).1]
end Go.Proofs.YtlkfakdghjaoaaaGreatDoor

namespace Go.Proofs.YtlkfakdghjaoaaaGreatDoor
open Go.RowKit Go.Sort
noncomputable def needL (g : List Bl) : List Int := if madeB g = true then [countZ (madeT g) [40], countZ (madeT g) [123], countZ (madeT g) [94]] else []
set_option maxRecDepth 100000 in
theorem implCountNeeded_any (A : Option Addr) (cap : Nat) (g : List Bl) (w : World) (hg : Gr w A g) (hn : g.length + tot g ≤ 1048576) :
  Calls Tryz.prog 25 #[.slice A g.length cap] w fun e w' => (∃ v, e = .returned (.tuple #[v, .bool (madeB g)]) ∧ IntsV w' w.heap.size v (needL g)) ∧ Below w.heap.size w w' := by
 have HC := Lib.hid (implMakeText_any A cap g w hg hn)
 have H1 : Hid (∀ W, Calls Tryz.prog 66 #[.string (tb (madeT g)), .string ⟨#[40]⟩] W fun e w' => e = .returned (.int .i64 (countZ (madeT g) [40])) ∧ Below W.heap.size W w') := fun W => implCountItems_any (madeT g) [40] W
 have H2 : Hid (∀ W, Calls Tryz.prog 66 #[.string (tb (madeT g)), .string ⟨#[123]⟩] W fun e w' => e = .returned (.int .i64 (countZ (madeT g) [123])) ∧ Below W.heap.size W w') := fun W => implCountItems_any (madeT g) [123] W
 have H3 : Hid (∀ W, Calls Tryz.prog 66 #[.string (tb (madeT g)), .string ⟨#[94]⟩] W fun e w' => e = .returned (.int .i64 (countZ (madeT g) [94])) ∧ Below W.heap.size W w') := fun W => implCountItems_any (madeT g) [94] W
 clear hg
 cases hb : madeB g with
 | false =>
  rw [hb] at HC
  have HR : Hid (needL g = []) := Lib.hid (by unfold needL; rw [hb]; rfl)
  clear hb
  go_enter Tryz.func25, Tryz.ntmps25
  go_wp2_with fail
  refine HC.out.mono ?_
  rintro e w1 ⟨rfl, b1⟩
  have HB1 := Lib.hid b1
  clear b1
  go_wp2_with fail
  go_ret2
  refine ⟨⟨_, rfl, .inl ⟨rfl, by rw [HR.out]; rfl⟩⟩, HB1.out⟩
 | true =>
  have hm : madeV g = tb (madeT g) := by unfold madeV; rw [if_pos hb]
  rw [hb, hm] at HC
  have HR : Hid (needL g = [countZ (madeT g) [40], countZ (madeT g) [123], countZ (madeT g) [94]]) := Lib.hid (by unfold needL; rw [if_pos hb])
  clear hb hm
  go_enter Tryz.func25, Tryz.ntmps25
  go_wp2_with fail
  refine HC.out.mono ?_
  rintro e w1 ⟨rfl, b1⟩
  have HB1 := Lib.hid b1
  clear b1
  go_wp2_with fail
  refine (H1.out _).mono ?_
  rintro e w2 ⟨rfl, b2⟩
  have HB2 := Lib.hid (HB1.out.trans (b2.mono HB1.out.size))
  clear b2
  go_wp2_with fail
  refine (H2.out _).mono ?_
  rintro e w3 ⟨rfl, b3⟩
  have HB3 := Lib.hid (HB2.out.trans (b3.mono HB2.out.size))
  clear b3
  go_wp2_with fail
  refine (H3.out _).mono ?_
  rintro e w4 ⟨rfl, b4⟩
  have HB4 := Lib.hid (HB3.out.trans (b4.mono HB3.out.size))
  clear b4
  generalize countZ (madeT g) [40] = za at HR ⊢
  generalize countZ (madeT g) [123] = zb at HR ⊢
  generalize countZ (madeT g) [94] = zc at HR ⊢
  go_wp2_with fail
  go_ret2
  refine ⟨⟨_, rfl, .inr ⟨_, 3, 3, #[.int .i64 za, .int .i64 zb, .int .i64 zc], by rw [HR.out]; rfl, HB4.out.size, Blk.newAt _ _ rfl, by rw [HR.out]; exact Nat.le_refl _, fun k hk => ?_⟩⟩, HB4.out.alloc HB4.out.size _⟩
  rw [HR.out] at hk
  simp only [HR.out]
  rcases k with _ | _ | _ | k
  ·rfl
  ·rfl
  ·rfl
  ·exact absurd hk (by simp)
end Go.Proofs.YtlkfakdghjaoaaaGreatDoor
