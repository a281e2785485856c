import Derived.Test.YtlkfakdghjaoaaaGreatDoorMakeFace
namespace Go.Proofs.YtlkfakdghjaoaaaGreatDoor
open Go.RowKit Go.Sort
theorem qE {α β : Type} {f : α → List β} : ∀ l : List α, (∀ a ∈ l, (f a).Nodup) → l.Pairwise (fun a b => ∀ x ∈ f a, x ∉ f b) → (l.flatMap f).Nodup
 | [], _, _ => by simp
 | a :: l, h, hp => by
  rw [List.pairwise_cons] at hp
  rw [List.flatMap_cons, List.nodup_append]
  refine ⟨h a (List.mem_cons_self ..), qE l (fun b hb => h b (List.mem_cons_of_mem _ hb)) hp.2, fun x hx y hy e => ?_⟩
  subst e
  obtain ⟨b, hb, hy⟩ := List.mem_flatMap.1 hy
  exact hp.1 b hb x hx hy
def gI (g : List Bl) : Nat → Nat → List Nat
 | 0, _ => []
 | m + 1, n => (iG g n).flatMap (gI g m) ++ [n]
theorem j8 {g : List Bl} (hv : aa g = true) (hT : ew g) : ∀ (m n : Nat), Rch g [] n → ∀ x ∈ gI g m n, Rch g [] x ∧ Dm g n x
 | 0, _, _ => fun _ h => by cases h
 | m + 1, n, hn => fun x hx => by
  rw [gI, List.mem_append, List.mem_flatMap, List.mem_singleton] at hx
  rcases hx with ⟨c, hc, hx⟩ | rfl
  ·obtain ⟨hcr, hcp⟩ := (fV hv).1 (gU hv hT hn hc)
   obtain ⟨h1, h2⟩ := j8 hv hT m c hcr x hx
   exact ⟨h1, (gT hcp).trans h2⟩
  ·exact ⟨hn, .refl g x⟩
theorem qF {g : List Bl} (hv : aa g = true) (hT : ew g) : ∀ (m n : Nat), Rch g [] n → (gI g m n).Nodup
 | 0, _, _ => List.nodup_nil
 | m + 1, n, hn => by
  have hk : ∀ c ∈ iG g n, Rch g [] c ∧ dK g n c := fun c hc => (fV hv).1 (gU hv hT hn hc)
  rw [gI, List.nodup_append]
  refine ⟨?_, by simp, fun a ha b hb e => ?_⟩
  ·refine qE _ (fun c hc => qF hv hT m c (hk c hc).1) ?_
   refine (List.nodup_iff_pairwise_ne.1 (mB hv (hn.lt hv))).imp_of_mem fun {a b} ha hb hne => ?_
   intro x hxa hxb
   obtain ⟨hxr, h1⟩ := j8 hv hT m a (hk a ha).1 x hxa
   obtain ⟨_, h2⟩ := j8 hv hT m b (hk b hb).1 x hxb
   have key : ∀ p q, Rch g [] p → dK g n p → Rch g [] q → dK g n q → p ≠ q → Dm g p q → False := fun p q hpr hp hqr hq hpq hd => by
    have h3 : Dm g p n := ((hq.2.2 p).1 hd).resolve_left hpq
    exact hp.1 (h3.antisymm (gT hp) hpr).symm
   rcases h1.total h2 hxr with h3 | h3
   ·exact key a b (hk a ha).1 (hk a ha).2 (hk b hb).1 (hk b hb).2 hne h3
   ·exact key b a (hk b hb).1 (hk b hb).2 (hk a ha).1 (hk a ha).2 (fun e => hne e.symm) h3
  ·rw [List.mem_singleton] at hb
   subst hb
   subst e
   obtain ⟨c, hc, hx⟩ := List.mem_flatMap.1 ha
   have h3 := (j8 hv hT m c (hk c hc).1 a hx).2
   exact (hk c hc).2.1 (h3.antisymm (gT (hk c hc).2) (hk c hc).1).symm
theorem tc {g : List Bl} (hv : aa g = true) {n : Nat} : ∀ (k x : Nat), ah g x ≤ k → Rch g [] x → Dm g n x → n ≠ x → ∃ c, Rch g [] c ∧ dK g n c ∧ Dm g c x
 | 0, x, hk, hx, hd, hne => by
  have := nH hv hx hd hne
  omega
 | k + 1, x, hk, hx, hd, hne => by
  have h0 : x ≠ 0 := fun e => hne (by subst e; exact hd.of_entry)
  obtain ⟨p, hp⟩ := iA hv hx h0
  have hnp : Dm g n p := ((hp.2.2 n).1 hd).resolve_left hne
  by_cases e : n = p
  ·subst e; exact ⟨x, hx, hp, .refl g x⟩
  ·have hpl := eY hv hx hp
   obtain ⟨c, h1, h2, h3⟩ := tc hv k p (by omega) hp.2.1 hnp e
   exact ⟨c, h1, h2, h3.trans (gT hp)⟩
theorem vn {g : List Bl} (hv : aa g = true) (hT : ew g) : ∀ (m n : Nat), Rch g [] n → (ac g).length ≤ m + ah g n → ∀ x, Rch g [] x → Dm g n x → x ∈ gI g m n
 | 0, n, hn, hL => fun x hx hd => by have := j7 hv hn; omega
 | m + 1, n, hn, hL => fun x hx hd => by
  rw [gI, List.mem_append, List.mem_flatMap, List.mem_singleton]
  by_cases e : n = x
  ·exact .inr e.symm
  ·obtain ⟨c, h1, h2, h3⟩ := tc hv _ x (Nat.le_refl _) hx hd e
   have := eY hv h1 h2
   exact .inl ⟨c, Dt hv hT h1 h2, vn hv hT m c h1 (by omega) x hx h3⟩
end Go.Proofs.YtlkfakdghjaoaaaGreatDoor
