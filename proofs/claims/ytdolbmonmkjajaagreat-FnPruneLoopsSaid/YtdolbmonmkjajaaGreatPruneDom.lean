/-
  What is left when blocks are left out has the same way order, the same dominators and the same tree: plain facts.
-/
import Derived.Test.YtdolbmonmkjajaaGreatPruneFacts
import Derived.Test.YtdolbmonmkjajaaGreatSpecTree
namespace Go.Proofs.YtdolbmonmkjajaaGreat

/-- More fuel finds nothing more. -/
theorem visit_more {g : List Bl} (hv : validB g = true) : ∀ (m i : Nat) (s d : List Nat), i ∉ s → Rch g [] i → Seen g s → g.length ≤ m + s.length → (∀ x ∈ d, x < g.length) → d.length ≤ s.length →
    visit (nxt g) (m + 1) i (s, d) = visit (nxt g) m i (s, d)
  | 0, i, s, d, hi, hr, hs, hm, _, _ => by
    have := (hs.snoc (hr.lt hv) hi).len
    simp at this; omega
  | m + 1, i, s, d, hi, hr, hs, hm, hd, hl => by
    have ih := visit_more hv m
    have inner : ∀ (ts s1 d1 : List Nat), (∀ t ∈ ts, t ∈ nxt g i) → Seen g s1 → g.length ≤ m + s1.length → (∀ x ∈ d1, x < g.length) → d1.length ≤ s1.length →
        visits (nxt g) (m + 1) (s1, d1) ts = visits (nxt g) m (s1, d1) ts := by
      intro ts
      induction ts with
      | nil => intros; rfl
      | cons t ts iht =>
        intro s1 d1 hts h1 hm1 hd1 hl1
        rw [visits_cons, visits_cons]
        by_cases ht : t ∈ s1
        · rw [if_pos ht, if_pos ht]; exact iht s1 d1 (fun x hx => hts x (List.mem_cons_of_mem _ hx)) h1 hm1 hd1 hl1
        · rw [if_neg ht, if_neg ht]
          have htr : Rch g [] t := .step hr (hts t (by simp)) (by simp)
          rw [ih t s1 d1 ht htr h1 hm1 hd1 hl1]
          have G := visit_gone hv (m := m) ht htr h1 hm1 hd1 hl1
          exact iht _ _ (fun x hx => hts x (List.mem_cons_of_mem _ hx)) G.ok (by have := G.pre.length_le; omega) G.lt G.len
    rw [visit_succ, visit_succ, inner _ (s ++ [i]) d (fun t ht => List.mem_reverse.1 ht) (hs.snoc (hr.lt hv) hi) (by simp; omega) hd (by simp; omega)]

theorem visit_fuel {g : List Bl} (hv : validB g = true) : ∀ k, visit (nxt g) (g.length + k) 0 ([], []) = visit (nxt g) g.length 0 ([], [])
  | 0 => rfl
  | k + 1 => by
    rw [← visit_fuel hv k]
    exact visit_more hv (g.length + k) 0 [] [] (by simp) (.start (by simp)) ⟨.nil, by simp⟩ (by simp) (by simp) (by simp)

section
variable {g : List Bl}

theorem visit_map (hv : validB g = true) : ∀ (m i : Nat) (s d : List Nat), i < (reachS g).length → (∀ x ∈ s, x < (reachS g).length) →
    visit (nxt g) m (rho g i) (s.map (rho g), d.map (rho g)) = ((visit (nxt (pruneG g)) m i (s, d)).1.map (rho g), (visit (nxt (pruneG g)) m i (s, d)).2.map (rho g)) ∧ ∀ x ∈ (visit (nxt (pruneG g)) m i (s, d)).1, x < (reachS g).length
  | 0, _, _, _, _, hs => ⟨rfl, hs⟩
  | m + 1, i, s, d, hi, hs => by
    have ih := visit_map hv m
    have inner : ∀ (ts s1 d1 : List Nat), (∀ t ∈ ts, t < (reachS g).length) → (∀ x ∈ s1, x < (reachS g).length) →
        visits (nxt g) m (s1.map (rho g), d1.map (rho g)) (ts.map (rho g)) = ((visits (nxt (pruneG g)) m (s1, d1) ts).1.map (rho g), (visits (nxt (pruneG g)) m (s1, d1) ts).2.map (rho g)) ∧ ∀ x ∈ (visits (nxt (pruneG g)) m (s1, d1) ts).1, x < (reachS g).length := by
      intro ts
      induction ts with
      | nil => intro s1 d1 _ h1; exact ⟨rfl, h1⟩
      | cons t ts iht =>
        intro s1 d1 hts h1
        have htl := hts t (by simp)
        have hm : rho g t ∈ s1.map (rho g) ↔ t ∈ s1 := by
          rw [List.mem_map]
          exact ⟨fun ⟨x, hx, e⟩ => rho_inj (h1 x hx) htl e ▸ hx, fun h => ⟨t, h, rfl⟩⟩
        rw [List.map_cons, visits_cons, visits_cons]
        by_cases ht : t ∈ s1
        · rw [if_pos ht, if_pos (hm.2 ht)]
          exact iht s1 d1 (fun x hx => hts x (List.mem_cons_of_mem _ hx)) h1
        · rw [if_neg ht, if_neg fun h => ht (hm.1 h)]
          obtain ⟨e, hl⟩ := ih t s1 d1 htl h1
          rw [e]
          exact iht _ _ (fun x hx => hts x (List.mem_cons_of_mem _ hx)) hl
    have hn : (nxt g (rho g i)).reverse = ((nxt (pruneG g) i).reverse).map (rho g) := by rw [← prune_nxts hv hi, List.map_reverse]
    obtain ⟨e, hl⟩ := inner (nxt (pruneG g) i).reverse (s ++ [i]) d (fun t ht => prune_lt hv hi (List.mem_reverse.1 ht)) (fun x hx => by
      rcases List.mem_append.1 hx with hx | hx
      · exact hs x hx
      · rw [List.mem_singleton.1 hx]; exact hi)
    rw [List.map_append] at e
    rw [visit_succ, visit_succ, hn]
    have e' : visits (nxt g) m (s.map (rho g) ++ [rho g i], d.map (rho g)) (((nxt (pruneG g) i).reverse).map (rho g)) = _ := e
    rw [e']
    exact ⟨rfl, hl⟩

/-- The way order of what is left. -/
theorem prune_order (hv : validB g = true) : wayOrd g = (wayOrd (pruneG g)).map (rho g) := by
  have hpv := prune_valid hv
  have hle : (pruneG g).length ≤ g.length := by
    rw [pruneG_length]; unfold reachS
    have := List.length_filter_le (fun i => decide (i ∈ reach g)) (List.range g.length)
    rw [List.length_range] at this
    exact this
  obtain ⟨h0, hpos⟩ := rho_zero hv
  have h1 := (visit_map hv g.length 0 [] [] hpos (by simp)).1
  rw [h0] at h1
  have h2 := visit_fuel hpv (g.length - (pruneG g).length)
  rw [show (pruneG g).length + (g.length - (pruneG g).length) = g.length by omega] at h2
  unfold wayOrd
  rw [← h2]
  exact congrArg (·.2) h1

theorem rch_up (hv : validB g = true) {A : List Nat} (hA : ∀ a ∈ A, a < (reachS g).length) {j : Nat} (h : Rch (pruneG g) A j) : j < (reachS g).length ∧ Rch g (A.map (rho g)) (rho g j) := by
  have out : ∀ j, j < (reachS g).length → j ∉ A → rho g j ∉ A.map (rho g) := fun j hj hn hm => by
    obtain ⟨a, ha, e⟩ := List.mem_map.1 hm
    exact hn (rho_inj (hA a ha) hj e ▸ ha)
  induction h with
  | start ha =>
    obtain ⟨h0, hpos⟩ := rho_zero hv
    refine ⟨hpos, ?_⟩
    have := out 0 hpos ha
    rw [h0] at this ⊢
    exact .start this
  | @step i t _ hn ha ih =>
    have ht := prune_lt hv ih.1 hn
    refine ⟨ht, .step ih.2 ?_ (out t ht ha)⟩
    rw [← prune_nxts hv ih.1]
    exact List.mem_map.2 ⟨t, hn, rfl⟩

theorem rch_down (hv : validB g = true) {A : List Nat} {i : Nat} (h : Rch g (A.map (rho g)) i) : ∃ j, j < (reachS g).length ∧ rho g j = i ∧ Rch (pruneG g) A j := by
  induction h with
  | start ha =>
    obtain ⟨h0, hpos⟩ := rho_zero hv
    exact ⟨0, hpos, h0, .start fun h => ha (List.mem_map.2 ⟨0, h, h0⟩)⟩
  | step _ hn ha ih =>
    obtain ⟨j, hj, rfl, hr⟩ := ih
    rw [← prune_nxts hv hj] at hn
    obtain ⟨u, hu, rfl⟩ := List.mem_map.1 hn
    exact ⟨u, prune_lt hv hj hu, rfl, .step hr hu fun h => ha (List.mem_map.2 ⟨u, h, rfl⟩)⟩

theorem prune_live (hv : validB g = true) {j : Nat} (hj : j < (reachS g).length) : Rch (pruneG g) [] j := (mem_reach (prune_valid hv)).1 (prune_reach hv hj)
theorem rho_live (hv : validB g = true) {j : Nat} (hj : j < (reachS g).length) : Rch g [] (rho g j) := (mem_reachS' hv).1 (rho_mem hj)

theorem prune_dm (hv : validB g = true) {a b : Nat} (ha : a < (reachS g).length) (hb : b < (reachS g).length) : Dm (pruneG g) a b ↔ Dm g (rho g a) (rho g b) := by
  unfold Dm
  constructor
  · rintro (rfl | h)
    · exact .inl rfl
    · refine .inr fun hr => h ?_
      obtain ⟨j, hj, e, k⟩ := rch_down (A := [a]) hv hr
      exact rho_inj hj hb e ▸ k
  · rintro (h | h)
    · exact .inl (rho_inj ha hb h)
    · exact .inr fun hr => h (rch_up hv (A := [a]) (by simpa using ha) hr).2

theorem prune_dmB (hv : validB g = true) {a b : Nat} (ha : a < (reachS g).length) (hb : b < (reachS g).length) : dmB g (rho g a) (rho g b) = dmB (pruneG g) a b := by
  rw [Bool.eq_iff_iff, dmB_iff hv, dmB_iff (prune_valid hv)]
  exact (prune_dm hv ha hb).symm

theorem order_left (hv : validB g = true) : ∀ a ∈ wayOrd (pruneG g), a < (reachS g).length := fun a ha => by
  have := wayOrd_lt (prune_valid hv) a ha
  rwa [pruneG_length] at this

theorem prune_domL (hv : validB g = true) {n : Nat} (hn : n < (reachS g).length) : domL g (rho g n) = (domL (pruneG g) n).map (rho g) := by
  unfold domL
  rw [prune_order hv, List.filter_map]
  congr 1
  refine List.filter_congr fun a ha => ?_
  exact prune_dmB hv (order_left hv a ha) hn

theorem prune_domL_lt (hv : validB g = true) (n : Nat) : ∀ a ∈ domL (pruneG g) n, a < (reachS g).length := fun a ha => order_left hv a (List.mem_filter.1 ha).1

theorem prune_parL (hv : validB g = true) {n : Nat} (hn : n < (reachS g).length) : parL g (rho g n) = (parL (pruneG g) n).map (rho g) := by
  unfold parL
  rw [prune_domL hv hn, ← List.map_dropLast, List.getLast?_map]

theorem prune_par_lt (hv : validB g = true) {n p : Nat} (h : parL (pruneG g) n = some p) : p < (reachS g).length :=
  prune_domL_lt hv n p (List.dropLast_subset _ (List.mem_of_getLast? h))

theorem reachS_map (hv : validB g = true) : reachS g = (reachS (pruneG g)).map (rho g) := by
  rw [prune_reachS hv, pruneG_length]
  refine List.ext_getElem (by simp) fun i h1 h2 => ?_
  rw [List.getElem_map, List.getElem_range, rho_at h1]

theorem prune_kids (hv : validB g = true) {n : Nat} (hn : n < (reachS g).length) : kidsL g (rho g n) = (kidsL (pruneG g) n).map (rho g) := by
  unfold kidsL
  rw [reachS_map hv, List.filter_map]
  congr 1
  refine List.filter_congr fun c hc => ?_
  have hcl : c < (reachS g).length := by
    rw [prune_reachS hv, pruneG_length] at hc; exact List.mem_range.1 hc
  show decide (parL g (rho g c) = some (rho g n)) = decide (parL (pruneG g) c = some n)
  rw [prune_parL hv hcl]
  cases hp : parL (pruneG g) c with
  | none => simp
  | some p =>
    have := prune_par_lt hv hp
    simp only [Option.map_some, Option.some.injEq, decide_eq_decide]
    exact ⟨fun e => rho_inj this hn e, fun e => e ▸ rfl⟩

theorem kids_left (hv : validB g = true) (n : Nat) : ∀ c ∈ kidsL (pruneG g) n, c < (reachS g).length := fun c hc => by
  have := kids_lt (prune_valid hv) c hc
  rwa [pruneG_length] at this

theorem innerT_congr {f k : Nat → ByteArray} : ∀ {l : List Nat}, (∀ c ∈ l, f c = k c) → innerT f l = innerT k l
  | [], _ => rfl
  | [c], h => h c (by simp)
  | c :: d :: l, h => by
    show f c ++ (⟨#[44]⟩ ++ innerT f (d :: l)) = k c ++ (⟨#[44]⟩ ++ innerT k (d :: l))
    rw [h c (by simp), innerT_congr fun x hx => h x (List.mem_cons_of_mem _ hx)]

theorem innerT_map (f : Nat → ByteArray) (r : Nat → Nat) : ∀ l : List Nat, innerT f (l.map r) = innerT (fun x => f (r x)) l
  | [] => rfl
  | [c] => rfl
  | c :: d :: l => by
    show f (r c) ++ (⟨#[44]⟩ ++ innerT f ((d :: l).map r)) = f (r c) ++ (⟨#[44]⟩ ++ innerT (fun x => f (r x)) (d :: l))
    rw [innerT_map f r (d :: l)]

theorem prune_treeT (hv : validB g = true) : ∀ (m n : Nat), n < (reachS g).length → treeT g m (rho g n) = treeT (pruneG g) m n
  | 0, _, _ => rfl
  | m + 1, n, hn => by
    have hk := prune_kids hv hn
    by_cases h : kidsL (pruneG g) n = []
    · rw [treeT_leaf h, treeT_leaf (by rw [hk, h]; rfl), prune_name' hn]
    · rw [treeT_kids h, treeT_kids (by rw [hk]; simpa using h), prune_name' hn, hk, innerT_map, innerT_congr fun c hc => prune_treeT hv m c (kids_left hv n c hc)]
end

theorem treeT_more {g : List Bl} (hv : validB g = true) : ∀ (m n : Nat), Rch g [] n → g.length < m + (domL g n).length → treeT g (m + 1) n = treeT g m n
  | 0, n, _, h => by have := domL_len hv n; omega
  | m + 1, n, hr, h => by
    by_cases hk : kidsL g n = []
    · rw [treeT_leaf hk, treeT_leaf hk]
    · rw [treeT_kids hk, treeT_kids hk, innerT_congr fun c hc => treeT_more hv m c ((mem_kids hv).1 hc).1 (by rw [kids_line hv hc]; omega)]

theorem treeT_fuel {g : List Bl} (hv : validB g = true) : ∀ k, treeT g (g.length + k) 0 = treeT g g.length 0
  | 0 => rfl
  | k + 1 => by
    rw [← treeT_fuel hv k]
    exact treeT_more hv (g.length + k) 0 (.start (by simp)) (by rw [domL_entry hv]; simp; omega)

section
variable {g : List Bl}

theorem prune_tree (hv : validB g = true) : treeV (pruneG g) = treeV g := by
  have hpv := prune_valid hv
  rw [treeV_yes hpv, treeV_yes hv]
  have hle : (pruneG g).length ≤ g.length := by
    rw [pruneG_length]; unfold reachS
    have := List.length_filter_le (fun i => decide (i ∈ reach g)) (List.range g.length)
    rw [List.length_range] at this
    exact this
  obtain ⟨h0, hpos⟩ := rho_zero hv
  have h2 := treeT_fuel hpv (g.length - (pruneG g).length)
  rw [show (pruneG g).length + (g.length - (pruneG g).length) = g.length by omega] at h2
  rw [← h2, ← prune_treeT hv g.length 0 hpos, h0]

theorem names_map (l : List Nat) (hl : ∀ i ∈ l, i < (reachS g).length) : namesAt g (l.map (rho g)) = namesAt (pruneG g) l := by
  induction l with
  | nil => rfl
  | cons i l ih =>
    show nthName g (rho g i) ++ namesAt g (l.map (rho g)) = nthName (pruneG g) i ++ namesAt (pruneG g) l
    rw [ih fun j hj => hl j (List.mem_cons_of_mem _ hj), prune_name' (hl i (by simp))]

theorem live_left (hv : validB g = true) {n : Nat} (hn : n < (reachS g).length) : liveOf (pruneG g) (nthName (pruneG g) n) = some n := by
  have h := prune_at hn
  obtain ⟨h, _⟩ := h
  rw [nthName_at h]
  exact liveOf_some (prune_valid hv) (posOf_name (prune_valid hv) h) (prune_reach hv hn)

theorem live_rho (hv : validB g = true) {n : Nat} (hn : n < (reachS g).length) : liveOf g (nthName g (rho g n)) = some (rho g n) := by
  rw [nthName_at (rho_lt hn)]
  exact liveOf_some hv (posOf_name hv (rho_lt hn)) ((mem_reach hv).2 (rho_live hv hn))

theorem prune_domV (hv : validB g = true) {n : Nat} (hn : n < (reachS g).length) : domV (pruneG g) (nthName (pruneG g) n) = domV g (nthName g (rho g n)) := by
  rw [domV_some (live_left hv hn), domV_some (live_rho hv hn), prune_domL hv hn, names_map _ (prune_domL_lt hv n)]

/-- The line of a block begins with the entry. -/
theorem domL_head (hv : validB g = true) {n : Nat} : ∃ l, domL g n = 0 :: l := by
  obtain ⟨D, e, _⟩ := wayOrd_went hv
  have h0 : dmB g 0 n = true := (dmB_iff hv).2 (.entry g n)
  exact ⟨_, by unfold domL; rw [e, List.filter_cons_of_pos (by exact h0)]⟩
end
end Go.Proofs.YtdolbmonmkjajaaGreat
