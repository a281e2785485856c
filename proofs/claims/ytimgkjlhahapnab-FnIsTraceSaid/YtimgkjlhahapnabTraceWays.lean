/-
  Traces and the choices that give them: plain facts.
-/
import Derived.Test.YtimgkjlhahapnabSpecTrace
import Derived.Test.YtimgkjlhahapnabRunOn
namespace Go.Proofs.Ytimgkjlhahapnab
open Go.RowKit Go.Sort

theorem traceGo_prefix (g : List Bl) : ∀ (l1 l2 : List UInt8) (cs : List Nat), traceGo g cs (l1 ++ l2) = true → traceGo g cs l1 = true
  | [], _, cs, _ => by cases cs <;> rfl
  | c :: l1, l2, cs, h => by
    simp only [List.cons_append, traceGo] at h ⊢
    split at h
    · cases h
    · rename_i i hi
      exact traceGo_prefix g l1 l2 _ h

theorem traceB_parts {g : List Bl} {t : ByteArray} (h : traceB g t = true) : validB g = true ∧ t.size ≤ 60 ∧ traceGo g [0] t.data.toList = true := by
  unfold traceB at h
  obtain ⟨h1, h3⟩ := Bool.and_eq_true_iff.1 h
  obtain ⟨h1, h2⟩ := Bool.and_eq_true_iff.1 h1
  exact ⟨h1, of_decide_eq_true h2, h3⟩

theorem traceB_cut {g : List Bl} {t : ByteArray} {k : Nat} (hk : k ≤ t.size) (h : traceB g t = true) : traceB g (t.extract 0 k) = true := by
  obtain ⟨h1, h2, h3⟩ := traceB_parts h
  have hs := ba_cut t hk
  rw [← hs, ByteArray.data_append, Array.toList_append] at h3
  rw [traceB_yes h1 (by rw [ByteArray.size_extract]; omega)]
  exact traceGo_prefix g _ _ _ h3

theorem go_next {g : List Bl} {cs : List Nat} {t : ByteArray} {k : Nat} (hk : k < t.size) (h : traceGo g cs (t.data.toList.drop k) = true) : ∃ y, named g cs (t.extract k (k + 1)) = some y ∧ traceGo g (nxt g y) (t.data.toList.drop (k + 1)) = true := by
  rw [traceGo_cons hk] at h
  rw [ex_byte t (a := k) (b := k + 1) (by omega) (by omega) (by omega)]
  split at h
  · cases h
  · rename_i y hy; exact ⟨y, hy, h⟩

theorem runL_head (g : List Bl) (m i : Nat) (left : List UInt8) : ∃ e r, runL g (m + 1) i left = (i, e) :: r := by
  unfold runL
  split
  · exact ⟨_, _, rfl⟩
  · exact ⟨_, _, rfl⟩
  · split
    · exact ⟨_, _, rfl⟩
    · exact ⟨_, _, rfl⟩

/-- While the choices are found: the run that they give comes to the k-th name. -/
structure Comes (g : List Bl) (t c : ByteArray) (j x : Nat) (pre : List (Nat × Nat)) : Prop where
  lt : x < g.length
  name : t.extract j (j + 1) = nthName g x
  names : namesAt g (pre.map (·.1)) = t.extract 0 j
  rest : traceGo g (nxt g x) (t.data.toList.drop (j + 1)) = true
  run : ∀ m extra, runL g (j + m) 0 (c.data.toList ++ extra) = pre ++ runL g m x extra

structure Built (g : List Bl) (t c : ByteArray) (k : Nat) : Prop where
  lr : isLR c.data.toList = true
  sz : c.size ≤ k
  comes : 0 < t.size → ∃ x pre, Comes g t c (min k (t.size - 1)) x pre

theorem built_start {g : List Bl} {t : ByteArray} (h : traceB g t = true) : Built g t ⟨#[]⟩ 0 := by
  obtain ⟨h1, h2, h3⟩ := traceB_parts h
  refine ⟨rfl, Nat.le_refl _, fun hp => ?_⟩
  obtain ⟨y, hy, hr⟩ := go_next (k := 0) hp (show traceGo g [0] (t.data.toList.drop 0) = true from h3)
  have hy0 := named_is hy
  have : y = 0 := by simpa using hy0.1
  subst this
  have hm : min 0 (t.size - 1) = 0 := by omega
  rw [hm]
  refine ⟨0, [], (valid_iff.1 h1).1, hy0.2.symm, ?_, hr, fun m extra => by simp⟩
  simp [namesAt]
  rfl

theorem built_last {g : List Bl} {t c : ByteArray} {k : Nat} (h : Built g t c k) (hk : k + 1 = t.size) : Built g t c (k + 1) := by
  refine ⟨h.lr, by have := h.sz; omega, fun hp => ?_⟩
  obtain ⟨x, pre, hc⟩ := h.comes hp
  have e : min (k + 1) (t.size - 1) = min k (t.size - 1) := by omega
  rw [e]
  exact ⟨x, pre, hc⟩

theorem Comes.names_next {g : List Bl} {t c : ByteArray} {j x : Nat} {pre : List (Nat × Nat)} (h : Comes g t c j x pre) (_hj : j < t.size) (e : Nat) : namesAt g ((pre ++ [(x, e)]).map (·.1)) = t.extract 0 (j + 1) := by
  rw [List.map_append, namesAt_append, h.names]
  show t.extract 0 j ++ namesAt g [x] = _
  rw [namesAt_one, ← h.name]
  have := ByteArray.extract_append_extract (a := t) (i := 0) (j := j) (k := j + 1)
  rw [this]
  congr 1 <;> omega

theorem Comes.jump {g : List Bl} {t c : ByteArray} {j x p : Nat} {pre : List (Nat × Nat)} (hv : validB g = true) (h : Comes g t c j x pre) (hj : j + 1 < t.size) (hn : nxt g x = [p]) : Comes g t c (j + 1) p (pre ++ [(x, 2)]) := by
  obtain ⟨y, hy, hr⟩ := go_next hj h.rest
  have hy0 := named_is hy
  rw [hn] at hy0
  have : y = p := by simpa using hy0.1
  subst this
  refine ⟨nxt_lt hv h.lt (by rw [hn]; simp), hy0.2.symm, h.names_next (by omega) 2, hr, fun m extra => ?_⟩
  have := h.run (m + 1) extra
  rw [runL_jump hn] at this
  rw [show j + 1 + m = j + (m + 1) by omega, this]
  simp

theorem Comes.branch {g : List Bl} {t c : ByteArray} {j x p q : Nat} {pre : List (Nat × Nat)} (hv : validB g = true) (h : Comes g t c j x pre) (hj : j + 1 < t.size) (hn : nxt g x = [p, q]) (hp : p < g.length) (hq : q < g.length) (hne : p ≠ q) :
    (t.extract (j + 1) (j + 2) = g[p].1 → Comes g t (c ++ ⟨#[108]⟩) (j + 1) p (pre ++ [(x, 2)])) ∧ (t.extract (j + 1) (j + 2) ≠ g[p].1 → Comes g t (c ++ ⟨#[114]⟩) (j + 1) q (pre ++ [(x, 2)])) := by
  obtain ⟨y, hy, hr⟩ := go_next hj h.rest
  have hy0 := named_is hy
  rw [hn] at hy0
  have hyc : y = p ∨ y = q := by simpa using hy0.1
  constructor
  · intro e
    have hyp : y = p := by
      rcases hyc with h1 | h1
      · exact h1
      · have h2 := hy0.2
        rw [h1, nthName_at hq, e] at h2
        exact absurd (name_inj hv hq hp h2).symm hne
    subst hyp
    refine ⟨hp, hy0.2.symm, h.names_next (by omega) 2, hr, fun m extra => ?_⟩
    have := h.run (m + 1) (108 :: extra)
    rw [runL_go hn, if_pos rfl] at this
    rw [ByteArray.data_append, Array.toList_append, List.append_assoc, show j + 1 + m = j + (m + 1) by omega]
    refine Eq.trans this ?_
    simp
  · intro e
    have hyq : y = q := by
      rcases hyc with h1 | h1
      · have h2 := hy0.2
        rw [h1, nthName_at hp] at h2
        exact absurd h2.symm e
      · exact h1
    subst hyq
    refine ⟨hq, hy0.2.symm, h.names_next (by omega) 2, hr, fun m extra => ?_⟩
    have := h.run (m + 1) (114 :: extra)
    rw [runL_go hn, if_neg (by decide)] at this
    rw [ByteArray.data_append, Array.toList_append, List.append_assoc, show j + 1 + m = j + (m + 1) by omega]
    refine Eq.trans this ?_
    simp

theorem isLR_more {c : ByteArray} {d : UInt8} (h : isLR c.data.toList = true) (hd : d = 108 ∨ d = 114) : isLR (c ++ ⟨#[d]⟩).data.toList = true := by
  unfold isLR at h ⊢
  rw [ByteArray.data_append, Array.toList_append, List.all_append, h]
  rcases hd with rfl | rfl <;> rfl

theorem size_more (c : ByteArray) (d : UInt8) : (c ++ ⟨#[d]⟩).size = c.size + 1 := by rw [ByteArray.size_append]; rfl

/-- What the block at the k-th name goes on to, and what is built next. -/
theorem built_round {g : List Bl} {t c : ByteArray} {k : Nat} (hv : validB g = true) (h : Built g t c k) (hk : k < t.size) :
    ∃ x, ∃ hx : x < g.length, t.extract k (k + 1) = g[x].1 ∧
      (k + 1 = t.size → Built g t c (k + 1)) ∧
      (k + 1 < t.size → g[x].2.size ≠ 2 → Built g t c (k + 1)) ∧
      (k + 1 < t.size → g[x].2.size = 2 → t.extract (k + 1) (k + 2) = g[x].2.extract 0 1 → Built g t (c ++ ⟨#[108]⟩) (k + 1)) ∧
      (k + 1 < t.size → g[x].2.size = 2 → t.extract (k + 1) (k + 2) ≠ g[x].2.extract 0 1 → Built g t (c ++ ⟨#[114]⟩) (k + 1)) := by
  obtain ⟨x, pre, hc⟩ := h.comes (by omega)
  have e0 : min k (t.size - 1) = k := by omega
  rw [e0] at hc
  have hx := hc.lt
  have hsz := h.sz
  refine ⟨x, hx, by rw [hc.name, nthName_at hx], built_last h, fun hk1 h2 => ?_, fun hk1 h2 he => ?_, fun hk1 h2 he => ?_⟩
  all_goals have e1 : min (k + 1) (t.size - 1) = k + 1 := by omega
  · rcases goes hv hx with ⟨hn, hs⟩ | ⟨p, hp, hn, hs, _⟩ | ⟨p, q, hp, hq, hn, hs, _⟩
    · obtain ⟨y, hy, _⟩ := go_next hk1 hc.rest
      rw [hn] at hy
      have := (named_is hy).1
      simp at this
    · refine ⟨h.lr, by omega, fun _ => ?_⟩
      rw [e1]
      exact ⟨p, _, hc.jump hv hk1 hn⟩
    · exact absurd hs h2
  · rcases goes hv hx with ⟨hn, hs⟩ | ⟨p, hp, hn, hs, _⟩ | ⟨p, q, hp, hq, hn, hs, _, hpn, _, _, hne⟩
    · omega
    · omega
    · refine ⟨isLR_more h.lr (.inl rfl), by rw [size_more]; omega, fun _ => ?_⟩
      rw [e1]
      exact ⟨p, _, (hc.branch hv hk1 hn hp hq hne).1 (by rw [he, hpn])⟩
  · rcases goes hv hx with ⟨hn, hs⟩ | ⟨p, hp, hn, hs, _⟩ | ⟨p, q, hp, hq, hn, hs, _, hpn, _, _, hne⟩
    · omega
    · omega
    · refine ⟨isLR_more h.lr (.inr rfl), by rw [size_more]; omega, fun _ => ?_⟩
      rw [e1]
      exact ⟨q, _, (hc.branch hv hk1 hn hp hq hne).2 (by rw [hpn]; exact he)⟩

theorem built_end {g : List Bl} {t c : ByteArray} (ht : traceB g t = true) (h : Built g t c t.size) (hc : c.size ≤ 20) : runB g c = true ∧ ∃ r, runT g c = t ++ r := by
  obtain ⟨hv, h60, _⟩ := traceB_parts ht
  have hb : runB g c = true := runB_yes hv (by unfold choicesB; rw [decide_eq_true hc, h.lr]; rfl)
  refine ⟨hb, ?_⟩
  by_cases h0 : t.size = 0
  · have : t = ⟨#[]⟩ := ba_ext (List.eq_nil_of_length_eq_zero (list_of_size.trans h0))
    exact ⟨runT g c, by rw [this]; exact (ba_empty_append _).symm⟩
  · obtain ⟨x, pre, hcm⟩ := h.comes (by omega)
    have e0 : min t.size (t.size - 1) = t.size - 1 := by omega
    rw [e0] at hcm
    obtain ⟨j, hj⟩ : ∃ j, t.size = j + 1 := ⟨t.size - 1, by omega⟩
    have hj' : t.size - 1 = j := by omega
    rw [hj'] at hcm
    obtain ⟨m, hm⟩ : ∃ m, 60 = j + (m + 1) := ⟨60 - (j + 1), by omega⟩
    have hr := hcm.run (m + 1) []
    obtain ⟨e, r, hrr⟩ := runL_head g m x []
    rw [hrr, List.append_nil, ← hm] at hr
    refine ⟨namesAt g (r.map (·.1)), ?_⟩
    rw [runT_yes hb]
    unfold traceOf runOf
    rw [hr]
    have hn := hcm.names_next (by omega) e
    rw [show pre ++ (x, e) :: r = (pre ++ [(x, e)]) ++ r by simp, List.map_append, namesAt_append, hn, ← hj]
    congr 1
    simp
end Go.Proofs.Ytimgkjlhahapnab
