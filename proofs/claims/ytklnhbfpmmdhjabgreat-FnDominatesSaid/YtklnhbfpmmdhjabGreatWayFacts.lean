/-
  What the laws say of ways, of drawn graphs: plain facts.
-/
import Derived.Test.YtklnhbfpmmdhjabGreatImplWays
import Derived.Test.YtklnhbfpmmdhjabGreatPathRun
import Derived.Test.YtklnhbfpmmdhjabGreatWays
import Derived.Test.YtklnhbfpmmdhjabGreatReachedOf
import Derived.Test.YtklnhbfpmmdhjabGreatLaw
namespace Go.Proofs.YtklnhbfpmmdhjabGreat
open Go.RowKit Go.Sort

theorem tot_ge : ∀ l : List Bl, (∀ b ∈ l, b.1.size = 1) → l.length ≤ tot l
  | [], _ => Nat.zero_le _
  | b :: l, h => by
    have := tot_ge l fun x hx => h x (by simp [hx])
    have h1 := h b (by simp)
    show l.length + 1 ≤ b.1.size + b.2.size + tot l
    omega

theorem valid_two {g : List Bl} (hv : validB g = true) : 2 * g.length ≤ g.length + tot g := by
  have := tot_ge g fun b hb => by obtain ⟨c, hc, _⟩ := valid_one hv hb; rw [hc]; rfl
  omega

theorem hasB_at {g : List Bl} (hv : validB g = true) {l : List Nat} (hl : ∀ i ∈ l, i < g.length) {s : ByteArray} : hasB (namesAt g l) s = true ↔ ∃ y ∈ l, nthName g y = s := by
  rw [hasB_iff]
  constructor
  · rintro ⟨k, hk, e⟩
    rw [namesAt_size hv l hl] at hk
    obtain ⟨h, e2⟩ := namesAt_cut hv hl hk
    exact ⟨l[k], List.getElem_mem hk, by rw [nthName_at h, ← e2, e]⟩
  · rintro ⟨y, hy, rfl⟩
    obtain ⟨k, hk, e⟩ := List.getElem_of_mem hy
    obtain ⟨h, e2⟩ := namesAt_cut hv hl hk
    refine ⟨k, by rw [namesAt_size hv l hl]; exact hk, ?_⟩
    rw [e2, ← nthName_at h, e]

theorem run_names {g : List Bl} (hv : validB g = true) (s : ByteArray) : ∀ i ∈ (runOf g s).map (·.1), i < g.length := by
  intro i hi
  obtain ⟨x, hx, rfl⟩ := List.mem_map.1 hi
  exact runL_lt hv 60 0 _ (valid_iff.1 hv).1 x hx

theorem extract_prefix (s : ByteArray) (k : Nat) : (s.extract 0 k).data.toList = s.data.toList.take k := by
  rw [← Lib.toList_data, Lib.extract_toList]; simp

theorem isLR_part {l t : List UInt8} (h : isLR l = true) (ht : t <+: l) : isLR t = true := by
  unfold isLR at h ⊢
  rw [List.all_eq_true] at h ⊢
  exact fun x hx => h x (ht.subset hx)

theorem choices_short {g : List Bl} (hv : validB g = true) (hg : g.length + tot g ≤ 40) {s : ByteArray} (h1 : lrS s = true) (h2 : s.size < g.length) : choicesB s = true := by
  have := valid_two hv
  unfold choicesB
  rw [show isLR s.data.toList = true from h1, decide_eq_true (by omega)]; rfl

theorem choices_part {s : ByteArray} (h : choicesB s = true) (k : Nat) : choicesB (s.extract 0 k) = true := by
  unfold choicesB at h ⊢
  obtain ⟨h1, h2⟩ := Bool.and_eq_true_iff.1 h
  have h1 := of_decide_eq_true h1
  rw [extract_prefix, isLR_part h2 (List.take_prefix _ _), decide_eq_true (by rw [ByteArray.size_extract]; omega)]; rfl

/-- A way that was found. -/
structure Found (g : List Bl) (nm s : ByteArray) (i : Nat) : Prop where
  lt : i < g.length
  name : nthName g i = nm
  best : Best g [] i (cd s)
  path : ∃ m, m ≤ g.length ∧ Path g [] i s m
  lr : lrS s = true
  short : s.size < g.length

theorem found_of {g : List Bl} {nm s : ByteArray} (hv : validB g = true) (h : WayAns g (Named g nm) s true) (hs : SoonAt g [] (Named g nm) s true) : ∃ i, Found g nm s i := by
  obtain ⟨i, m, hi, hb, hm, hp⟩ := hs rfl
  rcases h with ⟨_, h⟩ | ⟨h, _⟩
  · rcases h with ⟨_, h1, h2, _⟩ | ⟨h, _⟩
    · exact ⟨i, hi.1, hi.2, hb, ⟨m, hm, hp⟩, h1, h2⟩
    · cases h
  · rw [hv] at h; cases h

theorem Found.pos {g : List Bl} {nm s : ByteArray} {i : Nat} (hv : validB g = true) (h : Found g nm s i) : posOf g nm = some i := by
  rw [← h.name, nthName_at h.lt]; exact posOf_name hv h.lt

/-- A run with its choices comes there. -/
theorem Found.has {g : List Bl} {nm s : ByteArray} {i : Nat} (hv : validB g = true) (h : Found g nm s i) (hb : runB g s = true) : hasB (runT g s) nm = true := by
  obtain ⟨m, hm, hp⟩ := h.path
  have h26 := (valid_iff.1 hv).2.1
  rw [runT_yes hb]
  exact (hasB_at hv (run_names hv s)).2 ⟨i, path_has hp (by omega), h.name⟩

theorem Found.long {g : List Bl} {nm s : ByteArray} {i : Nat} (hv : validB g = true) (h : Found g nm s i) (hb : runB g s = true) (he : runE g s = 2) : (nextVal g nm).size = 1 := by
  obtain ⟨m, hm, hp⟩ := h.path
  have h26 := (valid_iff.1 hv).2.1
  rw [runE_yes hb] at he
  rw [nextVal_some hv (h.pos hv) h.lt]
  rcases goes hv h.lt with ⟨e, hs⟩ | ⟨p, _, e, hs, _⟩ | ⟨p, q, _, _, e, hs, _⟩
  · rw [path_stop hp (by omega) e] at he; cases he
  · exact hs
  · rw [path_ask hp (by omega) e] at he; cases he

/-- Fewer of its choices come to no block with this name. -/
theorem Found.less {g : List Bl} {nm s : ByteArray} {i : Nat} (hv : validB g = true) (h : Found g nm s i) {k : Nat} (hk : k < s.size) (hb : runB g (s.extract 0 k) = true) : hasB (runT g (s.extract 0 k)) nm = false := by
  cases hh : hasB (runT g (s.extract 0 k)) nm with
  | false => rfl
  | true =>
    rw [runT_yes hb] at hh
    obtain ⟨y, hy, hn⟩ := (hasB_at hv (run_names hv _)).1 hh
    obtain ⟨x, hx, rfl⟩ := List.mem_map.1 hy
    have hyl := run_names hv _ _ hy
    obtain ⟨t, ht, hl⟩ := runOf_lab hv hx
    have e : x.1 = i := name_inj hv hyl h.lt (by rw [← nthName_at hyl, ← nthName_at h.lt, hn, h.name])
    rw [e] at hl
    rw [extract_prefix] at ht
    have h1 := prefix_code ht (by rw [list_of_size]; exact hk)
    have h2 := h.best.2 _ hl
    unfold cd at h2
    omega

/-- If there is none, no reached block has this name. -/
theorem none_reached {g : List Bl} {nm s : ByteArray} (h : WayAns g (Named g nm) s false) : s = ⟨#[]⟩ ∧ (validB g = false ∨ hasB (reachV g) nm = false) := by
  rcases h with ⟨hv, h⟩ | ⟨hv, rfl, _⟩
  · rcases h with ⟨h, _⟩ | ⟨_, rfl, hno⟩
    · cases h
    · refine ⟨rfl, .inr ?_⟩
      cases hh : hasB (reachV g) nm with
      | false => rfl
      | true =>
        rw [reachV_yes hv] at hh
        obtain ⟨y, hy, hn⟩ := (hasB_at hv (fun i hi => reachS_lt g i hi)).1 hh
        have hyl := reachS_lt g y hy
        have hyr : y ∈ reach g := (reachS_perm hv).subset hy
        obtain ⟨c, hc⟩ := ((mem_reach hv).1 hyr).lab hv
        exact absurd hc (hno y c ⟨hyl, hn⟩)
  · exact ⟨rfl, .inl hv⟩

end Go.Proofs.YtklnhbfpmmdhjabGreat
