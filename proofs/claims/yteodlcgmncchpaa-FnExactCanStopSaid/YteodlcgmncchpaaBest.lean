/-
  The search of the model: passes over all jumps until nothing gets better: plain facts.
-/
import Derived.Test.YteodlcgmncchpaaFirst
namespace Go.Proofs.Yteodlcgmncchpaa
open Go.RowKit Go.Sort

/-- The choices behind jump k of m. -/
def wayc (m k : Nat) (s : ByteArray) : ByteArray := if m = 2 then s ++ (if k = 0 then chL else chR) else s

theorem wayc_one {m : Nat} (h : m ≠ 2) (k : Nat) (s : ByteArray) : wayc m k s = s := by unfold wayc; rw [if_neg h]
theorem wayc_l (s : ByteArray) : wayc 2 0 s = s ++ chL := rfl
theorem wayc_r (s : ByteArray) : wayc 2 1 s = s ++ chR := rfl

/-- The choices that are known, for each block. -/
abbrev Sg := Nat → Option ByteArray
def atS (σ : Sg) (i : Nat) : ByteArray := (σ i).getD ⟨#[]⟩
def putS (σ : Sg) (t : Nat) (s : ByteArray) : Sg := fun i => if i = t then some s else σ i
theorem putS_same (σ : Sg) (t : Nat) (s : ByteArray) : putS σ t s t = some s := by simp [putS]
theorem putS_other (σ : Sg) {t i : Nat} (s : ByteArray) (h : i ≠ t) : putS σ t s i = σ i := by simp [putS, h]
theorem atS_some {σ : Sg} {i : Nat} {s : ByteArray} (h : σ i = some s) : atS σ i = s := by simp [atS, h]
theorem atS_none {σ : Sg} {i : Nat} (h : σ i = none) : atS σ i = ⟨#[]⟩ := by simp [atS, h]

/-- How many have some, and what is left to get better. -/
def cnt (σ : Sg) : Nat → Nat
  | 0 => 0
  | n + 1 => cnt σ n + if (σ n).isSome then 1 else 0
def phi : Option ByteArray → Nat
  | none => 134217728
  | some s => cd s
def pot (σ : Sg) : Nat → Nat
  | 0 => 0
  | n + 1 => pot σ n + phi (σ n)

theorem cnt_le (σ : Sg) : ∀ n, cnt σ n ≤ n
  | 0 => Nat.le_refl 0
  | n + 1 => by have := cnt_le σ n; unfold cnt; split <;> omega

theorem cnt_put_out (σ : Sg) (t : Nat) (s : ByteArray) : ∀ n, n ≤ t → cnt (putS σ t s) n = cnt σ n
  | 0, _ => rfl
  | n + 1, h => by unfold cnt; rw [cnt_put_out σ t s n (by omega), putS_other σ s (by omega)]

theorem cnt_put_old (σ : Sg) (t : Nat) (s : ByteArray) (h : (σ t).isSome = true) : ∀ n, cnt (putS σ t s) n = cnt σ n
  | 0 => rfl
  | n + 1 => by
    unfold cnt
    rw [cnt_put_old σ t s h n]
    by_cases e : n = t
    · subst e; rw [putS_same, h]; rfl
    · rw [putS_other σ s e]

theorem cnt_put_new (σ : Sg) (t : Nat) (s : ByteArray) (h : (σ t).isSome = false) : ∀ n, t < n → cnt (putS σ t s) n = cnt σ n + 1
  | 0, hn => absurd hn (by omega)
  | n + 1, hn => by
    unfold cnt
    by_cases e : n = t
    · subst e; rw [cnt_put_out σ n s n (Nat.le_refl _), putS_same, h]; rfl
    · rw [cnt_put_new σ t s h n (by omega), putS_other σ s e]; omega

theorem pot_put_out (σ : Sg) (t : Nat) (s : ByteArray) : ∀ n, n ≤ t → pot (putS σ t s) n = pot σ n
  | 0, _ => rfl
  | n + 1, h => by unfold pot; rw [pot_put_out σ t s n (by omega), putS_other σ s (by omega)]

theorem pot_put (σ : Sg) (t : Nat) (s : ByteArray) : ∀ n, t < n → pot (putS σ t s) n + phi (σ t) = pot σ n + cd s
  | 0, hn => absurd hn (by omega)
  | n + 1, hn => by
    unfold pot
    by_cases e : n = t
    · subst e; rw [pot_put_out σ n s n (Nat.le_refl _), putS_same]; show _ + cd s + _ = _; omega
    · have := pot_put σ t s n (by omega)
      rw [putS_other σ s e]; omega

/-- What is known is so. -/
structure Sound (g : List Bl) (A : List Nat) (σ : Sg) : Prop where
  ok : ∀ i s, σ i = some s → Lab g A i (cd s) ∧ lrS s = true ∧ cd s < 2 ^ cnt σ g.length
  zero : 0 ∉ A → ∃ s, σ 0 = some s ∧ cd s ≤ 1

def beginS (A : List Nat) : Sg := fun i => if i = 0 ∧ 0 ∉ A then some ⟨#[]⟩ else none

theorem cnt_pos {σ : Sg} {i : Nat} (h : (σ i).isSome = true) : ∀ n, i < n → 1 ≤ cnt σ n
  | 0, hn => absurd hn (by omega)
  | n + 1, hn => by
    unfold cnt
    by_cases e : n = i
    · subst e; rw [if_pos h]; omega
    · have := cnt_pos h n (by omega); omega

theorem Sound.begin {g : List Bl} (hv : validB g = true) (A : List Nat) : Sound g A (beginS A) := by
  refine ⟨fun i s h => ?_, fun ha => ⟨⟨#[]⟩, by simp [beginS, ha], by rw [cd_nil]; exact Nat.le_refl _⟩⟩
  have hh := h
  unfold beginS at h
  split at h
  · rename_i hc
    obtain rfl := Option.some.inj h
    obtain ⟨rfl, ha⟩ := hc
    refine ⟨.start ha, rfl, ?_⟩
    have h1 := cnt_pos (σ := beginS A) (i := 0) (by rw [hh]; rfl) g.length (valid_iff.1 hv).1
    have h2 : 2 ^ 1 ≤ 2 ^ cnt (beginS A) g.length := Nat.pow_le_pow_right (by decide) h1
    rw [cd_nil]; omega
  · cases h

theorem Sound.small {g : List Bl} {A : List Nat} {σ : Sg} (h : Sound g A σ) (h26 : g.length ≤ 26) {i : Nat} {s : ByteArray} (hi : σ i = some s) : cd s < 67108864 ∧ s.size < g.length := by
  have h1 := (h.ok i s hi).2.2
  have h2 : 2 ^ cnt σ g.length ≤ 2 ^ 26 := Nat.pow_le_pow_right (by decide) (by have := cnt_le σ g.length; omega)
  have h3 : cd s < 67108864 := by omega
  refine ⟨h3, ?_⟩
  have h4 := cd_size s
  rcases Nat.lt_or_ge s.size g.length with h5 | h5
  · exact h5
  · have h6 : 2 ^ cnt σ g.length ≤ 2 ^ s.size := Nat.pow_le_pow_right (by decide) (by have := cnt_le σ g.length; omega)
    omega

/-- A jump that makes nothing better. -/
def Sat (g : List Bl) (A : List Nat) (σ : Sg) (i k : Nat) : Prop :=
  ∀ s t, σ i = some s → (nxt g i)[k]? = some t → t ∉ A → ∃ s', σ t = some s' ∧ cd s' ≤ cd (wayc (nxt g i).length k s)

/-- Within a pass that began with σ0: jumps before k of block i have been looked at; b: something got better. -/
structure Pass (g : List Bl) (A : List Nat) (σ0 σ : Sg) (b : Bool) (i k : Nat) : Prop where
  sound : Sound g A σ
  no : b = false → σ = σ0 ∧ ∀ i' k', (i' < i ∨ i' = i ∧ k' < k) → Sat g A σ i' k'
  yes : b = true → pot σ g.length < pot σ0 g.length

section
variable {g : List Bl} {A : List Nat} {σ0 σ : Sg} {b : Bool} {i k t : Nat}

theorem Pass.start (h : Sound g A σ) : Pass g A σ σ false 0 0 := ⟨h, fun _ => ⟨rfl, fun i' k' h => by omega⟩, fun h => by cases h⟩

theorem Pass.line (h : Pass g A σ0 σ b i (nxt g i).length) : Pass g A σ0 σ b (i + 1) 0 := by
  refine ⟨h.sound, fun hb => ⟨(h.no hb).1, fun i' k' hk => ?_⟩, h.yes⟩
  by_cases e : i' < i
  · exact (h.no hb).2 i' k' (.inl e)
  · obtain rfl : i' = i := by omega
    by_cases e2 : k' < (nxt g i').length
    · exact (h.no hb).2 i' k' (.inr ⟨rfl, e2⟩)
    · intro s t _ ht
      rw [List.getElem?_eq_none (by omega)] at ht; cases ht

theorem Pass.one (h : Pass g A σ0 σ b i k) (hs : Sat g A σ i k) : Pass g A σ0 σ b i (k + 1) := by
  refine ⟨h.sound, fun hb => ⟨(h.no hb).1, fun i' k' hk => ?_⟩, h.yes⟩
  by_cases e : i' = i ∧ k' = k
  · rw [e.1, e.2]; exact hs
  · exact (h.no hb).2 i' k' (by omega)

/-- Nothing gets better: block i has none, or t is to be avoided, or has better ones. -/
theorem Pass.skip (h : Pass g A σ0 σ b i k) (ht : (nxt g i)[k]? = some t) (hc : σ i = none ∨ t ∈ A ∨ ∃ s s', σ i = some s ∧ σ t = some s' ∧ cd s' ≤ cd (wayc (nxt g i).length k s)) : Pass g A σ0 σ b i (k + 1) := by
  refine h.one fun s t' hs ht' ha => ?_
  rw [ht] at ht'
  obtain rfl := Option.some.inj ht'
  rcases hc with hc | hc | ⟨s1, s', h1, h2, h3⟩
  · rw [hc] at hs; cases hs
  · exact absurd hc ha
  · rw [h1] at hs
    obtain rfl := Option.some.inj hs
    exact ⟨s', h2, h3⟩

theorem nxt_in (hv : validB g = true) (hi : i < g.length) (ht : (nxt g i)[k]? = some t) : t < g.length := nxt_lt hv hi (List.mem_of_getElem? ht)

theorem lab_way (hv : validB g = true) (hi : i < g.length) {s : ByteArray} (hl : Lab g A i (cd s)) (hr : lrS s = true) (ht : (nxt g i)[k]? = some t) (ha : t ∉ A) :
    Lab g A t (cd (wayc (nxt g i).length k s)) ∧ lrS (wayc (nxt g i).length k s) = true ∧ cd (wayc (nxt g i).length k s) ≤ 2 * cd s + 1 := by
  have hp := cd_pos s
  rcases goes hv hi with ⟨h, _⟩ | ⟨p, _, h, _⟩ | ⟨p, q, _, _, h, _⟩
  · rw [h] at ht; cases ht
  · rw [h] at ht
    obtain ⟨rfl, rfl⟩ : k = 0 ∧ p = t := by
      cases k with
      | zero => exact ⟨rfl, Option.some.inj ht⟩
      | succ k => cases ht
    rw [h, wayc_one (by simp)]
    exact ⟨.jump hl h ha, hr, by omega⟩
  · rw [h] at ht ⊢
    cases k with
    | zero =>
      obtain rfl := Option.some.inj ht
      show Lab g A p (cd (s ++ chL)) ∧ lrS (s ++ chL) = true ∧ cd (s ++ chL) ≤ _
      rw [cd_l]
      exact ⟨.left hl h ha, lrS_l hr, by omega⟩
    | succ k =>
      cases k with
      | zero =>
        obtain rfl := Option.some.inj ht
        show Lab g A q (cd (s ++ chR)) ∧ lrS (s ++ chR) = true ∧ cd (s ++ chR) ≤ _
        rw [cd_r]
        exact ⟨.right hl h ha, lrS_r hr, Nat.le_refl _⟩
      | succ k => cases ht

/-- Something gets better. -/
theorem Pass.better (hv : validB g = true) (h : Pass g A σ0 σ b i k) {s : ByteArray} (hi : σ i = some s) (ht : (nxt g i)[k]? = some t) (ha : t ∉ A)
    (hc : σ t = none ∨ ∃ s', σ t = some s' ∧ cd (wayc (nxt g i).length k s) < cd s') : Pass g A σ0 (putS σ t (wayc (nxt g i).length k s)) true i (k + 1) := by
  have h26 := (valid_iff.1 hv).2.1
  obtain ⟨hl, hr, h1⟩ := h.sound.ok i s hi
  have hil := hl.lt hv
  have htl := nxt_in hv hil ht
  obtain ⟨w1, w2, w3⟩ := lab_way hv hil hl hr ht ha
  obtain ⟨w, hw⟩ : ∃ w, w = wayc (nxt g i).length k s := ⟨_, rfl⟩
  rw [← hw] at w1 w2 w3 hc ⊢
  have hbig : 2 ^ cnt σ g.length ≤ 2 ^ 26 := Nat.pow_le_pow_right (by decide) (by have := cnt_le σ g.length; omega)
  have hpot := pot_put σ t w g.length htl
  have hle0 : pot σ g.length ≤ pot σ0 g.length := by
    cases b with
    | false => rw [(h.no rfl).1]; exact Nat.le_refl _
    | true => have := h.yes rfl; omega
  have hlow : cd w < phi (σ t) := by
    rcases hc with hc | ⟨s', hc, hlt⟩
    · rw [hc]; show cd w < 134217728; omega
    · rw [hc]; exact hlt
  refine ⟨⟨fun j u hj => ?_, fun h0 => ?_⟩, fun hb => (by cases hb), fun _ => by omega⟩
  · by_cases e : j = t
    · subst e
      rw [putS_same] at hj
      obtain rfl := Option.some.inj hj
      refine ⟨w1, w2, ?_⟩
      rcases hc with hc | ⟨s', hc, hlt⟩
      · rw [cnt_put_new σ j _ (by rw [hc]; rfl) _ htl, Nat.pow_succ]; omega
      · rw [cnt_put_old σ j _ (by rw [hc]; rfl)]
        have := (h.sound.ok j s' hc).2.2; omega
    · rw [putS_other _ _ e] at hj
      obtain ⟨a1, a2, a3⟩ := h.sound.ok j u hj
      refine ⟨a1, a2, Nat.lt_of_lt_of_le a3 (Nat.pow_le_pow_right (by decide) ?_)⟩
      rcases hc with hc | ⟨s', hc, _⟩
      · rw [cnt_put_new σ t _ (by rw [hc]; rfl) _ htl]; omega
      · rw [cnt_put_old σ t _ (by rw [hc]; rfl)]; exact Nat.le_refl _
  · obtain ⟨u, hu, hu1⟩ := h.sound.zero h0
    by_cases e : 0 = t
    · subst e
      rcases hc with hc | ⟨s', hc, hlt⟩
      · rw [hc] at hu; cases hu
      · rw [hc] at hu
        obtain rfl := Option.some.inj hu
        exact ⟨w, putS_same _ _ _, by omega⟩
    · exact ⟨u, by rw [putS_other _ _ e]; exact hu, hu1⟩

/-- What is known in the end. -/
structure Final (g : List Bl) (A : List Nat) (σ : Sg) : Prop where
  some_ : ∀ i s, σ i = some s → lrS s = true ∧ s.size < g.length ∧ Best g A i (cd s)
  none_ : ∀ i, σ i = none → ∀ c, ¬ Lab g A i c

theorem Pass.final (hv : validB g = true) (h : Pass g A σ0 σ false g.length 0) : Final g A σ := by
  have h26 := (valid_iff.1 hv).2.1
  have hs := (h.no rfl).2
  have inv : ∀ {i c}, (σ i).map cd = some c → ∃ s, σ i = some s ∧ cd s = c := fun h => Option.map_eq_some_iff.1 h
  obtain ⟨c1, c2⟩ := closed_best (g := g) (A := A) (d := fun i => (σ i).map cd) (fun i c hi => by
      obtain ⟨s, h1, rfl⟩ := inv hi
      exact (h.sound.ok i s h1).1) (fun h0 => by
      obtain ⟨s, h1, h2⟩ := h.sound.zero h0
      exact ⟨cd s, by rw [h1]; rfl, h2⟩) (fun i c t hi hn ha => by
      obtain ⟨s, h1, rfl⟩ := inv hi
      have hil := (h.sound.ok i s h1).1.lt hv
      obtain ⟨s', h2, h3⟩ := hs i 0 (.inl hil) s t h1 (by rw [hn]; rfl) ha
      rw [hn, wayc_one (by simp)] at h3
      exact ⟨cd s', by rw [h2]; rfl, h3⟩) (fun i c t u hi hn => by
      obtain ⟨s, h1, rfl⟩ := inv hi
      have hil := (h.sound.ok i s h1).1.lt hv
      refine ⟨fun ha => ?_, fun ha => ?_⟩
      · obtain ⟨s', h2, h3⟩ := hs i 0 (.inl hil) s t h1 (by rw [hn]; rfl) ha
        rw [hn] at h3
        exact ⟨cd s', by rw [h2]; rfl, by rw [← cd_l]; exact h3⟩
      · obtain ⟨s', h2, h3⟩ := hs i 1 (.inl hil) s u h1 (by rw [hn]; rfl) ha
        rw [hn] at h3
        exact ⟨cd s', by rw [h2]; rfl, by rw [← cd_r]; exact h3⟩)
  exact ⟨fun i s hi => ⟨(h.sound.ok i s hi).2.1, (h.sound.small h26 hi).2, c1 i (cd s) (by rw [hi]; rfl)⟩, fun i hi => c2 i (by rw [hi]; rfl)⟩
end

/-- The one block that is wanted. -/
theorem Final.one {g : List Bl} {A : List Nat} {σ : Sg} (h : Final g A σ) (i : Nat) : FirstWay g A (fun j => j = i) (atS σ i) (σ i).isSome := by
  cases hi : σ i with
  | none => exact .inr ⟨rfl, atS_none hi, fun j c hj => by rw [hj]; exact h.none_ i hi c⟩
  | some s =>
    obtain ⟨h1, h2, h3⟩ := h.some_ i s hi
    rw [atS_some hi]
    exact .inl ⟨rfl, h1, h2, i, rfl, h3, fun j c hj hl => by rw [hj] at hl; exact h3.2 c hl⟩

/-- The best of those before block i that stop. -/
abbrev StopBefore (g : List Bl) (i : Nat) : Nat → Prop := fun j => j < i ∧ nxt g j = []

theorem stops_start (g : List Bl) (A : List Nat) : FirstWay g A (StopBefore g 0) ⟨#[]⟩ false := .inr ⟨rfl, rfl, fun j c hj => by have := hj.1; omega⟩

theorem stops_skip {g : List Bl} {A : List Nat} {i : Nat} {s : ByteArray} {ok : Bool} (h : FirstWay g A (StopBefore g i) s ok) (hn : nxt g i ≠ []) : FirstWay g A (StopBefore g (i + 1)) s ok :=
  h.same fun j _ => ⟨fun e => ⟨by omega, e.2⟩, fun e => ⟨by
    rcases Nat.lt_or_ge j i with h | h
    · exact h
    · obtain rfl : j = i := by omega
      exact absurd e.2 hn, e.2⟩⟩

theorem stops_none {g : List Bl} {A : List Nat} {σ : Sg} (hf : Final g A σ) {i : Nat} {s : ByteArray} {ok : Bool} (h : FirstWay g A (StopBefore g i) s ok) (hn : σ i = none) : FirstWay g A (StopBefore g (i + 1)) s ok :=
  h.same fun j hj => ⟨fun e => ⟨by omega, e.2⟩, fun e => ⟨by
    rcases Nat.lt_or_ge j i with h | h
    · exact h
    · obtain rfl : j = i := by omega
      obtain ⟨c, hc⟩ := hj
      exact absurd hc (hf.none_ j hn c), e.2⟩⟩

theorem stops_worse {g : List Bl} {A : List Nat} {σ : Sg} (hf : Final g A σ) {i : Nat} {s t : ByteArray} (h : FirstWay g A (StopBefore g i) s true) (hi : σ i = some t) (hc : cd s ≤ cd t) : FirstWay g A (StopBefore g (i + 1)) s true := by
  rcases h with ⟨_, h1, h2, j, hj, hb, hm⟩ | ⟨h, _⟩
  · refine .inl ⟨rfl, h1, h2, j, ⟨by have := hj.1; omega, hj.2⟩, hb, fun k c hk hl => ?_⟩
    rcases Nat.lt_or_ge k i with h | h
    · exact hm k c ⟨h, hk.2⟩ hl
    · obtain rfl : k = i := by have := hk.1; omega
      have := (hf.some_ k t hi).2.2.2 c hl; omega
  · cases h

theorem stops_better {g : List Bl} {A : List Nat} {σ : Sg} (hf : Final g A σ) {i : Nat} {s t : ByteArray} {ok : Bool} (h : FirstWay g A (StopBefore g i) s ok) (hi : σ i = some t) (hn : nxt g i = []) (hc : ok = true → cd t < cd s) : FirstWay g A (StopBefore g (i + 1)) t true := by
  obtain ⟨h1, h2, h3⟩ := hf.some_ i t hi
  refine .inl ⟨rfl, h1, h2, i, ⟨by omega, hn⟩, h3, fun k c hk hl => ?_⟩
  rcases Nat.lt_or_ge k i with hlt | hge
  · rcases h with ⟨rfl, _, _, _, _, _, hm⟩ | ⟨_, _, hno⟩
    · have := hm k c ⟨hlt, hk.2⟩ hl
      have := hc rfl; omega
    · exact absurd hl (hno k c ⟨hlt, hk.2⟩)
  · obtain rfl : k = i := by have := hk.1; omega
    exact h3.2 c hl

end Go.Proofs.Yteodlcgmncchpaa
