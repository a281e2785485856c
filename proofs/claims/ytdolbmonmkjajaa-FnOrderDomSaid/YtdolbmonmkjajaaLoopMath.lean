/-
  Loops and the way order, more plain facts: forward jumps to each block, what dominates comes ahead, loops lie within each other.
-/
import Derived.Test.YtdolbmonmkjajaaKinds
import Derived.Test.YtdolbmonmkjajaaLaw
import Derived.Test.YtdolbmonmkjajaaKids
namespace Go.Proofs.Ytdolbmonmkjajaa

/-- Each block that is put is the first one or one goes on to it that stands ahead. -/
theorem visit_pred (nx : Nat → List Nat) : ∀ (m i : Nat) (st : List Nat × List Nat), ∃ D, (visit nx m i st).2 = D ++ st.2 ∧ ∀ x ∈ D, x = i ∨ ∃ p, x ∈ nx p ∧ [p, x].Sublist D
  | 0, i, st => ⟨[], rfl, by simp⟩
  | m + 1, i, st => by
    have ih := visit_pred nx m
    have inner : ∀ (ts : List Nat) (st : List Nat × List Nat), ∃ D, (visits nx m st ts).2 = D ++ st.2 ∧ ∀ x ∈ D, x ∈ ts ∨ ∃ p, x ∈ nx p ∧ [p, x].Sublist D := by
      intro ts
      induction ts with
      | nil => intro st; exact ⟨[], rfl, by simp⟩
      | cons t ts iht =>
        intro st
        rw [visits_cons]
        by_cases ht : t ∈ st.1
        · rw [if_pos ht]
          obtain ⟨D, e, h⟩ := iht st
          exact ⟨D, e, fun x hx => (h x hx).imp (List.mem_cons_of_mem _) id⟩
        · rw [if_neg ht]
          obtain ⟨D1, e1, h1⟩ := ih t st
          obtain ⟨D, e, h⟩ := iht (visit nx m t st)
          refine ⟨D ++ D1, by rw [e, e1, List.append_assoc], fun x hx => ?_⟩
          rcases List.mem_append.1 hx with hx | hx
          · rcases h x hx with q | ⟨p, q, r⟩
            · exact .inl (List.mem_cons_of_mem _ q)
            · exact .inr ⟨p, q, r.trans (List.sublist_append_left _ _)⟩
          · rcases h1 x hx with q | ⟨p, q, r⟩
            · exact .inl (by rw [q]; simp)
            · exact .inr ⟨p, q, r.trans (List.sublist_append_right _ _)⟩
    obtain ⟨D, e, h⟩ := inner (nx i).reverse (st.1 ++ [i], st.2)
    refine ⟨i :: D, by rw [visit_succ]; simp only [e]; rfl, fun x hx => ?_⟩
    rcases List.mem_cons.1 hx with q | hx
    · exact .inl q
    · rcases h x hx with q | ⟨p, q, r⟩
      · exact .inr ⟨i, List.mem_reverse.1 q, List.Sublist.cons_cons i (List.singleton_sublist.2 hx)⟩
      · exact .inr ⟨p, q, r.cons i⟩

theorem placeIn_cons (c : Nat) (l : List Nat) (x : Nat) : placeIn (c :: l) x = if c = x then 0 else placeIn l x + 1 := by
  unfold placeIn
  rw [List.findIdx_cons]
  by_cases h : c = x
  · rw [if_pos h, decide_eq_true h]; rfl
  · rw [if_neg h, decide_eq_false h]; rfl

theorem sub_place {a b : Nat} : ∀ {l : List Nat}, l.Nodup → [a, b].Sublist l → placeIn l a < placeIn l b
  | [], _, h => by cases h
  | c :: l, hn, h => by
    obtain ⟨hc, hl⟩ := List.nodup_cons.1 hn
    rw [placeIn_cons, placeIn_cons]
    cases h with
    | cons _ h =>
      have ha : c ≠ a := fun e => hc (e ▸ h.subset (by simp))
      have hb : c ≠ b := fun e => hc (e ▸ h.subset (by simp))
      rw [if_neg ha, if_neg hb]
      have := sub_place hl h
      omega
    | cons_cons _ h =>
      have hb : a ≠ b := fun e => hc (e ▸ h.subset (by simp))
      rw [if_pos rfl, if_neg hb]
      omega

theorem place_lt {g : List Bl} (hv : validB g = true) {x : Nat} (hx : Rch g [] x) : placeN g x < (wayOrd g).length := placeIn_lt ((mem_wayOrd hv).2 hx)

theorem place_inj {g : List Bl} (hv : validB g = true) {x y : Nat} (hx : Rch g [] x) (hy : Rch g [] y) (h : placeN g x = placeN g y) : x = y := by
  have e1 := placeIn_get ((mem_wayOrd hv).2 hx)
  have e2 := placeIn_get ((mem_wayOrd hv).2 hy)
  unfold placeN at h
  rw [← e1, ← e2]
  congr 1

/-- To each reached block but the entry one goes forward. -/
theorem fwd_pred {g : List Bl} (hv : validB g = true) {t : Nat} (ht : Rch g [] t) (h0 : t ≠ 0) : ∃ i, Rch g [] i ∧ t ∈ nxt g i ∧ placeN g i < placeN g t := by
  obtain ⟨D, e, h⟩ := visit_pred (nxt g) g.length 0 ([], [])
  have e' : wayOrd g = D := by unfold wayOrd; rw [e, List.append_nil]
  have hm : t ∈ D := e' ▸ (mem_wayOrd hv).2 ht
  rcases h t hm with q | ⟨p, q, r⟩
  · exact absurd q h0
  · rw [← e'] at r
    exact ⟨p, (mem_wayOrd hv).1 (r.subset (by simp)), q, sub_place (wayOrd_nodup hv) r⟩

/-- The entry comes first. -/
theorem place_entry {g : List Bl} (hv : validB g = true) : placeN g 0 = 0 := by
  obtain ⟨D, e, _⟩ := wayOrd_went hv
  unfold placeN
  rw [e, placeIn_cons, if_pos rfl]

/-- What dominates a block comes ahead of it. -/
theorem dom_place {g : List Bl} (hv : validB g = true) {a x : Nat} (hx : Rch g [] x) (ha : Dm g a x) (hne : a ≠ x) : placeN g a < placeN g x := by
  rcases wayOrd_dom hv hx ha with e | e
  · exact absurd e hne
  · exact sub_place (wayOrd_nodup hv) e

/-- A header dominates its loop. -/
theorem found_dom {g : List Bl} (hv : validB g = true) {h x : Nat} (hx : FoundBy (folL g h) (srcL g tameK h ++ [h]) x) : Dm g h x := by
  induction hx with
  | @start i hi =>
    rcases List.mem_append.1 hi with q | q
    · obtain ⟨_, _, hk⟩ := (mem_srcL hv).1 q
      have h1 : kindN g i h = 1 := by simpa [tameK] using hk
      by_cases hd : dmB g h i = true
      · exact (dmB_iff hv).1 hd
      · exfalso
        rcases Nat.lt_or_ge (placeN g i) (placeN g h) with r | r
        · rw [kind_fwd r] at h1; omega
        · rw [kind_wild (by omega) (by simpa using hd)] at h1; omega
    · rw [List.mem_singleton.1 q]; exact .refl g h
  | @step i t _ hn ih =>
    unfold folL at hn
    by_cases e : i = h
    · rw [if_pos e] at hn; simp at hn
    · rw [if_neg e] at hn
      obtain ⟨_, hi, _⟩ := (mem_srcL hv).1 hn
      rcases ih.back hi with q | q
      · exact absurd q.symm e
      · exact q

theorem loop_dom {g : List Bl} (hv : validB g = true) {h x : Nat} (hl : h < g.length) (hx : x ∈ loopL g h) : Dm g h x := found_dom hv ((mem_loopL hl).1 hx)

theorem loop_self {g : List Bl} {h : Nat} (hl : h < g.length) : h ∈ loopL g h := (mem_loopL hl).2 (.start (by simp))

/-- What goes on to a block of a loop but its header lies in it. -/
theorem loop_back {g : List Bl} (hv : validB g = true) {h x i : Nat} (hl : h < g.length) (hx : x ∈ loopL g h) (hne : x ≠ h) (hi : Rch g [] i) (hn : x ∈ nxt g i) : i ∈ loopL g h := by
  rw [mem_loopL hl] at hx ⊢
  refine .step hx ?_
  unfold folL
  rw [if_neg hne, mem_srcL hv]
  exact ⟨hi, hn, allK_kind g i x⟩

theorem found_live {g : List Bl} (hv : validB g = true) {h x : Nat} (hr : Rch g [] h) (hx : FoundBy (folL g h) (srcL g tameK h ++ [h]) x) : Rch g [] x := by
  induction hx with
  | @start i hi =>
    rcases List.mem_append.1 hi with q | q
    · exact ((mem_srcL hv).1 q).1
    · rw [List.mem_singleton.1 q]; exact hr
  | @step i t _ hn ih =>
    unfold folL at hn
    by_cases e : i = h
    · rw [if_pos e] at hn; simp at hn
    · rw [if_neg e] at hn
      exact ((mem_srcL hv).1 hn).1
theorem loop_live {g : List Bl} (hv : validB g = true) {h x : Nat} (hr : Rch g [] h) (hx : x ∈ loopL g h) : Rch g [] x := found_live hv hr ((mem_loopL (hr.lt hv)).1 hx)

/-- What dominates a block of a loop, and not its header, lies in the loop. -/
theorem loop_dom_in {g : List Bl} (hv : validB g = true) {h a x : Nat} (hr : Rch g [] h) (hx : x ∈ loopL g h) (ha : Dm g a x) (hna : ¬ Dm g a h) : a ∈ loopL g h := by
  have hl := hr.lt hv
  by_cases hin : a ∈ loopL g h
  · exact hin
  · exfalso
    have hah : Rch g [a] h := by
      unfold Dm at hna
      exact Classical.byContradiction fun q => hna (.inr q)
    have all : ∀ y, Rch g [] y → y ∈ loopL g h → Rch g [a] y := by
      intro y hy
      induction hy with
      | start _ =>
        intro hm
        have := (loop_dom hv hl hm).of_entry
        rw [← this]; exact hah
      | @step i t hi hn _ ih =>
        intro hm
        by_cases e : t = h
        · rw [e]; exact hah
        · have := ih (loop_back hv hl hm e hi hn)
          exact .step this hn (by
            have : ¬ t = a := fun q => hin (by rw [← q]; exact hm)
            simpa using this)
    have hxr := loop_live hv hr hx
    rcases ha with q | q
    · exact hin (q ▸ hx)
    · exact q (all x hxr hx)

/-- Two loops of which one has the other's header: it has all of the other. -/
theorem loop_within {g : List Bl} (hv : validB g = true) {h k : Nat} (hr : Rch g [] h) (kr : Rch g [] k) (hk : k ∈ loopL g h) (hne : h ≠ k) : h ∉ loopL g k ∧ ∀ x ∈ loopL g k, x ∈ loopL g h := by
  have hl := hr.lt hv
  have kl := kr.lt hv
  have hd := loop_dom hv hl hk
  have hout : h ∉ loopL g k := fun q => hne (hd.antisymm (loop_dom hv kl q) hr)
  refine ⟨hout, fun x hx => ?_⟩
  have hx' := (mem_loopL kl).1 hx
  clear hx
  induction hx' with
  | @start i hi =>
    rcases List.mem_append.1 hi with q | q
    · obtain ⟨h1, h2, _⟩ := (mem_srcL hv).1 q
      exact loop_back hv hl hk (fun e => hne e.symm) h1 h2
    · rw [List.mem_singleton.1 q]; exact hk
  | @step i t hi hn ih =>
    unfold folL at hn
    by_cases e : i = k
    · rw [if_pos e] at hn; simp at hn
    · rw [if_neg e] at hn
      obtain ⟨h1, h2, _⟩ := (mem_srcL hv).1 hn
      exact loop_back hv hl ih (fun e => hout (by rw [← e]; exact (mem_loopL kl).2 hi)) h1 h2

/-- Two loops with a block in both: one has the other, which is smaller. -/
theorem loops_nest {g : List Bl} (hv : validB g = true) {h k x : Nat} (hr : Rch g [] h) (kr : Rch g [] k) (hne : h ≠ k) (hx : x ∈ loopL g h) (kx : x ∈ loopL g k) :
    (h ∉ loopL g k ∧ ∀ y ∈ loopL g k, y ∈ loopL g h) ∨ (k ∉ loopL g h ∧ ∀ y ∈ loopL g h, y ∈ loopL g k) := by
  have d1 := loop_dom hv (hr.lt hv) hx
  have d2 := loop_dom hv (kr.lt hv) kx
  rcases d1.total d2 (loop_live hv hr hx) with q | q
  · refine .inl (loop_within hv hr kr (loop_dom_in hv hr hx d2 fun r => hne (q.antisymm r hr)) hne)
  · refine .inr (loop_within hv kr hr (loop_dom_in hv kr kx d1 fun r => hne (r.antisymm q hr)) fun e => hne e.symm)

theorem loop_nodup (g : List Bl) (h : Nat) : (loopL g h).Nodup := List.Pairwise.filter _ List.nodup_range
theorem head_nodup (g : List Bl) : (headL g).Nodup := List.Pairwise.filter _ (List.Pairwise.filter _ List.nodup_range)

theorem sub_len : ∀ {k l : List Nat}, k.Nodup → (∀ x ∈ k, x ∈ l) → k.length ≤ l.length
  | [], _, _, _ => Nat.zero_le _
  | x :: k, l, hn, h => by
    obtain ⟨hx, hk⟩ := List.nodup_cons.1 hn
    have hxl := h x (by simp)
    have ih := sub_len (k := k) (l := l.erase x) hk fun y hy => (List.mem_erase_of_ne fun e => hx (by rw [← e]; exact hy)).2 (h y (List.mem_cons_of_mem _ hy))
    rw [List.length_erase_of_mem hxl] at ih
    have := List.length_pos_of_mem hxl
    rw [List.length_cons]; omega

/-- A list that has another one and more is longer. -/
theorem within_len {l k : List Nat} (hk : k.Nodup) (h : ∀ x ∈ k, x ∈ l) {y : Nat} (hy : y ∈ l) (hn : y ∉ k) : k.length < l.length := by
  have h1 : (y :: k).Nodup := List.nodup_cons.2 ⟨hn, hk⟩
  have := sub_len (l := l) h1 fun x hx => (List.mem_cons.1 hx).elim (fun e => by rw [e]; exact hy) (h x)
  rw [List.length_cons] at this
  omega

theorem countP_mono' {p q : Nat → Bool} : ∀ {l : List Nat}, (∀ x ∈ l, p x = true → q x = true) → l.countP p ≤ l.countP q
  | [], _ => Nat.le_refl _
  | x :: l, h => by
    have ih := countP_mono' (l := l) fun y hy => h y (List.mem_cons_of_mem _ hy)
    have hx := h x (by simp)
    rw [List.countP_cons, List.countP_cons]
    cases hp : p x
    · simp; omega
    · rw [hx hp]; simp; omega
theorem countP_but {p q : Nat → Bool} {h : Nat} : ∀ {l : List Nat}, l.Nodup → (∀ x ∈ l, x ≠ h → p x = true → q x = true) → l.countP p ≤ l.countP q + 1
  | [], _, _ => by simp
  | x :: l, hn, hh => by
    obtain ⟨hx, hl⟩ := List.nodup_cons.1 hn
    rw [List.countP_cons, List.countP_cons]
    by_cases e : x = h
    · have := countP_mono' (p := p) (q := q) (l := l) fun y hy => hh y (List.mem_cons_of_mem _ hy) fun q => hx (by rw [e, ← q]; exact hy)
      have h1 : (if p x = true then 1 else 0) ≤ 1 := by split <;> omega
      omega
    · have ih := countP_but (p := p) (q := q) (h := h) hl fun y hy => hh y (List.mem_cons_of_mem _ hy)
      have := hh x (by simp) e
      cases hp : p x
      · simp; omega
      · rw [this hp]; simp; omega

theorem head_live {g : List Bl} (hv : validB g = true) {h : Nat} (hh : h ∈ headL g) : Rch g [] h := ((mem_headL hv).1 hh).1

/-- What lies in a loop is as deep as its header. -/
theorem depth_in {g : List Bl} (hv : validB g = true) {h x : Nat} (hr : Rch g [] h) (hx : x ∈ loopL g h) : depthN g h ≤ depthN g x := by
  unfold depthN
  refine countP_mono' fun k hk q => ?_
  have kr := head_live hv hk
  have hkl : h ∈ loopL g k := of_decide_eq_true q
  refine decide_eq_true ?_
  by_cases e : k = h
  · rw [e]; exact hx
  · exact (loop_within hv kr hr hkl e).2 x hx

/-- The parent is at most one less deep. -/
theorem depth_par {g : List Bl} (hv : validB g = true) {h p : Nat} (hp : Par g p h) : depthN g h ≤ depthN g p + 1 := by
  unfold depthN
  refine countP_but (h := h) (head_nodup g) fun k hk e q => ?_
  have kr := head_live hv hk
  have hkl : h ∈ loopL g k := of_decide_eq_true q
  refine decide_eq_true ?_
  have kd := loop_dom hv (kr.lt hv) hkl
  have kp : Dm g k p := ((hp.2.2 k).1 kd).resolve_left e
  by_cases r : Dm g p k
  · rw [r.antisymm kp hp.2.1]; exact loop_self (kr.lt hv)
  · exact loop_dom_in hv kr hkl ((hp.2.2 p).2 (.inr (.refl g p))) r

theorem depth_head {g : List Bl} (hv : validB g = true) {h : Nat} (hh : h ∈ headL g) : 1 ≤ depthN g h := by
  unfold depthN
  exact List.countP_pos_iff.2 ⟨h, hh, decide_eq_true (loop_self ((head_live hv hh).lt hv))⟩
end Go.Proofs.Ytdolbmonmkjajaa

/-
  What LoopOf and DepthIn answer: plain facts.
-/
namespace Go.Proofs.Ytdolbmonmkjajaa

/-- The header with a name. -/
def headOf (g : List Bl) (s : ByteArray) : Option Nat := match liveOf g s with | some i => if i ∈ headL g then some i else none | none => none

theorem headOf_no {g : List Bl} {s : ByteArray} (h : validB g = false) : headOf g s = none := by unfold headOf; rw [liveOf_no h]
theorem headOf_none {g : List Bl} {s : ByteArray} (hp : posOf g s = none) : headOf g s = none := by unfold headOf; rw [liveOf_none hp]
theorem headOf_some {g : List Bl} {s : ByteArray} {i : Nat} (hv : validB g = true) (hp : posOf g s = some i) (hh : i ∈ headL g) : headOf g s = some i := by
  unfold headOf; rw [liveOf_some hv hp ((mem_reach hv).2 (head_live hv hh))]; simp [hh]
theorem headOf_is {g : List Bl} {s : ByteArray} {i : Nat} (h : headOf g s = some i) : validB g = true ∧ posOf g s = some i ∧ i ∈ headL g := by
  unfold headOf at h
  cases hl : liveOf g s with
  | none => rw [hl] at h; cases h
  | some j =>
    rw [hl] at h
    by_cases hj : j ∈ headL g
    · simp [hj] at h
      subst h
      obtain ⟨h1, h2, _⟩ := liveOf_is hl
      exact ⟨h1, h2, hj⟩
    · simp [hj] at h
theorem headOf_out {g : List Bl} {s : ByteArray} {i : Nat} (hp : posOf g s = some i) (hh : i ∉ headL g) : headOf g s = none := by
  cases h : headOf g s with
  | none => rfl
  | some j =>
    obtain ⟨_, h2, h3⟩ := headOf_is h
    rw [hp] at h2
    exact absurd (by rw [Option.some.inj h2]; exact h3) hh

def loopV (g : List Bl) (s : ByteArray) : ByteArray := match headOf g s with | some h => namesAt g (loopL g h) | none => ⟨#[]⟩
def loopB (g : List Bl) (s : ByteArray) : Bool := (headOf g s).isSome
theorem loopV_some {g : List Bl} {s : ByteArray} {h : Nat} (e : headOf g s = some h) : loopV g s = namesAt g (loopL g h) := by unfold loopV; rw [e]
theorem loopV_none {g : List Bl} {s : ByteArray} (e : headOf g s = none) : loopV g s = ⟨#[]⟩ := by unfold loopV; rw [e]
theorem loopB_some {g : List Bl} {s : ByteArray} {h : Nat} (e : headOf g s = some h) : loopB g s = true := by unfold loopB; rw [e]; rfl
theorem loopB_none {g : List Bl} {s : ByteArray} (e : headOf g s = none) : loopB g s = false := by unfold loopB; rw [e]; rfl

def depthV (g : List Bl) (s : ByteArray) : Int := match liveOf g s with | some n => (depthN g n : Int) | none => -1
theorem depthV_some {g : List Bl} {s : ByteArray} {n : Nat} (e : liveOf g s = some n) : depthV g s = (depthN g n : Int) := by unfold depthV; rw [e]
theorem depthV_none {g : List Bl} {s : ByteArray} (e : liveOf g s = none) : depthV g s = -1 := by unfold depthV; rw [e]

theorem countP_take {p : Nat → Bool} {l : List Nat} {k : Nat} (h : k < l.length) : (l.take (k + 1)).countP p = (l.take k).countP p + (if p l[k] = true then 1 else 0) := by
  rw [List.take_succ_eq_append_getElem h, List.countP_append]
  simp [List.countP_cons]

theorem head_small {g : List Bl} (hv : validB g = true) : (headL g).length ≤ 26 := Nat.le_trans (goalL_len 1 backK) (reachS_small hv)
theorem head_lt {g : List Bl} : ∀ i ∈ headL g, i < g.length := goalL_lt 1 backK
theorem loop_small {g : List Bl} (hv : validB g = true) (h : Nat) : (loopL g h).length ≤ 26 := by
  have := nodup_lt_len _ _ (loop_nodup g h) (loopL_lt h)
  have := (valid_iff.1 hv).2.1
  omega

theorem ret_tsb {a a' : ByteArray} {b b' : Bool} (h : a = a') (k : b = b') : Ending.returned (.tuple #[.string a, .bool b]) = .returned (.tuple #[.string a', .bool b']) := by rw [h, k]

theorem names_at {g : List Bl} (hv : validB g = true) {l : List Nat} (hl : ∀ i ∈ l, i < g.length) {k : Nat} (hk : k < l.length) : (namesAt g l).extract k (k + 1) = nthName g l[k] := by
  obtain ⟨h, e⟩ := namesAt_cut hv hl hk
  rw [e, nthName_at h]
theorem hasN {g : List Bl} (hv : validB g = true) {l : List Nat} (hl : ∀ i ∈ l, i < g.length) {i : Nat} (hi : i < g.length) : hasB (namesAt g l) (nthName g i) = decide (i ∈ l) := by
  rw [nthName_at hi]; exact hasB_namesAt hv hl hi
theorem pos_name {g : List Bl} (hv : validB g = true) {i : Nat} (hi : i < g.length) : posOf g (nthName g i) = some i := by
  rw [nthName_at hi]; exact posOf_name hv hi
theorem headOf_name {g : List Bl} (hv : validB g = true) {h : Nat} (hh : h ∈ headL g) : headOf g (nthName g h) = some h := headOf_some hv (pos_name hv (head_lt h hh)) hh
theorem headOf_nm {g : List Bl} {s : ByteArray} {h : Nat} (e : headOf g s = some h) : validB g = true ∧ h ∈ headL g ∧ s = nthName g h := by
  obtain ⟨hv, hp, hh⟩ := headOf_is e
  obtain ⟨hl, hn⟩ := posOf_is hp
  exact ⟨hv, hh, by rw [nthName_at hl, hn]⟩
theorem live_nm {g : List Bl} {s : ByteArray} {n : Nat} (e : liveOf g s = some n) : validB g = true ∧ n < g.length ∧ s = nthName g n ∧ Rch g [] n := by
  obtain ⟨hv, hp, hr⟩ := liveOf_is e
  obtain ⟨hl, hn⟩ := posOf_is hp
  exact ⟨hv, hl, by rw [nthName_at hl, hn], (mem_reach hv).1 hr⟩
theorem live_of {g : List Bl} (hv : validB g = true) {n : Nat} (hr : Rch g [] n) : liveOf g (nthName g n) = some n := liveOf_some hv (pos_name hv (hr.lt hv)) ((mem_reach hv).2 hr)
theorem headV_yes {g : List Bl} (hv : validB g = true) : headV g = namesAt g (headL g) := by unfold headV; rw [if_pos hv]
theorem headV_small {g : List Bl} (hv : validB g = true) : (headV g).size = (headL g).length ∧ (headV g).size ≤ 26 := by
  have h := namesAt_size hv _ (head_lt (g := g))
  rw [headV_yes hv]
  exact ⟨h, by have := head_small hv; omega⟩
theorem loopV_small (g : List Bl) (s : ByteArray) : (loopV g s).size ≤ 26 := by
  cases h : headOf g s with
  | none => rw [loopV_none h]; decide
  | some x =>
    obtain ⟨hv, hh, _⟩ := headOf_nm h
    rw [loopV_some h, namesAt_size hv _ (loopL_lt x)]
    exact loop_small hv x
end Go.Proofs.Ytdolbmonmkjajaa
