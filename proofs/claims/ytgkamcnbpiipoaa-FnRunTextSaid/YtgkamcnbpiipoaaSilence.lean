/-
  Silent stretches: a run as single steps over what is around; a stretch that ends comes to no place twice, so it is short.
-/
import Derived.Test.YtgkamcnbpiipoaaRunVal
namespace Go.Proofs.Ytgkamcnbpiipoaa

/-- What is around: the items behind it, and which frame it is. -/
structure Ent where
  rest : List It
  fr : Option (Bool × List It)

/-- Where a run is: at items within what is around, or leaving so many frames more; and the number. -/
inductive Sh
  | pl (l : List It) (K : List Ent) (m : Nat)
  | out (n : Nat) (K : List Ent) (m : Nat)

/-- Where it goes on silently. -/
def nx : Sh → Option Sh
  | .pl [] [] _ => none
  | .pl [] (e :: K) m => some (.pl e.rest K m)
  | .pl (.frame b d :: l) K m => some (.pl d (⟨l, some (b, d)⟩ :: K) m)
  | .pl (.leave n :: _) K m => some (.out n K m)
  | .pl (.set n :: l) K _ => some (.pl l K n)
  | .pl (.pick bs :: l) K m => match bs[m]? with
    | some b => some (.pl b (⟨l, none⟩ :: K) m)
    | none => some (.pl l K m)
  | .pl (.blk _ :: _) _ _ => none
  | .pl (.ask .. :: _) _ _ => none
  | .pl (.stop :: _) _ _ => none
  | .out _ [] _ => none
  | .out n (⟨_, none⟩ :: K) m => some (.out n K m)
  | .out 0 (⟨r, some (true, d)⟩ :: K) m => some (.pl d (⟨r, some (true, d)⟩ :: K) m)
  | .out 0 (⟨r, some (false, _)⟩ :: K) m => some (.pl r K m)
  | .out (n + 1) (⟨_, some _⟩ :: K) m => some (.out n K m)

/-- Is a step made there? -/
def Sh.cost : Sh → Nat
  | .pl (_ :: _) _ _ => 1
  | .out 0 (⟨_, some (true, _)⟩ :: _) _ => 1
  | _ => 0
def Sh.num : Sh → Nat
  | .pl _ _ m => m
  | .out _ _ m => m

mutual
/-- The places where a step is made. -/
def csL (m : Nat) : List It → List Ent → List Sh
  | [], _ => []
  | i :: l, K => .pl (i :: l) K m :: (csI m i l K ++ csL m l K)
def csI (m : Nat) : It → List It → List Ent → List Sh
  | .blk _, _, _ => []
  | .ask _ a r, l, K => csL m a (⟨l, none⟩ :: K) ++ csL m r (⟨l, none⟩ :: K)
  | .stop, _, _ => []
  | .frame b d, l, K => .out 0 (⟨l, some (b, d)⟩ :: K) m :: csL m d (⟨l, some (b, d)⟩ :: K)
  | .leave _, _, _ => []
  | .set _, _, _ => []
  | .pick bs, l, K => csB m bs (⟨l, none⟩ :: K)
def csB (m : Nat) : List (List It) → List Ent → List Sh
  | [], _ => []
  | b :: bs, K => csL m b K ++ csB m bs K
end

mutual
theorem csL_len (m : Nat) : ∀ (l : List It) (K : List Ent), (csL m l K).length ≤ (txL l).length
  | [], K => by rw [csL]; exact Nat.zero_le _
  | i :: l, K => by
    rw [csL, txL]
    have h1 := csI_len m i l K
    have h2 := csL_len m l K
    simp only [List.length_cons, List.length_append]
    omega
theorem csI_len (m : Nat) : ∀ (i : It) (l : List It) (K : List Ent), (csI m i l K).length + 1 ≤ (txI i).length
  | .blk c, l, K => by rw [csI, txI]; exact Nat.le_refl _
  | .ask c a r, l, K => by
    rw [csI, txI]
    have h1 := csL_len m a (⟨l, none⟩ :: K)
    have h2 := csL_len m r (⟨l, none⟩ :: K)
    simp only [List.length_cons, List.length_append, List.length_nil]
    omega
  | .stop, l, K => by rw [csI, txI]; exact Nat.le_refl _
  | .frame b d, l, K => by
    rw [csI, txI]
    have h1 := csL_len m d (⟨l, some (b, d)⟩ :: K)
    simp only [List.length_cons, List.length_append, List.length_nil]
    omega
  | .leave n, l, K => by rw [csI, txI]; simp
  | .set n, l, K => by rw [csI, txI]; simp
  | .pick bs, l, K => by
    rw [csI, txI]
    have h1 := csB_len m bs (⟨l, none⟩ :: K)
    simp only [List.length_cons]
    omega
theorem csB_len (m : Nat) : ∀ (bs : List (List It)) (K : List Ent), (csB m bs K).length ≤ (txB bs).length
  | [], K => by rw [csB]; exact Nat.zero_le _
  | b :: bs, K => by
    rw [csB, txB]
    have h1 := csL_len m b K
    have h2 := csB_len m bs K
    simp only [List.length_cons, List.length_append]
    omega
end
theorem csB_get (m : Nat) (K : List Ent) : ∀ {bs : List (List It)} {k : Nat} {b : List It}, bs[k]? = some b → ∀ x, x ∈ csL m b K → x ∈ csB m bs K
  | [], k, b, h, x, hx => by simp at h
  | a :: bs, 0, b, h, x, hx => by simp at h; subst h; rw [csB]; exact List.mem_append_left _ hx
  | a :: bs, k + 1, b, h, x, hx => by rw [csB]; exact List.mem_append_right _ (csB_get m K (bs := bs) (by simpa using h) x hx)

/-- All of these places, with each number. -/
def csAll (l : List It) : List Sh := (List.range 10).flatMap (fun m => csL m l [])
theorem csAll_len (l : List It) : (csAll l).length ≤ 10 * (txL l).length := by
  unfold csAll
  have : ∀ n, ((List.range n).flatMap (fun m => csL m l [])).length ≤ n * (txL l).length := by
    intro n
    induction n with
    | zero => simp
    | succ n ih =>
      rw [List.range_succ, List.flatMap_append, List.length_append]
      have := csL_len n l []
      simp only [List.flatMap_cons, List.flatMap_nil, List.append_nil]
      rw [Nat.succ_mul]
      omega
  exact this 10

/-- All of some items' places are among some, and their numbers are small. -/
def GL (L : List Sh) (l : List It) (K : List Ent) : Prop := (∃ f, OkL l f) ∧ ∀ m, m < 10 → ∀ x, x ∈ csL m l K → x ∈ L
def GK (L : List Sh) : List Ent → Prop
  | [] => True
  | e :: K => GL L e.rest K ∧ (∀ b d, e.fr = some (b, d) → GL L d (e :: K) ∧ ∀ m, m < 10 → Sh.out 0 (e :: K) m ∈ L) ∧ GK L K
def Good (L : List Sh) : Sh → Prop
  | .pl l K m => GL L l K ∧ GK L K ∧ m < 10
  | .out _ K m => GK L K ∧ m < 10

theorem GL.tail {L : List Sh} {i : It} {l : List It} {K : List Ent} (h : GL L (i :: l) K) : GL L l K := by
  obtain ⟨⟨f, hf⟩, h⟩ := h
  rw [OkL] at hf
  exact ⟨⟨f, hf.2⟩, fun m hm x hx => h m hm x (by rw [csL]; exact List.mem_cons_of_mem _ (List.mem_append_right _ hx))⟩
theorem GL.inner {L : List Sh} {i : It} {l : List It} {K : List Ent} (h : GL L (i :: l) K) : (∃ f, OkI i f) ∧ ∀ m, m < 10 → ∀ x, x ∈ csI m i l K → x ∈ L := by
  obtain ⟨⟨f, hf⟩, h⟩ := h
  rw [OkL] at hf
  exact ⟨⟨f, hf.1⟩, fun m hm x hx => h m hm x (by rw [csL]; exact List.mem_cons_of_mem _ (List.mem_append_left _ hx))⟩

theorem Good.nx {L : List Sh} {x y : Sh} (h : Good L x) (e : nx x = some y) : Good L y := by
  match x, h, e with
  | .pl [] [] _, h, e => cases e
  | .pl [] (n :: K) m, h, e =>
    injection e with e; subst e
    exact ⟨h.2.1.1, h.2.1.2.2, h.2.2⟩
  | .pl (.frame b d :: l) K m, h, e =>
    injection e with e; subst e
    obtain ⟨⟨f, hf⟩, hi⟩ := h.1.inner
    rw [OkI] at hf
    have hd : GL L d (⟨l, some (b, d)⟩ :: K) := ⟨⟨_, hf.2⟩, fun m hm x hx => hi m hm x (by rw [csI]; exact List.mem_cons_of_mem _ hx)⟩
    refine ⟨hd, ⟨h.1.tail, ?_, h.2.1⟩, h.2.2⟩
    intro b' d' e'
    injection e' with e'; injection e' with e1 e2; subst e1; subst e2
    exact ⟨hd, fun m hm => hi m hm _ (by rw [csI]; exact List.mem_cons_self ..)⟩
  | .pl (.leave n :: l) K m, h, e =>
    injection e with e; subst e
    exact ⟨h.2.1, h.2.2⟩
  | .pl (.set n :: l) K m, h, e =>
    injection e with e; subst e
    obtain ⟨⟨f, hf⟩, hi⟩ := h.1.inner
    rw [OkI] at hf
    exact ⟨h.1.tail, h.2.1, hf⟩
  | .pl (.pick bs :: l) K m, h, e =>
    obtain ⟨⟨f, hf⟩, hi⟩ := h.1.inner
    rw [OkI] at hf
    rw [Go.Proofs.Ytgkamcnbpiipoaa.nx] at e
    cases hb : bs[m]? with
    | none => rw [hb] at e; injection e with e; subst e; exact ⟨h.1.tail, h.2.1, h.2.2⟩
    | some b =>
      rw [hb] at e; injection e with e; subst e
      refine ⟨⟨⟨f, okB_get hf.2.2 hb⟩, fun m' hm' x hx => hi m' hm' x (by rw [csI]; exact csB_get m' _ hb x hx)⟩, ⟨h.1.tail, ?_, h.2.1⟩, h.2.2⟩
      intro b' d' e'
      cases e'
  | .pl (.blk _ :: _) _ _, h, e => cases e
  | .pl (.ask .. :: _) _ _, h, e => cases e
  | .pl (.stop :: _) _ _, h, e => cases e
  | .out _ [] _, h, e => cases e
  | .out 0 (⟨_, none⟩ :: K) m, h, e => injection e with e; subst e; exact ⟨h.1.2.2, h.2⟩
  | .out (n + 1) (⟨_, none⟩ :: K) m, h, e => injection e with e; subst e; exact ⟨h.1.2.2, h.2⟩
  | .out 0 (⟨r, some (true, d)⟩ :: K) m, h, e =>
    injection e with e; subst e
    exact ⟨(h.1.2.1 _ _ rfl).1, h.1, h.2⟩
  | .out 0 (⟨r, some (false, d)⟩ :: K) m, h, e =>
    injection e with e; subst e
    exact ⟨h.1.1, h.1.2.2, h.2⟩
  | .out (n + 1) (⟨_, some (b, _)⟩ :: K) m, h, e =>
    have e : some (Sh.out n K m) = some y := by cases b <;> exact e
    injection e with e; subst e; exact ⟨h.1.2.2, h.2⟩

theorem Good.mem {L : List Sh} {x : Sh} (h : Good L x) (e : x.cost = 1) : x ∈ L := by
  match x, h, e with
  | .pl (i :: l) K m, h, e => exact h.1.2 m h.2.2 _ (by rw [csL]; exact List.mem_cons_self ..)
  | .pl [] K m, h, e => cases K <;> cases e
  | .out 0 (⟨r, some (true, d)⟩ :: K) m, h, e => exact (h.1.2.1 _ _ rfl).2 m h.2
  | .out 0 (⟨r, some (false, d)⟩ :: K) m, h, e => cases e
  | .out 0 (⟨r, none⟩ :: K) m, h, e => cases e
  | .out 0 [] m, h, e => cases e
  | .out (n + 1) K m, h, e => cases e
theorem cost_le (x : Sh) : x.cost = 0 ∨ x.cost = 1 := by
  match x with
  | .pl (i :: l) K m => exact .inr rfl
  | .pl [] K m => exact .inl rfl
  | .out 0 (⟨r, some (true, d)⟩ :: K) m => exact .inr rfl
  | .out 0 (⟨r, some (false, d)⟩ :: K) m => exact .inl rfl
  | .out 0 (⟨r, none⟩ :: K) m => exact .inl rfl
  | .out 0 [] m => exact .inl rfl
  | .out (n + 1) K m => exact .inl rfl

/-- A silent way, with the places on it. -/
inductive Way : Sh → List Sh → Sh → Prop
  | nil (x : Sh) : Way x [] x
  | cons {x y z : Sh} {P : List Sh} : nx x = some y → Way y P z → Way x (x :: P) z
theorem Way.snoc {x y z : Sh} {P : List Sh} (h : Way x P y) (e : nx y = some z) : Way x (P ++ [y]) z := by
  induction h with
  | nil x => exact .cons e (.nil _)
  | cons e' _ ih => exact .cons e' (ih e)
theorem Way.det {x y z : Sh} {P Q : List Sh} (h : Way x P y) (h' : Way x Q z) (e : nx y = none) (e' : nx z = none) : P = Q ∧ y = z := by
  induction h generalizing Q z with
  | nil x =>
    cases h' with
    | nil => exact ⟨rfl, rfl⟩
    | cons e1 _ => rw [e] at e1; cases e1
  | cons e1 _ ih =>
    cases h' with
    | nil => rw [e'] at e1; cases e1
    | cons e2 h2 =>
      rw [e1] at e2
      injection e2 with e2; subst e2
      obtain ⟨h3, h4⟩ := ih h2 e e'
      exact ⟨by rw [h3], h4⟩
theorem Way.from_mem {z y : Sh} {P : List Sh} (h : Way z P y) {x : Sh} (hx : x ∈ P) : ∃ Q, Way x Q y ∧ Q.length ≤ P.length := by
  induction h with
  | nil => cases hx
  | @cons a b c P e h ih =>
    rcases List.mem_cons.1 hx with hx | hx
    · subst hx; exact ⟨_, .cons e h, Nat.le_refl _⟩
    · obtain ⟨Q, h1, h2⟩ := ih hx
      exact ⟨Q, h1, by simp only [List.length_cons]; omega⟩
theorem Way.nodup {x y : Sh} {P : List Sh} (h : Way x P y) (e : nx y = none) : (P ++ [y]).Nodup := by
  induction h with
  | nil x => simp
  | @cons a b c P e1 h ih =>
    rw [List.cons_append, List.nodup_cons]
    refine ⟨fun hm => ?_, ih e⟩
    rcases List.mem_append.1 hm with hm | hm
    · obtain ⟨Q, h1, h2⟩ := h.from_mem hm
      have := (Way.det (.cons e1 h) h1 e e).1
      rw [← this] at h2
      simp only [List.length_cons] at h2
      omega
    · rw [List.mem_singleton] at hm
      subst hm
      rw [e] at e1; cases e1
theorem Way.good {L : List Sh} {x y : Sh} {P : List Sh} (h : Way x P y) (hg : Good L x) : Good L y ∧ ∀ z, z ∈ P → Good L z := by
  induction h with
  | nil x => exact ⟨hg, fun z hz => by cases hz⟩
  | cons e1 h ih =>
    obtain ⟨h1, h2⟩ := ih (hg.nx e1)
    refine ⟨h1, fun z hz => ?_⟩
    rcases List.mem_cons.1 hz with hz | hz
    · subst hz; exact hg
    · exact h2 z hz

/-- The steps made on the way. -/
def csum : List Sh → Nat
  | [] => 0
  | x :: P => x.cost + csum P
theorem csum_append (P Q : List Sh) : csum (P ++ Q) = csum P + csum Q := by
  induction P with
  | nil => simp [csum]
  | cons x P ih => rw [List.cons_append, csum, csum, ih]; omega
open Classical in
theorem csum_le {L : List Sh} : ∀ (P : List Sh), P.Nodup → (∀ z, z ∈ P → z.cost = 1 → z ∈ L) → csum P ≤ L.length := by
  intro P
  induction P generalizing L with
  | nil => intro _ _; exact Nat.zero_le _
  | cons x P ih =>
    intro hn hm
    rw [List.nodup_cons] at hn
    rw [csum]
    rcases cost_le x with hc | hc
    · have := ih hn.2 (fun z hz => hm z (List.mem_cons_of_mem _ hz))
      omega
    · have hx := hm x (List.mem_cons_self ..) hc
      have := ih (L := L.erase x) hn.2 (fun z hz hz1 => by
        have h1 := hm z (List.mem_cons_of_mem _ hz) hz1
        have : z ≠ x := fun e => hn.1 (e ▸ hz)
        exact (List.mem_erase_of_ne this).2 h1)
      rw [List.length_erase_of_mem hx] at this
      have := List.length_pos_of_mem hx
      omega
/-- A stretch that ends is short. -/
theorem Way.short {l : List It} {x y : Sh} {P : List Sh} (h : Way x P y) (hg : Good (csAll l) x) (e : nx y = none) : csum P + y.cost ≤ 10 * (txL l).length := by
  have h1 := h.nodup e
  have h2 := h.good hg
  have h3 := csum_le (L := csAll l) _ h1 (fun z hz hc => by
    rcases List.mem_append.1 hz with hz | hz
    · exact (h2.2 z hz).mem hc
    · rw [List.mem_singleton] at hz; subst hz; exact h2.1.mem hc)
  rw [csum_append, csum, csum] at h3
  have := csAll_len l
  omega

/-- A run between two single steps. -/
inductive Cf
  | go (x : Sh) (a t : List UInt8) (i : Nat)
  | dn (e : Nat) (t : List UInt8) (m : Nat)
/-- What a place that is not silent does. -/
def ev : Sh → List UInt8 → List UInt8 → Option Cf
  | .pl (.blk c :: l) K m, a, t => if t.length = 60 then some (.dn 2 t m) else some (.go (.pl l K m) a (t ++ [c]) 0)
  | .pl (.ask c p r :: l) K m, a, t => if t.length = 60 then some (.dn 2 t m) else match a with
    | [] => some (.dn 1 (t ++ [c]) m)
    | x :: a' => some (.go (.pl (if x = 108 then p else r) (⟨l, none⟩ :: K) m) a' (t ++ [c]) 0)
  | .pl (.stop :: _) _ m, _, t => some (.dn 0 t m)
  | .pl [] [] m, _, t => some (.dn 0 t m)
  | .out _ [] m, _, t => some (.dn 0 t m)
  | _, _, _ => none
def mst : Cf → Option Cf
  | .dn .. => none
  | .go x a t i => if x.cost = 1 ∧ i = 4000 then some (.dn 2 t x.num) else match nx x with
    | some y => some (.go y a t (i + x.cost))
    | none => ev x a t
theorem ev_ask (c : UInt8) (p r l : List It) (K : List Ent) (m : Nat) (a t : List UInt8) : ev (.pl (.ask c p r :: l) K m) a t = if t.length = 60 then some (.dn 2 t m) else match a with
    | [] => some (.dn 1 (t ++ [c]) m)
    | x :: a' => some (.go (.pl (if x = 108 then p else r) (⟨l, none⟩ :: K) m) a' (t ++ [c]) 0) := rfl
theorem nx_outS (n : Nat) (r : List It) (b : Bool) (d : List It) (K : List Ent) (m : Nat) : nx (.out (n + 1) (⟨r, some (b, d)⟩ :: K) m) = some (.out n K m) := by cases b <;> rfl
inductive MW : Cf → Cf → Prop
  | nil (c : Cf) : MW c c
  | cons {c d e : Cf} : mst c = some d → MW d e → MW c e
theorem MW.trans {c d e : Cf} (h : MW c d) (h' : MW d e) : MW c e := by
  induction h with
  | nil => exact h'
  | cons e1 _ ih => exact .cons e1 (ih h')
theorem MW.one {c d : Cf} (h : mst c = some d) : MW c d := .cons h (.nil _)
theorem MW.det {c d d' : Cf} (h : MW c d) (h' : MW c d') (e : mst d = none) (e' : mst d' = none) : d = d' := by
  induction h with
  | nil c =>
    cases h' with
    | nil => rfl
    | cons e1 _ => rw [e] at e1; cases e1
  | cons e1 _ ih =>
    cases h' with
    | nil => rw [e'] at e1; cases e1
    | cons e2 h2 =>
      rw [e1] at e2
      injection e2 with e2; subst e2
      exact ih h2 e
theorem MW.uniq {c : Cf} {e e' m m' : Nat} {t t' : List UInt8} (h : MW c (.dn e t m)) (h' : MW c (.dn e' t' m')) : e = e' ∧ t = t' ∧ m = m' := by
  have := MW.det h h' rfl rfl
  injection this with h1 h2 h3
  exact ⟨h1, h2, h3⟩

def cfp (l : List It) (K : List Ent) (s : RSt) : Cf := .go (.pl l K s.num) s.left s.trace s.idle
def cfx (l : List It) (K : List Ent) : ROut → Cf
  | .next s => cfp l K s
  | .leave n s => .go (.out n K s.num) s.left s.trace s.idle
  | .fin e t m => .dn e t m
def Sim (t : Tk) (s : RSt) (o : ROut) : Prop := match t with
  | .l xs => ∀ K, MW (cfp xs K s) (cfx [] K o)
  | .i i => ∀ l K s0, s = s0.step → s0.idle ≠ 4000 → MW (cfp (i :: l) K s0) (cfx l K o)
  | .f b d => ∀ l K, MW (cfp d (⟨l, some (b, d)⟩ :: K) s) (cfx l K o)

theorem ms_nx {x y : Sh} {a t : List UInt8} {i : Nat} (hi : i ≠ 4000) (h : nx x = some y) : mst (.go x a t i) = some (.go y a t (i + x.cost)) := by
  rw [mst, if_neg (fun e => hi e.2), h]
theorem ms_nx0 {x y : Sh} {a t : List UInt8} {i : Nat} (hc : x.cost = 0) (h : nx x = some y) : mst (.go x a t i) = some (.go y a t i) := by
  rw [mst, if_neg (fun e => by rw [hc] at e; cases e.1), h, hc]; rfl
theorem ms_ev {x : Sh} {a t : List UInt8} {i : Nat} (hi : i ≠ 4000) (h : nx x = none) : mst (.go x a t i) = ev x a t := by
  rw [mst, if_neg (fun e => hi e.2), h]
theorem ms_long {x : Sh} {a t : List UInt8} {i : Nat} (hi : i = 4000) (h : x.cost = 1) : mst (.go x a t i) = some (.dn 2 t x.num) := by
  rw [mst, if_pos ⟨h, hi⟩]

/-- Out of brackets. -/
theorem cfx_out (l : List It) (K : List Ent) (o : ROut) : MW (cfx [] (⟨l, none⟩ :: K) o) (cfx l K o) := by
  cases o with
  | next s => exact .one (ms_nx0 rfl rfl)
  | leave n s =>
    refine .one (ms_nx0 ?_ ?_)
    · cases n <;> rfl
    · cases n <;> rfl
  | fin e t m => exact .nil _

theorem run_sim : ∀ (N : Nat) (t : Tk) (s : RSt) (o : ROut), run N t s = some o → Sim t s o := by
  intro N
  induction N with
  | zero => intro t s o h; cases h
  | succ N ih =>
    intro t s o h
    match t, h with
    | .l [], h => rw [run] at h; injection h with h; subst h; exact fun K => .nil _
    | .l (i :: l), h =>
      rw [run] at h
      intro K
      split at h
      · rename_i hi; injection h with h; subst h; exact .one (ms_long hi rfl)
      · rename_i hi
        cases hr : run N (.i i) s.step with
        | none => rw [hr] at h; cases h
        | some r =>
          have h2 := ih _ _ _ hr l K s rfl hi
          rw [hr] at h
          cases r with
          | next s' => exact h2.trans (ih _ _ _ h K)
          | leave n s' => injection h with h; subst h; exact h2
          | fin e t m => injection h with h; subst h; exact h2
    | .i (.blk c), h =>
      rw [run] at h
      intro l K s0 e hi
      subst e
      refine .one ((ms_ev hi rfl).trans ?_)
      rw [ev]
      split at h
      · rename_i hl
        have hl : s0.trace.length = 60 := hl
        rw [if_pos hl]; injection h with h; subst h; rfl
      · rename_i hl
        have hl : ¬ s0.trace.length = 60 := hl
        rw [if_neg hl]; injection h with h; subst h; rfl
    | .i (.ask c p r), h =>
      rw [run] at h
      intro l K s0 e hi
      subst e
      split at h
      · rename_i hl; injection h with h; subst h
        have hl : s0.trace.length = 60 := hl
        refine .one ((ms_ev hi rfl).trans ?_)
        rw [ev_ask, if_pos hl]; rfl
      · rename_i hl
        have hl : ¬ s0.trace.length = 60 := hl
        cases ha : s0.left with
        | nil =>
          have ha' : s0.step.left = [] := ha
          rw [ha'] at h; injection h with h; subst h
          refine .one ((ms_ev hi rfl).trans ?_)
          rw [ev_ask, if_neg hl, ha]; rfl
        | cons x t =>
          have ha' : s0.step.left = x :: t := ha
          rw [ha'] at h
          refine .cons ((ms_ev hi rfl).trans (by rw [ev_ask, if_neg hl, ha])) ?_
          exact (ih _ _ _ h (⟨l, none⟩ :: K)).trans (cfx_out l K o)
    | .i .stop, h =>
      rw [run] at h
      intro l K s0 e hi
      subst e
      injection h with h; subst h
      exact .one (ms_ev hi rfl)
    | .i (.frame b d), h =>
      rw [run] at h
      intro l K s0 e hi
      subst e
      exact .cons (ms_nx hi rfl) (ih (.f b d) s0.step o h l K)
    | .i (.leave n), h =>
      rw [run] at h
      intro l K s0 e hi
      subst e
      injection h with h; subst h
      exact .one (ms_nx hi rfl)
    | .i (.set n), h =>
      rw [run] at h
      intro l K s0 e hi
      subst e
      injection h with h; subst h
      exact .one (ms_nx hi rfl)
    | .i (.pick bs), h =>
      rw [run] at h
      intro l K s0 e hi
      subst e
      cases hb : bs[s0.num]? with
      | none =>
        have hb' : bs[s0.step.num]? = none := hb
        rw [hb'] at h; injection h with h; subst h
        exact .one (ms_nx (y := .pl l K s0.num) hi (by rw [nx, hb]))
      | some b =>
        have hb' : bs[s0.step.num]? = some b := hb
        rw [hb'] at h
        refine .cons (ms_nx (y := .pl b (⟨l, none⟩ :: K) s0.num) hi (by rw [nx, hb])) ?_
        exact (ih (.l b) s0.step o h (⟨l, none⟩ :: K)).trans (cfx_out l K o)
    | .f b d, h =>
      rw [run] at h
      intro l K
      cases hr : run N (.l d) s with
      | none => rw [hr] at h; cases h
      | some r =>
        have h2 := ih _ _ _ hr (⟨l, some (b, d)⟩ :: K)
        rw [hr] at h
        cases r with
        | next s' => injection h with h; subst h; exact h2.trans (.one (ms_nx0 rfl rfl))
        | fin e t m => injection h with h; subst h; exact h2
        | leave n s' =>
          cases n with
          | succ n => injection h with h; subst h; exact h2.trans (.one (ms_nx0 rfl (nx_outS ..)))
          | zero =>
            simp only at h
            split at h
            · rename_i hb
              subst hb
              split at h
              · rename_i hi; injection h with h; subst h; exact h2.trans (.one (ms_long hi rfl))
              · rename_i hi
                exact h2.trans (.cons (ms_nx hi rfl) (ih (.f true d) s'.step o h l K))
            · rename_i hb
              injection h with h; subst h
              cases b with
              | true => exact absurd rfl hb
              | false => exact h2.trans (.one (ms_nx0 rfl rfl))

/-- A run of a text's items comes to its outcome by single steps. -/
theorem Runs.mw {l : List It} {s : RSt} {o : ROut} (h : Runs (.l l) s o) : MW (cfp l [] s) (.dn o.code o.trace o.num) := by
  obtain ⟨N, h⟩ := h
  have h1 := run_sim N _ _ _ h []
  cases o with
  | next s' => exact h1.trans (.one (by rw [cfx, cfp, mst, if_neg (fun e => by cases e.1)]; rfl))
  | leave n s' => exact h1.trans (.one (by rw [cfx, mst, if_neg (fun e => by cases n <;> cases e.1)]; cases n <;> rfl))
  | fin e t m => exact h1

theorem good0 {l : List It} {f : Nat} (h : OkL l f) {m : Nat} (hm : m < 10) : Good (csAll l) (.pl l [] m) := by
  refine ⟨⟨⟨f, h⟩, fun k hk x hx => ?_⟩, trivial, hm⟩
  unfold csAll
  rw [List.mem_flatMap]
  exact ⟨k, List.mem_range.2 hk, hx⟩

theorem MW.way {x y : Sh} {P : List Sh} (h : Way x P y) (a t : List UInt8) : ∀ (i : Nat), i + csum P ≤ 4000 → MW (.go x a t i) (.go y a t (i + csum P)) ∨ (∃ z, z ∈ P ∧ z.cost = 1 ∧ i + csum P = 4000) := by
  induction h with
  | nil x => intro i hi; exact .inl (.nil _)
  | @cons x y z P e h ih =>
    intro i hi
    rw [csum] at hi ⊢
    by_cases h4 : i = 4000
    · have : x.cost = 0 := by omega
      rcases ih i (by omega) with h1 | ⟨z, h1, h2, h3⟩
      · exact .inl (.cons (ms_nx0 this e) (by rw [this, Nat.zero_add]; exact h1))
      · exact .inr ⟨z, List.mem_cons_of_mem _ h1, h2, by omega⟩
    · rcases ih (i + x.cost) (by omega) with h1 | ⟨z, h1, h2, h3⟩
      · exact .inl (.cons (ms_nx h4 e) (by rw [← Nat.add_assoc]; exact h1))
      · exact .inr ⟨z, List.mem_cons_of_mem _ h1, h2, by omega⟩
theorem MW.way_lt {x y : Sh} {P : List Sh} (h : Way x P y) (a t : List UInt8) {i : Nat} (hi : i + csum P < 4000) : MW (.go x a t i) (.go y a t (i + csum P)) := by
  rcases MW.way h a t i (by omega) with h | ⟨_, _, _, h⟩
  · exact h
  · omega
/-- A stretch that never ends gets too long, and does nothing. -/
theorem MW.forever {c : Cf} {e : Nat} {u : List UInt8} {m : Nat} (h : MW c (.dn e u m)) : ∀ (x : Sh) (a t : List UInt8) (i : Nat), c = .go x a t i → (¬ ∃ P y, Way x P y ∧ nx y = none) → e = 2 ∧ u = t := by
  generalize hd : Cf.dn e u m = d at h
  induction h with
  | nil c => intro x a t i hc; subst hc; cases hd
  | cons e1 h ih =>
    intro x a t i hc hn
    subst hc
    rw [mst] at e1
    split at e1
    · injection e1 with e1
      subst e1
      subst hd
      cases h with
      | nil => exact ⟨rfl, rfl⟩
      | cons e2 _ => cases e2
    · cases hx : nx x with
      | none => exact absurd ⟨[], x, .nil _, hx⟩ hn
      | some y =>
        rw [hx] at e1
        injection e1 with e1
        exact ih hd y a t _ e1.symm (fun ⟨P, z, h1, h2⟩ => hn ⟨x :: P, z, .cons hx h1, h2⟩)
/-- One step more or less ahead changes nothing, though it may change when a run is too long. -/
theorem shift {l : List It} {f : Nat} (hok : OkL l f) (hlen : (txL l).length ≤ 202) {s s' : RSt} (hm : s.num < 10) (hi : s.idle ≤ 1000) (hi' : s'.idle ≤ 1000) (e1 : s'.left = s.left) (e2 : s'.trace = s.trace) (e3 : s'.num = s.num) {o o' : ROut} (h : Runs (.l l) s o) (h' : Runs (.l l) s' o') : o'.code = o.code ∧ o'.trace = o.trace := by
  have h1 := h.mw
  have h2 := h'.mw
  rw [cfp] at h1 h2
  rw [e1, e2, e3] at h2
  by_cases hf : ∃ P y, Way (.pl l [] s.num) P y ∧ nx y = none
  · obtain ⟨P, y, hw, hy⟩ := hf
    have hs := hw.short (good0 hok hm) hy
    have a1 := MW.way_lt hw s.left s.trace (i := s.idle) (by omega)
    have a2 := MW.way_lt hw s.left s.trace (i := s'.idle) (by omega)
    have b1 : mst (.go y s.left s.trace (s.idle + csum P)) = ev y s.left s.trace := ms_ev (by omega) hy
    have b2 : mst (.go y s.left s.trace (s'.idle + csum P)) = ev y s.left s.trace := ms_ev (by omega) hy
    cases he : ev y s.left s.trace with
    | none =>
      rw [he] at b1
      have := MW.det a1 h1 b1 rfl
      cases this
    | some c =>
      rw [he] at b1 b2
      cases hc : mst c with
      | none =>
        have k1 := MW.det (a1.trans (.one b1)) h1 hc rfl
        have k2 := MW.det (a2.trans (.one b2)) h2 hc rfl
        rw [k1] at k2
        injection k2 with k2 k3 k4
        exact ⟨k2.symm, k3.symm⟩
      | some _ =>
        have tail : ∀ {p q r : Cf}, MW p q → MW p r → mst r = none → MW q r := by
          intro p q r u v w
          induction u with
          | nil => exact v
          | cons e1 _ ih =>
            cases v with
            | nil => rw [w] at e1; cases e1
            | cons e2 v => rw [e1] at e2; injection e2 with e2; subst e2; exact ih v
        have k1 := tail (a1.trans (.one b1)) h1 rfl
        have k2 := tail (a2.trans (.one b2)) h2 rfl
        obtain ⟨r1, r2, _⟩ := k2.uniq k1
        exact ⟨r1, r2⟩
  · obtain ⟨r1, r2⟩ := MW.forever h1 _ _ _ _ rfl hf
    obtain ⟨r3, r4⟩ := MW.forever h2 _ _ _ _ rfl hf
    exact ⟨by rw [r1, r3], by rw [r2, r4]⟩

/-- Where a run is, and how many steps lie behind the last block. -/
def Inv (L : List Sh) : Cf → Prop
  | .go x _ _ i => ∃ x0 P i0, Way x0 P x ∧ Good L x0 ∧ i0 ≤ 1000 ∧ i = i0 + csum P
  | .dn .. => True
theorem Inv.mst {L : List Sh} {c d : Cf} (h : Inv L c) (e : mst c = some d) : Inv L d := by
  match c, h, e with
  | .dn .., h, e => cases e
  | .go x a t i, h, e =>
    obtain ⟨x0, P, i0, hw, hg, hi, rfl⟩ := h
    rw [Go.Proofs.Ytgkamcnbpiipoaa.mst] at e
    split at e
    · injection e with e; subst e; trivial
    · have hgx := (hw.good hg).1
      cases hx : Go.Proofs.Ytgkamcnbpiipoaa.nx x with
      | some y =>
        rw [hx] at e
        injection e with e; subst e
        exact ⟨x0, P ++ [x], i0, hw.snoc hx, hg, hi, by rw [csum_append, csum, csum]; omega⟩
      | none =>
        rw [hx] at e
        match x, hgx, hx, e with
        | .pl (.blk c :: l) K m, hgx, hx, e =>
          simp only [ev] at e
          split at e
          · injection e with e; subst e; trivial
          · injection e with e; subst e
            exact ⟨_, [], 0, .nil _, ⟨hgx.1.tail, hgx.2.1, hgx.2.2⟩, by omega, rfl⟩
        | .pl (.ask c p r :: l) K m, hgx, hx, e =>
          simp only [ev] at e
          split at e
          · injection e with e; subst e; trivial
          · cases a with
            | nil => injection e with e; subst e; trivial
            | cons z a' =>
              injection e with e; subst e
              obtain ⟨⟨f, hf⟩, hi'⟩ := hgx.1.inner
              rw [OkI] at hf
              refine ⟨_, [], 0, .nil _, ⟨?_, ⟨hgx.1.tail, (fun _ _ e' => by cases e'), hgx.2.1⟩, hgx.2.2⟩, by omega, rfl⟩
              split
              · exact ⟨⟨f, hf.2.1⟩, fun m hm x hx => hi' m hm x (by rw [csI]; exact List.mem_append_left _ hx)⟩
              · exact ⟨⟨f, hf.2.2⟩, fun m hm x hx => hi' m hm x (by rw [csI]; exact List.mem_append_right _ hx)⟩
        | .pl (.stop :: _) _ m, hgx, hx, e => injection e with e; subst e; trivial
        | .pl [] [] m, hgx, hx, e => injection e with e; subst e; trivial
        | .out 0 [] m, hgx, hx, e => injection e with e; subst e; trivial
        | .out (n + 1) [] m, hgx, hx, e => injection e with e; subst e; trivial
        | .pl [] (_ :: _) _, hgx, hx, e => cases hx
        | .pl (.frame .. :: _) _ _, hgx, hx, e => cases hx
        | .pl (.leave _ :: _) _ _, hgx, hx, e => cases hx
        | .pl (.set _ :: _) _ _, hgx, hx, e => cases hx
        | .pl (.pick bs :: _) _ m, hgx, hx, e => rw [nx] at hx; cases hb : bs[m]? <;> rw [hb] at hx <;> cases hx
        | .out 0 (⟨_, none⟩ :: _) _, hgx, hx, e => cases hx
        | .out (n + 1) (⟨_, none⟩ :: _) _, hgx, hx, e => cases hx
        | .out 0 (⟨_, some (true, _)⟩ :: _) _, hgx, hx, e => cases hx
        | .out 0 (⟨_, some (false, _)⟩ :: _) _, hgx, hx, e => cases hx
        | .out (n + 1) (⟨_, some (b, _)⟩ :: _) _, hgx, hx, e => rw [nx_outS] at hx; cases hx
theorem MW.inv {L : List Sh} {c d : Cf} (h : MW c d) (hi : Inv L c) : Inv L d := by
  induction h with
  | nil => exact hi
  | cons e _ ih => exact ih (hi.mst e)
/-- Where a run comes to a text's end, few steps lie behind its last block. -/
theorem idle_end {l : List It} {f : Nat} (hok : OkL l f) (hlen : (txL l).length ≤ 202) {s s' : RSt} (hm : s.num < 10) (hi : s.idle ≤ 1000) (h : Runs (.l l) s (.next s')) : s'.idle < 4000 := by
  obtain ⟨N, h⟩ := h
  have h1 := run_sim N _ _ _ h []
  have h2 : Inv (csAll l) (cfp l [] s) := ⟨_, [], s.idle, .nil _, good0 hok hm, hi, rfl⟩
  obtain ⟨x0, P, i0, hw, hg, hi0, he⟩ := h1.inv h2
  have := hw.short hg rfl
  omega
end Go.Proofs.Ytgkamcnbpiipoaa
