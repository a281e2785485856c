/-
  The program's functions over parts.
-/
import Derived.Test.YtdpjdhllaokbfaaNestOf
namespace Go.Proofs.Ytdpjdhllaokbfaa
open Go.RowKit Go.Sort Go.Shelf

/-- The nest of a graph, valid or not. -/
def NestAny (w : World) (TB : Nat) (g : List Bl) : Prop := (validB g = true ∧ ∃ NB K, NestR w TB NB g K) ∨ (validB g = false ∧ Blk w TB 52 #[.slice none 0 0, .slice none 0 0])
theorem NestAny.below {w w' : World} {TB : Nat} {g : List Bl} (h : NestAny w TB g) (hb : Below w.heap.size w w') : NestAny w' TB g := by
  rcases h with ⟨h1, NB, K, h2⟩ | ⟨h1, h2⟩
  · exact .inl ⟨h1, NB, K, h2.below hb⟩
  · exact .inr ⟨h1, h2.below hb h2.lt⟩
theorem nestOf_any (A : Option Addr) (cap : Nat) (g : List Bl) (w : World) (hg : Gr w A g) (hn : g.length + tot g ≤ 1048576) : Calls Try.prog 13 #[.slice A g.length cap] w fun e w' => ∃ TB, e = .returned (.tuple #[.pointer (some ⟨TB, 0, none⟩), .bool (validB g)]) ∧ NestAny w' TB g ∧ Below w.heap.size w w' := by
  cases hv : validB g with
  | true => exact (nestOf_yes A cap g w hg hn hv).mono fun e w' ⟨TB, NB, K, h1, h2, h3⟩ => ⟨TB, h1, .inl ⟨hv, NB, K, h2⟩, h3⟩
  | false => exact (nestOf_no A cap g w hg hn hv).mono fun e w' ⟨TB, h1, h2, h3⟩ => ⟨TB, h1, .inr ⟨hv, h2⟩, h3⟩

/-- A part, or none, as a pointer. -/
def PartX (w : World) (g : List Bl) : Option PT → Value → Prop
  | none, v => v = .pointer none
  | some r, v => ∃ b NB K, v = .pointer (some ⟨b, 0, none⟩) ∧ NIAt w K NB r.ni (.iface 40 (.pointer (some ⟨b, 0, none⟩))) ∧ NodesIn w NB g ∧ (∀ k, K k → k < w.heap.size) ∧ GoodP g r ∧ validB g = true
def outerV (g : List Bl) (s : ByteArray) : Option PT := if validB g then outerO g (nestG g) s else none
def brokenV (g : List Bl) : Option PT := if validB g then brokenO (nestG g) else none
theorem outerV_good {g : List Bl} {s : ByteArray} {r : PT} (h : outerV g s = some r) : validB g = true ∧ r ∈ outerP (nestG g) ∧ GoodP g r := by
  unfold outerV at h
  cases hv : validB g with
  | true =>
    rw [hv] at h
    have := List.mem_of_find?_eq_some (h : outerO g (nestG g) s = some r)
    exact ⟨rfl, this, nestG_good hv r (outerP_all this)⟩
  | false => rw [hv] at h; cases h
theorem brokenV_good {g : List Bl} {r : PT} (h : brokenV g = some r) : validB g = true ∧ GoodP g r := by
  unfold brokenV at h
  cases hv : validB g with
  | true =>
    rw [hv] at h
    have := List.mem_of_find?_eq_some (h : brokenO (nestG g) = some r)
    exact ⟨rfl, nestG_good hv r this⟩
  | false => rw [hv] at h; cases h

theorem outerParts_nil (w : World) : Calls Try.prog 22 #[.slice none 0 0] w fun e w' => ∃ A' c', e = .returned (.slice A' 0 c') ∧ Below w.heap.size w w' :=
  (outerParts_any 0 [] none 0 (fun _ => False) w (by decide) (fun _ h => h.elim) (NIsAt.nil _ _ _ _)).mono fun e w' ⟨A', c', h1, _, h3⟩ => ⟨A', c', h1, h3⟩

set_option maxRecDepth 100000 in
theorem outerPart_all (TB : Nat) (g : List Bl) (s : ByteArray) (w : World) (hT : NestAny w TB g) :
    Calls Try.prog 14 #[.pointer (some ⟨TB, 0, none⟩), .string s] w fun e w' => ∃ v, e = .returned v ∧ PartX w' g (outerV g s) v ∧ Below w.heap.size w w' := by
  rcases hT with ⟨hv, NB, K, h⟩ | ⟨hv, h⟩
  · refine (outerPart_any TB NB g K s w hv h).mono fun e w' ⟨v, h1, h2, h3⟩ => ⟨v, h1, ?_, h3⟩
    have e : outerV g s = outerO g (nestG g) s := by unfold outerV; rw [if_pos hv]
    rw [e]
    cases ho : outerO g (nestG g) s with
    | none => rw [ho] at h2; exact h2
    | some r =>
      rw [ho] at h2
      obtain ⟨b, h4, h5⟩ := h2
      exact ⟨b, NB, K, h4, h5, h.nodes.below h3, fun k hk => by have := h.low k hk; have := h3.size; omega, (outerV_good (e.trans ho)).2.2, hv⟩
  · have c1 := h.cell 1
    have HO := Lib.hid (outerParts_nil w)
    have HE := Lib.hid (show outerV g s = none by unfold outerV; rw [if_neg (by rw [hv]; simp)])
    clear h hv
    go_enter Try.func14, Try.ntmps14
    go_wp2_with fail
    refine HO.out.mono ?_
    rintro e w1 ⟨A1, c1, rfl, hb⟩
    have HB := Lib.hid hb
    clear hb
    go_wp2_with fail
    go_loop [13] (fun i => i = .int .i64 0) (fun i => 0)
    case atStart => exact rfl
    case round =>
      subst hrel
      go_wp2_with fail
      go_ret
      exact ⟨_, rfl, by rw [HE.out]; rfl, HB.out⟩

/-- A part laid open. -/
structure Opened (w : World) (g : List Bl) (b NB : Nat) (r : PT) (A1 : Option Addr) (c1 : Nat) (A2 : Option Addr) (c2 : Nat) (A3 : Option Addr) (c3 : Nat) (K : Nat → Prop) : Prop where
  blk : Blk w b 59 #[.slice A1 r.1.length c1, .slice A2 r.2.1.length c2, .slice A3 r.2.2.length c3]
  bs : Pts w A1 (nodesAt NB g r.1)
  ds : Pts w A2 (nodesAt NB g r.2.1)
  ws : NIsAt w K NB r.2.2 A3
theorem pts_of {w : World} {K : Nat → Prop} {A : Option Addr} {NB : Nat} {g : List Bl} {P : List Nat} (h : PtsK w K A NB P) (hN : NodesIn w NB g) (hg : ∀ x ∈ P, x < g.length) : Pts w A (nodesAt NB g P) := fun hp => by
  obtain ⟨b, off, e, _, hbl, hc⟩ := h (by rw [nodesAt_length] at hp; exact hp)
  refine ⟨b, off, e, hbl, fun k hk => ?_⟩
  rw [nodesAt_length] at hk
  have hget : (nodesAt NB g P)[k]'(by rw [nodesAt_length]; exact hk) = (nb NB P[k], nthName g P[k]) := by simp [nodesAt]
  have hkg := hg P[k] (List.getElem_mem hk)
  have hn1 := hN _ hkg
  rw [hget]
  exact ⟨hc k hk, hn1.lt, by rw [hn1.cell 1, nthName_at hkg]; rfl⟩
theorem opened {w : World} {g : List Bl} {b NB : Nat} {r : PT} {K : Nat → Prop} (h : NIAt w K NB r.ni (.iface 40 (.pointer (some ⟨b, 0, none⟩)))) (hN : NodesIn w NB g) (hG : GoodP g r) : ∃ A1 c1 A2 c2 A3 c3, Opened w g b NB r A1 c1 A2 c2 A3 c3 K := by
  obtain ⟨P, D, W⟩ := r
  unfold PT.ni NIAt at h
  obtain ⟨b', A1, c1, A2, c2, A3, c3, vs, hv7, h1, h2, h3, h4, h5, h6, h7⟩ := h
  simp only [Value.iface.injEq, Value.pointer.injEq, Option.some.injEq, Addr.mk.injEq, and_true, true_and] at hv7
  subst hv7
  refine ⟨A1, c1, A2, c2, A3, c3, h2, pts_of h3 hN hG.lt, pts_of h4 hN fun x hx => ?_, vs, h5, h6, h7⟩
  have : D = doorsL g P := hG.doors
  rw [this] at hx
  exact hG.lt x (doorsL_sub hx)
theorem GoodP.dlt {g : List Bl} {r : PT} (h : GoodP g r) : ∀ x ∈ r.2.1, x < g.length := fun x hx => by rw [h.doors] at hx; exact h.lt x (doorsL_sub hx)
theorem GoodP.dlen {g : List Bl} (hv : validB g = true) {r : PT} (h : GoodP g r) : r.2.1.length ≤ 26 := by
  rw [h.doors]; exact Nat.le_trans (List.length_filter_le _ _) (h.len hv)

def partsV (g : List Bl) : List ByteArray := if validB g then partNs g (outerP (nestG g)) else []
def textO (f : PT → ByteArray) : Option PT → ByteArray | none => ⟨#[]⟩ | some r => f r




/-- Is a graph nested? -/
def nestedB (g : List Bl) : Bool := validB g && (brokenV g).isNone
/-- Do two blocks come to each other? -/
def goRoundB (g : List Bl) (a b : ByteArray) : Bool := match outerV g a with | none => false | some r => hasB g r b
set_option maxRecDepth 100000 in
theorem implGoRound_any (A : Option Addr) (cap : Nat) (g : List Bl) (s t : ByteArray) (w : World) (hg : Gr w A g) (hn : g.length + tot g ≤ 1048576) :
    Calls Try.prog 7 #[.slice A g.length cap, .string s, .string t] w fun e w' => e = .returned (.bool (goRoundB g s t)) ∧ Below w.heap.size w w' := by
  have HC := Lib.hid (nestOf_any A cap g w hg hn)
  clear hg
  go_enter Try.func7, Try.ntmps7
  go_wp2_with fail
  refine HC.out.mono ?_
  rintro e w1 ⟨TB, rfl, hT, b1⟩
  have HB1 := Lib.hid b1
  have HO := Lib.hid (outerPart_all TB g s w1 hT)
  clear b1 hT
  go_wp2_with fail
  refine HO.out.mono ?_
  rintro e w2 ⟨v, rfl, hx, b2⟩
  have HB2 := Lib.hid (HB1.out.trans (b2.mono HB1.out.size))
  clear b2
  cases ho : outerV g s with
  | none =>
    rw [ho] at hx
    unfold PartX at hx
    subst hx
    have HE := Lib.hid (show goRoundB g s t = false by unfold goRoundB; rw [ho])
    have hneq := fun w => run_neq_nil_ptr2 (P := Try.prog) w Try.underlying40
    clear ho
    go_wp2_with fail
    go_ret
    exact ⟨ret_bool HE.out.symm, HB2.out⟩
  | some r =>
    rw [ho] at hx
    unfold PartX at hx
    obtain ⟨b, NB, K, rfl, h1, h2, h3, h4, hv⟩ := hx
    have HH := Lib.hid (has2_any NB b g r K t w2 h1 h2 h4.lt (by have := h4.len hv; omega))
    have HE := Lib.hid (show goRoundB g s t = hasB g r t by unfold goRoundB; rw [ho])
    have hneq := fun w => run_neq_ptr_nil (P := Try.prog) w (b := ⟨b, 0, none⟩) Try.underlying40
    clear ho h1 h2 h3 h4 hv
    go_wp2_with fail
    refine HH.out.mono ?_
    rintro e w3 ⟨rfl, rfl⟩
    go_wp2_with fail
    go_ret
    exact ⟨ret_bool HE.out.symm, HB2.out⟩

/-- The part whose only door a block is. -/
def innerB (g : List Bl) (s : ByteArray) (r : PT) : Bool := decide (r.2.1.length = 1) && decide (nthName g (r.2.1.headD 0) = s)
def innerO (g : List Bl) (items : List NI) (s : ByteArray) : Option PT := (allP items).find? (innerB g s)
def innerV (g : List Bl) (s : ByteArray) : Option PT := if validB g then innerO g (nestG g) s else none
def innerNs (g : List Bl) : Option PT → List ByteArray | none => [] | some r => partNs g (outerP r.2.2)
theorem mem_wt : ∀ (n : Nat) (xs : List NI), wtL xs ≤ n → ∀ r ∈ allP xs, wtL r.2.2 ≤ n ∧ ∀ q ∈ allP r.2.2, q ∈ allP xs
  | 0, xs, h, r, hr => by
    have e : xs = [] := List.eq_nil_of_length_eq_zero (by have := wtL_length xs; omega)
    subst e; rw [allP_nil] at hr; cases hr
  | n + 1, xs, h, r, hr => by
    obtain ⟨x, hx, hxr⟩ := mem_allP.1 hr
    have hw := wtL_mem hx
    cases x with
    | blk i => rw [partsN_blk] at hxr; cases hxr
    | part P D W =>
      rw [partsN_part] at hxr
      rw [wtN_part] at hw
      have hin : ∀ q ∈ allP W, q ∈ allP xs := fun q hq => mem_allP.2 ⟨_, hx, by rw [partsN_part]; exact List.mem_cons_of_mem _ hq⟩
      rcases List.mem_cons.1 hxr with rfl | hxr
      · exact ⟨by show wtL W ≤ n + 1; omega, hin⟩
      · obtain ⟨h1, h2⟩ := mem_wt n W (by omega) r hxr
        exact ⟨by omega, fun q hq => hin q (h2 q hq)⟩

/-- In how many parts a block is. -/
def levelV (g : List Bl) (s : ByteArray) : Int := if (named g (reachS g) s).isNone || !nestedB g then -1 else (((allP (nestG g)).countP fun r => hasB g r s : Nat) : Int)
theorem countP_take {p : PT → Bool} {l : List PT} {k : Nat} (h : k < l.length) : (l.take (k + 1)).countP p = (l.take k).countP p + (if p l[k] then 1 else 0) := by
  rw [List.take_succ_eq_append_getElem h, List.countP_append, List.countP_singleton]
end Go.Proofs.Ytdpjdhllaokbfaa
