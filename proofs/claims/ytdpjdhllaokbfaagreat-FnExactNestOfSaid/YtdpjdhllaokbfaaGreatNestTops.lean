/-
  The program's functions over parts.
-/
import Derived.Test.YtdpjdhllaokbfaaGreatNestOf
namespace Go.Proofs.YtdpjdhllaokbfaaGreat
open Go.RowKit Go.Sort Go.Shelf

/-- The nest of a graph, valid or not. -/
def NestAny (w : World) (TB : Nat) (g : List Bl) : Prop := (validB g = true ∧ ∃ NB K, NestR w TB NB g K) ∨ (validB g = false ∧ Blk w TB 57 #[.slice none 0 0, .slice none 0 0])
theorem NestAny.below {w w' : World} {TB : Nat} {g : List Bl} (h : NestAny w TB g) (hb : Below w.heap.size w w') : NestAny w' TB g := by
  rcases h with ⟨h1, NB, K, h2⟩ | ⟨h1, h2⟩
  · exact .inl ⟨h1, NB, K, h2.below hb⟩
  · exact .inr ⟨h1, h2.below hb h2.lt⟩
theorem nestOf_any (A : Option Addr) (cap : Nat) (g : List Bl) (w : World) (hg : Gr w A g) (hn : g.length + tot g ≤ 1048576) : Calls Tryz.prog 39 #[.slice A g.length cap] w fun e w' => ∃ TB, e = .returned (.tuple #[.pointer (some ⟨TB, 0, none⟩), .bool (validB g)]) ∧ NestAny w' TB g ∧ Below w.heap.size w w' := by
  cases hv : validB g with
  | true => exact (nestOf_yes A cap g w hg hn hv).mono fun e w' ⟨TB, NB, K, h1, h2, h3⟩ => ⟨TB, h1, .inl ⟨hv, NB, K, h2⟩, h3⟩
  | false => exact (nestOf_no A cap g w hg hn hv).mono fun e w' ⟨TB, h1, h2, h3⟩ => ⟨TB, h1, .inr ⟨hv, h2⟩, h3⟩

/-- A part, or none, as a pointer. -/
def PartX (w : World) (g : List Bl) : Option PT → Value → Prop
  | none, v => v = .pointer none
  | some r, v => ∃ b NB K, v = .pointer (some ⟨b, 0, none⟩) ∧ NIAt w K NB r.ni (.iface 61 (.pointer (some ⟨b, 0, none⟩))) ∧ NodesIn w NB g ∧ (∀ k, K k → k < w.heap.size) ∧ GoodP g r ∧ validB g = true
def outerV (g : List Bl) (s : ByteArray) : Option PT := if validB g then outerO g (nestG g) s else none
def brokenV (g : List Bl) : Option PT := if validB g then brokenO (nestG g) else none
theorem outerV_good {g : List Bl} {s : ByteArray} {r : PT} (h : outerV g s = some r) : validB g = true ∧ r ∈ outerP (nestG g) ∧ GoodP g r := by
  unfold outerV at h
  cases hv : validB g with
  | true =>
    rw [hv] at h
    have := List.mem_of_find?_eq_some (h : outerO g (nestG g) s = some r)
    exact ⟨rfl, this, nestG_good hv r (outerP_all this)⟩
  | false => rw [hv] at h; cases h
theorem brokenV_good {g : List Bl} {r : PT} (h : brokenV g = some r) : validB g = true ∧ GoodP g r := by
  unfold brokenV at h
  cases hv : validB g with
  | true =>
    rw [hv] at h
    have := List.mem_of_find?_eq_some (h : brokenO (nestG g) = some r)
    exact ⟨rfl, nestG_good hv r this⟩
  | false => rw [hv] at h; cases h

theorem allParts_nil (w : World) : Calls Tryz.prog 50 #[.slice none 0 0] w fun e w' => ∃ A' c', e = .returned (.slice A' 0 c') ∧ Below w.heap.size w w' :=
  (allParts_all 0 0 (by decide) [] none 0 (fun _ => False) w (by rw [wtL_nil]; exact Nat.zero_le _) (fun _ h => h.elim) (NIsAt.nil _ _ _ _)).mono fun e w' ⟨A', c', h1, _, h3⟩ => ⟨A', c', by rw [allP_nil] at h1; exact h1, h3⟩
theorem outerParts_nil (w : World) : Calls Tryz.prog 41 #[.slice none 0 0] w fun e w' => ∃ A' c', e = .returned (.slice A' 0 c') ∧ Below w.heap.size w w' :=
  (outerParts_any 0 [] none 0 (fun _ => False) w (by decide) (fun _ h => h.elim) (NIsAt.nil _ _ _ _)).mono fun e w' ⟨A', c', h1, _, h3⟩ => ⟨A', c', h1, h3⟩
theorem namesOfParts_nil (A : Option Addr) (cap : Nat) (w : World) : Calls Tryz.prog 40 #[.slice A 0 cap] w fun e w' => e = .returned (.slice none 0 0) ∧ Below w.heap.size w w' := by
  go_enter Tryz.func40, Tryz.ntmps40
  go_wp2
  refine wp_loop_rounds 1 ?_
  rw [rounds_succ]
  go_wp2
  go_ret
  exact ⟨rfl, Below.refl _ _⟩

set_option maxRecDepth 100000 in
theorem outerPart_all (TB : Nat) (g : List Bl) (s : ByteArray) (w : World) (hT : NestAny w TB g) :
    Calls Tryz.prog 46 #[.pointer (some ⟨TB, 0, none⟩), .string s] w fun e w' => ∃ v, e = .returned v ∧ PartX w' g (outerV g s) v ∧ Below w.heap.size w w' := by
  rcases hT with ⟨hv, NB, K, h⟩ | ⟨hv, h⟩
  · refine (outerPart_any TB NB g K s w hv h).mono fun e w' ⟨v, h1, h2, h3⟩ => ⟨v, h1, ?_, h3⟩
    have e : outerV g s = outerO g (nestG g) s := by unfold outerV; rw [if_pos hv]
    rw [e]
    cases ho : outerO g (nestG g) s with
    | none => rw [ho] at h2; exact h2
    | some r =>
      rw [ho] at h2
      obtain ⟨b, h4, h5⟩ := h2
      exact ⟨b, NB, K, h4, h5, h.nodes.below h3, fun k hk => by have := h.low k hk; have := h3.size; omega, (outerV_good (e.trans ho)).2.2, hv⟩
  · have c1 := h.cell 1
    have HO := Lib.hid (outerParts_nil w)
    have HE := Lib.hid (show outerV g s = none by unfold outerV; rw [if_neg (by rw [hv]; simp)])
    clear h hv
    go_enter Tryz.func46, Tryz.ntmps46
    go_wp2_with fail
    refine HO.out.mono ?_
    rintro e w1 ⟨A1, c1, rfl, hb⟩
    have HB := Lib.hid hb
    clear hb
    go_wp2_with fail
    go_loop [13] (fun i => i = .int .i64 0) (fun i => 0)
    case atStart => exact rfl
    case round =>
      subst hrel
      go_wp2_with fail
      go_ret
      exact ⟨_, rfl, by rw [HE.out]; rfl, HB.out⟩
set_option maxRecDepth 100000 in
theorem broken_all (TB : Nat) (g : List Bl) (w : World) (hT : NestAny w TB g) :
    Calls Tryz.prog 51 #[.pointer (some ⟨TB, 0, none⟩)] w fun e w' => ∃ v, e = .returned v ∧ PartX w' g (brokenV g) v ∧ Below w.heap.size w w' := by
  rcases hT with ⟨hv, NB, K, h⟩ | ⟨hv, h⟩
  · refine (broken_any TB NB g K w hv h).mono fun e w' ⟨v, h1, h2, h3⟩ => ⟨v, h1, ?_, h3⟩
    have e : brokenV g = brokenO (nestG g) := by unfold brokenV; rw [if_pos hv]
    rw [e]
    cases ho : brokenO (nestG g) with
    | none => rw [ho] at h2; exact h2
    | some r =>
      rw [ho] at h2
      obtain ⟨b, h4, h5⟩ := h2
      exact ⟨b, NB, K, h4, h5, h.nodes.below h3, fun k hk => by have := h.low k hk; have := h3.size; omega, (brokenV_good (e.trans ho)).2, hv⟩
  · have c1 := h.cell 1
    have HO := Lib.hid (allParts_nil w)
    have HE := Lib.hid (show brokenV g = none by unfold brokenV; rw [if_neg (by rw [hv]; simp)])
    clear h hv
    go_enter Tryz.func51, Tryz.ntmps51
    go_wp2_with fail
    refine HO.out.mono ?_
    rintro e w1 ⟨A1, c1, rfl, hb⟩
    have HB := Lib.hid hb
    clear hb
    go_wp2_with fail
    go_loop [11] (fun i => i = .int .i64 0) (fun i => 0)
    case atStart => exact rfl
    case round =>
      subst hrel
      go_wp2_with fail
      go_ret
      exact ⟨_, rfl, by rw [HE.out]; rfl, HB.out⟩

/-- A part laid open. -/
structure Opened (w : World) (g : List Bl) (b NB : Nat) (r : PT) (A1 : Option Addr) (c1 : Nat) (A2 : Option Addr) (c2 : Nat) (A3 : Option Addr) (c3 : Nat) (K : Nat → Prop) : Prop where
  blk : Blk w b 65 #[.slice A1 r.1.length c1, .slice A2 r.2.1.length c2, .slice A3 r.2.2.length c3]
  bs : Pts w A1 (nodesAt NB g r.1)
  ds : Pts w A2 (nodesAt NB g r.2.1)
  ws : NIsAt w K NB r.2.2 A3
theorem pts_of {w : World} {K : Nat → Prop} {A : Option Addr} {NB : Nat} {g : List Bl} {P : List Nat} (h : PtsK w K A NB P) (hN : NodesIn w NB g) (hg : ∀ x ∈ P, x < g.length) : Pts w A (nodesAt NB g P) := fun hp => by
  obtain ⟨b, off, e, _, hbl, hc⟩ := h (by rw [nodesAt_length] at hp; exact hp)
  refine ⟨b, off, e, hbl, fun k hk => ?_⟩
  rw [nodesAt_length] at hk
  have hget : (nodesAt NB g P)[k]'(by rw [nodesAt_length]; exact hk) = (nb NB P[k], nthName g P[k]) := by simp [nodesAt]
  have hkg := hg P[k] (List.getElem_mem hk)
  have hn1 := hN _ hkg
  rw [hget]
  exact ⟨hc k hk, hn1.lt, by rw [hn1.cell 1, nthName_at hkg]; rfl⟩
theorem opened {w : World} {g : List Bl} {b NB : Nat} {r : PT} {K : Nat → Prop} (h : NIAt w K NB r.ni (.iface 61 (.pointer (some ⟨b, 0, none⟩)))) (hN : NodesIn w NB g) (hG : GoodP g r) : ∃ A1 c1 A2 c2 A3 c3, Opened w g b NB r A1 c1 A2 c2 A3 c3 K := by
  obtain ⟨P, D, W⟩ := r
  unfold PT.ni NIAt at h
  obtain ⟨b', A1, c1, A2, c2, A3, c3, vs, hv7, h1, h2, h3, h4, h5, h6, h7⟩ := h
  simp only [Value.iface.injEq, Value.pointer.injEq, Option.some.injEq, Addr.mk.injEq, and_true, true_and] at hv7
  subst hv7
  refine ⟨A1, c1, A2, c2, A3, c3, h2, pts_of h3 hN hG.lt, pts_of h4 hN fun x hx => ?_, vs, h5, h6, h7⟩
  have : D = doorsL g P := hG.doors
  rw [this] at hx
  exact hG.lt x (doorsL_sub hx)
theorem GoodP.dlt {g : List Bl} {r : PT} (h : GoodP g r) : ∀ x ∈ r.2.1, x < g.length := fun x hx => by rw [h.doors] at hx; exact h.lt x (doorsL_sub hx)
theorem GoodP.dlen {g : List Bl} (hv : validB g = true) {r : PT} (h : GoodP g r) : r.2.1.length ≤ 26 := by
  rw [h.doors]; exact Nat.le_trans (List.length_filter_le _ _) (h.len hv)
/-- Names of nodes joined. -/
theorem joinP_any (A : Option Addr) (c NB : Nat) (g : List Bl) (P : List Nat) (w : World) (hv : validB g = true) (hP : Pts w A (nodesAt NB g P)) (hg : ∀ x ∈ P, x < g.length) (hl : P.length ≤ 26) :
    Calls Tryz.prog 47 #[.slice A P.length c] w fun e w' => e = .returned (.string (namesAt g P)) ∧ Below w.heap.size w w' := by
  have hjn := join_any A c (nodesAt NB g P) w hP (by rw [nodesAt_length]; omega) (by rw [joined_nodesAt, namesAt_size hv P hg]; omega)
  rw [nodesAt_length, joined_nodesAt] at hjn
  exact hjn

def partsV (g : List Bl) : List ByteArray := if validB g then partNs g (outerP (nestG g)) else []
def textO (f : PT → ByteArray) : Option PT → ByteArray | none => ⟨#[]⟩ | some r => f r

set_option maxRecDepth 100000 in
theorem implPartsOf_any (A : Option Addr) (cap : Nat) (g : List Bl) (w : World) (hg : Gr w A g) (hn : g.length + tot g ≤ 1048576) :
    Calls Tryz.prog 14 #[.slice A g.length cap] w fun e w' => ∃ v, e = .returned (.tuple #[v, .bool (validB g)]) ∧ OwnStr w' w.heap.size v (partsV g) ∧ Below w.heap.size w w' := by
  have HC := Lib.hid (nestOf_any A cap g w hg hn)
  clear hg
  go_enter Tryz.func14, Tryz.ntmps14
  go_wp2_with fail
  refine HC.out.mono ?_
  rintro e w1 ⟨TB, rfl, hT, b1⟩
  have HB1 := Lib.hid b1
  clear b1
  rcases hT with ⟨hv, NB, K, h⟩ | ⟨hv, h⟩
  · obtain ⟨A2, cap2, I, ic, h1, h2, h3⟩ := h.blk
    have cI := h1.cell 1
    have hwt := nestG_wt hv
    have hil := wtL_length (nestG g)
    have hol := outerP_len (nestG g)
    have HO := Lib.hid (outerParts_any NB (nestG g) I ic K w1 (by omega) h.low h3)
    have HN := Lib.hid h.nodes
    have HE := Lib.hid (show partsV g = partNs g (outerP (nestG g)) by unfold partsV; rw [if_pos hv])
    have HV := Lib.hid hv
    clear h h1 h2 h3 hv
    go_wp2_with fail
    refine HO.out.mono ?_
    rintro e w2 ⟨A3, c3, rfl, hR, b2⟩
    have HNP := Lib.hid (namesOfParts_any NB g (outerP (nestG g)) K A3 c3 w2 HV.out hR (HN.out.below b2) (fun r hr => nestG_good HV.out r (outerP_all hr)) (by omega))
    have HB2 := Lib.hid (HB1.out.trans (b2.mono HB1.out.size))
    clear hR b2
    go_wp2_with fail
    refine HNP.out.mono ?_
    rintro e w3 ⟨v, rfl, ho, b3⟩
    have HB3 := Lib.hid (HB2.out.trans (b3.mono HB2.out.size))
    have HOO := Lib.hid (World.ownsRow.mono ho HB2.out.size)
    clear ho b3
    go_wp2_with fail
    go_ret2
    exact ⟨v, rfl, by rw [HE.out]; exact HOO.out, HB3.out⟩
  · have cI := h.cell 1
    have HO := Lib.hid (outerParts_nil w1)
    have HE := Lib.hid (show partsV g = [] by unfold partsV; rw [if_neg (by rw [hv]; simp)])
    clear h hv
    go_wp2_with fail
    refine HO.out.mono ?_
    rintro e w2 ⟨A3, c3, rfl, b2⟩
    have HB2 := Lib.hid (HB1.out.trans (b2.mono HB1.out.size))
    have HNP := Lib.hid (namesOfParts_nil A3 c3 w2)
    clear b2
    go_wp2_with fail
    refine HNP.out.mono ?_
    rintro e w3 ⟨rfl, b3⟩
    have HB3 := Lib.hid (HB2.out.trans (b3.mono HB2.out.size))
    clear b3
    go_wp2_with fail
    go_ret2
    exact ⟨_, rfl, by rw [HE.out]; exact World.ownsRow_nil _ _ _ _, HB3.out⟩

set_option maxRecDepth 100000 in
theorem implPartOf_any (A : Option Addr) (cap : Nat) (g : List Bl) (s : ByteArray) (w : World) (hg : Gr w A g) (hn : g.length + tot g ≤ 1048576) :
    Calls Tryz.prog 21 #[.slice A g.length cap, .string s] w fun e w' => e = .returned (.tuple #[.string (textO (fun r => namesAt g r.1) (outerV g s)), .bool (outerV g s).isSome]) ∧ Below w.heap.size w w' := by
  have HC := Lib.hid (nestOf_any A cap g w hg hn)
  clear hg
  go_enter Tryz.func21, Tryz.ntmps21
  go_wp2_with fail
  refine HC.out.mono ?_
  rintro e w1 ⟨TB, rfl, hT, b1⟩
  have HB1 := Lib.hid b1
  have HO := Lib.hid (outerPart_all TB g s w1 hT)
  clear b1 hT
  go_wp2_with fail
  refine HO.out.mono ?_
  rintro e w2 ⟨v, rfl, hx, b2⟩
  have HB2 := Lib.hid (HB1.out.trans (b2.mono HB1.out.size))
  clear b2
  cases ho : outerV g s with
  | none =>
    rw [ho] at hx
    unfold PartX at hx
    subst hx
    have HO2 := Lib.hid ho
    have heq := fun w => run_eql_nil_nil2 (P := Tryz.prog) w Tryz.underlying61
    clear ho
    go_wp2_with fail
    go_ret2
    exact ⟨by rw [HO2.out]; rfl, HB2.out⟩
  | some r =>
    rw [ho] at hx
    unfold PartX at hx
    obtain ⟨b, NB, K, rfl, h1, h2, h3, h4, hv⟩ := hx
    obtain ⟨A1, c1, A2, c2, A3, c3, hop⟩ := opened h1 h2 h4
    have cb := hop.blk.cell 0
    have HJ := Lib.hid (joinP_any A1 c1 NB g r.1 w2 hv hop.bs h4.lt (h4.len hv))
    have HO2 := Lib.hid ho
    have heq := fun w => run_eql_ptr_nil2 (P := Tryz.prog) w (b := ⟨b, 0, none⟩) Tryz.underlying61
    clear ho h1 h2 h3 h4 hop hv
    go_wp2_with fail
    refine HJ.out.mono ?_
    rintro e w3 ⟨rfl, b3⟩
    have HB3 := Lib.hid (HB2.out.trans (b3.mono HB2.out.size))
    clear b3
    go_wp2_with fail
    go_ret2
    exact ⟨by rw [HO2.out]; rfl, HB3.out⟩

set_option maxRecDepth 100000 in
theorem implDoorsOf_any (A : Option Addr) (cap : Nat) (g : List Bl) (s : ByteArray) (w : World) (hg : Gr w A g) (hn : g.length + tot g ≤ 1048576) :
    Calls Tryz.prog 23 #[.slice A g.length cap, .string s] w fun e w' => e = .returned (.tuple #[.string (textO (fun r => namesAt g r.2.1) (outerV g s)), .bool (outerV g s).isSome]) ∧ Below w.heap.size w w' := by
  have HC := Lib.hid (nestOf_any A cap g w hg hn)
  clear hg
  go_enter Tryz.func23, Tryz.ntmps23
  go_wp2_with fail
  refine HC.out.mono ?_
  rintro e w1 ⟨TB, rfl, hT, b1⟩
  have HB1 := Lib.hid b1
  have HO := Lib.hid (outerPart_all TB g s w1 hT)
  clear b1 hT
  go_wp2_with fail
  refine HO.out.mono ?_
  rintro e w2 ⟨v, rfl, hx, b2⟩
  have HB2 := Lib.hid (HB1.out.trans (b2.mono HB1.out.size))
  clear b2
  cases ho : outerV g s with
  | none =>
    rw [ho] at hx
    unfold PartX at hx
    subst hx
    have HO2 := Lib.hid ho
    have heq := fun w => run_eql_nil_nil2 (P := Tryz.prog) w Tryz.underlying61
    clear ho
    go_wp2_with fail
    go_ret2
    exact ⟨by rw [HO2.out]; rfl, HB2.out⟩
  | some r =>
    rw [ho] at hx
    unfold PartX at hx
    obtain ⟨b, NB, K, rfl, h1, h2, h3, h4, hv⟩ := hx
    obtain ⟨A1, c1, A2, c2, A3, c3, hop⟩ := opened h1 h2 h4
    have cb := hop.blk.cell 1
    have HJ := Lib.hid (joinP_any A2 c2 NB g r.2.1 w2 hv hop.ds h4.dlt (h4.dlen hv))
    have HO2 := Lib.hid ho
    have heq := fun w => run_eql_ptr_nil2 (P := Tryz.prog) w (b := ⟨b, 0, none⟩) Tryz.underlying61
    clear ho h1 h2 h3 h4 hop hv
    go_wp2_with fail
    refine HJ.out.mono ?_
    rintro e w3 ⟨rfl, b3⟩
    have HB3 := Lib.hid (HB2.out.trans (b3.mono HB2.out.size))
    clear b3
    go_wp2_with fail
    go_ret2
    exact ⟨by rw [HO2.out]; rfl, HB3.out⟩

set_option maxRecDepth 100000 in
theorem implFirstBroken_any (A : Option Addr) (cap : Nat) (g : List Bl) (w : World) (hg : Gr w A g) (hn : g.length + tot g ≤ 1048576) :
    Calls Tryz.prog 33 #[.slice A g.length cap] w fun e w' => e = .returned (.tuple #[.string (textO (fun r => namesAt g r.1) (brokenV g)), .bool (brokenV g).isSome]) ∧ Below w.heap.size w w' := by
  have HC := Lib.hid (nestOf_any A cap g w hg hn)
  clear hg
  go_enter Tryz.func33, Tryz.ntmps33
  go_wp2_with fail
  refine HC.out.mono ?_
  rintro e w1 ⟨TB, rfl, hT, b1⟩
  have HB1 := Lib.hid b1
  have HO := Lib.hid (broken_all TB g w1 hT)
  clear b1 hT
  go_wp2_with fail
  refine HO.out.mono ?_
  rintro e w2 ⟨v, rfl, hx, b2⟩
  have HB2 := Lib.hid (HB1.out.trans (b2.mono HB1.out.size))
  clear b2
  cases ho : brokenV g with
  | none =>
    rw [ho] at hx
    unfold PartX at hx
    subst hx
    have HO2 := Lib.hid ho
    have heq := fun w => run_eql_nil_nil2 (P := Tryz.prog) w Tryz.underlying61
    clear ho
    go_wp2_with fail
    go_ret2
    exact ⟨by rw [HO2.out]; rfl, HB2.out⟩
  | some r =>
    rw [ho] at hx
    unfold PartX at hx
    obtain ⟨b, NB, K, rfl, h1, h2, h3, h4, hv⟩ := hx
    obtain ⟨A1, c1, A2, c2, A3, c3, hop⟩ := opened h1 h2 h4
    have cb := hop.blk.cell 0
    have HJ := Lib.hid (joinP_any A1 c1 NB g r.1 w2 hv hop.bs h4.lt (h4.len hv))
    have HO2 := Lib.hid ho
    have heq := fun w => run_eql_ptr_nil2 (P := Tryz.prog) w (b := ⟨b, 0, none⟩) Tryz.underlying61
    clear ho h1 h2 h3 h4 hop hv
    go_wp2_with fail
    refine HJ.out.mono ?_
    rintro e w3 ⟨rfl, b3⟩
    have HB3 := Lib.hid (HB2.out.trans (b3.mono HB2.out.size))
    clear b3
    go_wp2_with fail
    go_ret2
    exact ⟨by rw [HO2.out]; rfl, HB3.out⟩
/-- Is a graph nested? -/
def nestedB (g : List Bl) : Bool := validB g && (brokenV g).isNone
set_option maxRecDepth 100000 in
theorem implIsNested_any (A : Option Addr) (cap : Nat) (g : List Bl) (w : World) (hg : Gr w A g) (hn : g.length + tot g ≤ 1048576) :
    Calls Tryz.prog 27 #[.slice A g.length cap] w fun e w' => e = .returned (.bool (nestedB g)) ∧ Below w.heap.size w w' := by
  have HC := Lib.hid (nestOf_any A cap g w hg hn)
  clear hg
  go_enter Tryz.func27, Tryz.ntmps27
  go_wp2_with fail
  refine HC.out.mono ?_
  rintro e w1 ⟨TB, rfl, hT, b1⟩
  have HB1 := Lib.hid b1
  have HO := Lib.hid (broken_all TB g w1 hT)
  clear b1 hT
  cases hv : validB g with
  | false =>
    have HE := Lib.hid (show nestedB g = false by unfold nestedB; rw [hv]; rfl)
    clear hv
    go_wp2_with fail
    go_ret
    exact ⟨ret_bool HE.out.symm, HB1.out⟩
  | true =>
    have HV := Lib.hid hv
    clear hv
    go_wp2_with fail
    refine HO.out.mono ?_
    rintro e w2 ⟨v, rfl, hx, b2⟩
    have HB2 := Lib.hid (HB1.out.trans (b2.mono HB1.out.size))
    clear b2
    cases ho : brokenV g with
    | none =>
      rw [ho] at hx
      unfold PartX at hx
      subst hx
      have HE := Lib.hid (show nestedB g = true by unfold nestedB; rw [HV.out, ho]; rfl)
      have heq := fun w => run_eql_nil_nil2 (P := Tryz.prog) w Tryz.underlying61
      clear ho
      go_wp2_with fail
      go_ret
      exact ⟨ret_bool HE.out.symm, HB2.out⟩
    | some r =>
      rw [ho] at hx
      unfold PartX at hx
      obtain ⟨b, NB, K, rfl, _⟩ := hx
      have HE := Lib.hid (show nestedB g = false by unfold nestedB; rw [HV.out, ho]; rfl)
      have heq := fun w => run_eql_ptr_nil2 (P := Tryz.prog) w (b := ⟨b, 0, none⟩) Tryz.underlying61
      clear ho
      go_wp2_with fail
      go_ret
      exact ⟨ret_bool HE.out.symm, HB2.out⟩
/-- Do two blocks come to each other? -/
def goRoundB (g : List Bl) (a b : ByteArray) : Bool := match outerV g a with | none => false | some r => hasB g r b

/-- The part whose only door a block is. -/
def innerB (g : List Bl) (s : ByteArray) (r : PT) : Bool := decide (r.2.1.length = 1) && decide (nthName g (r.2.1.headD 0) = s)
def innerO (g : List Bl) (items : List NI) (s : ByteArray) : Option PT := (allP items).find? (innerB g s)
def innerV (g : List Bl) (s : ByteArray) : Option PT := if validB g then innerO g (nestG g) s else none
def innerNs (g : List Bl) : Option PT → List ByteArray | none => [] | some r => partNs g (outerP r.2.2)
theorem mem_wt : ∀ (n : Nat) (xs : List NI), wtL xs ≤ n → ∀ r ∈ allP xs, wtL r.2.2 ≤ n ∧ ∀ q ∈ allP r.2.2, q ∈ allP xs
  | 0, xs, h, r, hr => by
    have e : xs = [] := List.eq_nil_of_length_eq_zero (by have := wtL_length xs; omega)
    subst e; rw [allP_nil] at hr; cases hr
  | n + 1, xs, h, r, hr => by
    obtain ⟨x, hx, hxr⟩ := mem_allP.1 hr
    have hw := wtL_mem hx
    cases x with
    | blk i => rw [partsN_blk] at hxr; cases hxr
    | part P D W =>
      rw [partsN_part] at hxr
      rw [wtN_part] at hw
      have hin : ∀ q ∈ allP W, q ∈ allP xs := fun q hq => mem_allP.2 ⟨_, hx, by rw [partsN_part]; exact List.mem_cons_of_mem _ hq⟩
      rcases List.mem_cons.1 hxr with rfl | hxr
      · exact ⟨by show wtL W ≤ n + 1; omega, hin⟩
      · obtain ⟨h1, h2⟩ := mem_wt n W (by omega) r hxr
        exact ⟨by omega, fun q hq => hin q (h2 q hq)⟩

set_option maxRecDepth 100000 in
set_option maxHeartbeats 2000000 in
theorem implInner_any (A : Option Addr) (cap : Nat) (g : List Bl) (s : ByteArray) (w : World) (hg : Gr w A g) (hn : g.length + tot g ≤ 1048576) :
    Calls Tryz.prog 25 #[.slice A g.length cap, .string s] w fun e w' => ∃ v, e = .returned (.tuple #[v, .bool (innerV g s).isSome]) ∧ OwnStr w' w.heap.size v (innerNs g (innerV g s)) ∧ Below w.heap.size w w' := by
  have HC := Lib.hid (nestOf_any A cap g w hg hn)
  clear hg
  go_enter Tryz.func25, Tryz.ntmps25
  go_wp2_with fail
  refine HC.out.mono ?_
  rintro e w1 ⟨TB, rfl, hT, b1⟩
  have HB1 := Lib.hid b1
  clear b1
  rcases hT with ⟨hv, NB, K, h⟩ | ⟨hv, h⟩
  · obtain ⟨A0, cap0, I, ic, h1, h2, h3⟩ := h.blk
    have c1 := h1.cell 1
    have hwt := nestG_wt hv
    have HO := Lib.hid (allParts_all NB 52 (by decide) (nestG g) I ic K w1 hwt h.low h3)
    have hol := allP_len 52 (nestG g) hwt
    have HN := Lib.hid h.nodes
    have HLOW := Lib.hid h.low
    have HIV := Lib.hid (show innerV g s = innerO g (nestG g) s by unfold innerV; rw [if_pos hv])
    have HG := Lib.hid (nestG_good hv)
    clear h1 h2 h3 h
    go_wp2_with fail
    refine HO.out.mono ?_
    rintro e w2 ⟨A1, c1, rfl, hR, hb⟩
    obtain ⟨rs, hrs⟩ : ∃ rs, rs = allP (nestG g) := ⟨_, rfl⟩
    rw [← hrs] at hR hol ⊢
    have HR := Lib.hid hR
    have HB := Lib.hid (HB1.out.trans (hb.mono HB1.out.size))
    have HN2 := Lib.hid (HN.out.below hb)
    have HLW := Lib.hid (show ∀ k, K k → k < w2.heap.size from fun k hk => by have := HLOW.out k hk; have := hb.size; omega)
    have HRS := Lib.hid hrs
    clear hR hb hrs
    go_wp2_with fail
    go_loop [21] (fun i => ∃ k : Nat, k ≤ rs.length ∧ i = .int .i64 k ∧ Hid (∀ j (h : j < rs.length), j < k → innerB g s rs[j] = false)) (fun i => rs.length - (intOf i).toNat)
    case atStart => exact ⟨0, Nat.zero_le _, rfl, fun j _ h => absurd h (by omega)⟩
    case round =>
      obtain ⟨k, hk, rfl, HK⟩ := hrel
      by_cases hlt : k < rs.length
      · obtain ⟨b0, off, b, rfl, x0, hni⟩ := HR.out.get hlt
        have hrm : rs[k] ∈ allP (nestG g) := by rw [← HRS.out]; exact List.getElem_mem hlt
        have hgd := HG.out rs[k] hrm
        have hmw := mem_wt 52 (nestG g) hwt rs[k] hrm
        obtain ⟨r, hr⟩ : ∃ r, r = rs[k] := ⟨_, rfl⟩
        rw [← hr] at hni hgd hmw
        obtain ⟨A2, c2, A3, c3, A4, c4, hop⟩ := opened hni HN2.out hgd
        have cb := hop.blk.cell 1
        have HRR := Lib.hid hr
        by_cases hd1 : r.2.1.length = 1
        · obtain ⟨d, hd⟩ : ∃ d, r.2.1 = [d] := by
            match h : r.2.1, hd1 with
            | [d], _ => exact ⟨d, rfl⟩
          have hpd := hop.ds
          rw [hd] at hpd
          obtain ⟨bd, od, rfl, hbd, hcd⟩ := hpd (by simp [nodesAt])
          have z0 : w2.cell? ⟨bd, od, none⟩ = some (nptr NB d) := by have := (hcd 0 (by simp [nodesAt])).1; simpa [nodesAt] using this
          have hdg : d < g.length := hgd.dlt d (by rw [hd]; simp)
          have z1 : w2.cell? ⟨nb NB d, 1, none⟩ = some (.string (nthName g d)) := by have := (HN2.out d hdg).cell 1; rw [nthName_at hdg]; simpa using this
          rw [hd1] at cb
          obtain ⟨nm, hnm⟩ : ∃ nm, nm = nthName g d := ⟨_, rfl⟩
          rw [← hnm] at z1
          by_cases hs : nm = s
          · have q1 : (nm.toList == s.toList) = true := by rw [hs]; simp
            have HF := Lib.hid (show innerV g s = some r by
              rw [HIV.out]
              unfold innerO
              rw [← HRS.out, List.find?_eq_some_iff_getElem]
              exact ⟨by unfold innerB; rw [decide_eq_true hd1, hd]; simp [← hnm, hs], k, hlt, HRR.out.symm, fun j hj => by rw [HK.out j (by omega) hj]; rfl⟩)
            have c2w := hop.blk.cell 2
            have hol2 := wtL_length r.2.2
            have HOP := Lib.hid (outerParts_any NB r.2.2 A4 c4 K w2 (by have := hmw.1; omega) HLW.out hop.ws)
            have HGW := Lib.hid (show ∀ q ∈ outerP r.2.2, GoodP g q from fun q hq => HG.out q (hmw.2 q (outerP_all hq)))
            have hol3 := outerP_len r.2.2
            have hwl := hmw.1
            clear hni hgd hop hr hd hpd hcd hnm hs hrm hmw
            go_wp2_with fail
            refine HOP.out.mono ?_
            rintro e w3 ⟨A5, c5, rfl, hR5, b3⟩
            have HNP := Lib.hid (namesOfParts_any NB g (outerP r.2.2) K A5 c5 w3 hv hR5 (HN2.out.below b3) HGW.out (by omega))
            have HB3 := Lib.hid (HB.out.trans (b3.mono HB.out.size))
            clear hR5 b3
            go_wp2_with fail
            refine HNP.out.mono ?_
            rintro e w4 ⟨v, rfl, ho, b4⟩
            have HB4 := Lib.hid (HB3.out.trans (b4.mono HB3.out.size))
            have HOO := Lib.hid (World.ownsRow.mono ho HB3.out.size)
            clear ho b4
            go_wp2_with fail
            go_ret2
            exact ⟨v, by rw [HF.out]; rfl, by rw [HF.out]; exact HOO.out, HB4.out⟩
          · have q1 : (nm.toList == s.toList) = false := by simpa using fun e => hs (beq_toList.1 (by simpa using e))
            have HNH := Lib.hid (show innerB g s rs[k] = false by rw [← hr]; unfold innerB; rw [hd]; simp [← hnm, hs])
            clear hni hgd hop hr hd hpd hcd hnm hs hrm hmw
            go_wp2_with fail
            go_round
            case rel =>
              refine ⟨k + 1, by omega, by go_num, fun j h hj => ?_⟩
              rcases Nat.lt_succ_iff_lt_or_eq.1 hj with hj | rfl
              · exact HK.out j h hj
              · exact HNH.out
            case measure => simp [intOf]; omega
        · have q1 : ((r.2.1.length : Int) == 1) = false := by simpa using fun e => hd1 (by omega)
          have HNH := Lib.hid (show innerB g s rs[k] = false by rw [← hr]; unfold innerB; rw [decide_eq_false hd1]; rfl)
          clear hni hgd hop hr hd1 hrm hmw
          go_wp2_with fail
          go_round
          case rel =>
            refine ⟨k + 1, by omega, by go_num, fun j h hj => ?_⟩
            rcases Nat.lt_succ_iff_lt_or_eq.1 hj with hj | rfl
            · exact HK.out j h hj
            · exact HNH.out
          case measure => simp [intOf]; omega
      · have HF := Lib.hid (show innerV g s = none by
          rw [HIV.out]
          unfold innerO
          rw [← HRS.out, List.find?_eq_none]
          intro x hx
          obtain ⟨j, hj, rfl⟩ := List.getElem_of_mem hx
          rw [HK.out j hj (by omega)]; decide)
        go_wp2_with fail
        go_ret2
        exact ⟨_, by rw [HF.out]; rfl, by rw [HF.out]; exact World.ownsRow_nil _ _ _ _, HB.out⟩
  · have cI := h.cell 1
    have HO := Lib.hid (allParts_nil w1)
    have HF := Lib.hid (show innerV g s = none by unfold innerV; rw [if_neg (by rw [hv]; simp)])
    clear h hv
    go_wp2_with fail
    refine HO.out.mono ?_
    rintro e w2 ⟨A3, c3, rfl, b2⟩
    have HB2 := Lib.hid (HB1.out.trans (b2.mono HB1.out.size))
    clear b2
    go_wp2_with fail
    go_loop [21] (fun i => i = .int .i64 0) (fun i => 0)
    case atStart => exact rfl
    case round =>
      subst hrel
      go_wp2_with fail
      go_ret2
      exact ⟨_, by rw [HF.out]; rfl, by rw [HF.out]; exact World.ownsRow_nil _ _ _ _, HB2.out⟩
/-- In how many parts a block is. -/
def levelV (g : List Bl) (s : ByteArray) : Int := if (named g (reachS g) s).isNone || !nestedB g then -1 else (((allP (nestG g)).countP fun r => hasB g r s : Nat) : Int)
theorem countP_take {p : PT → Bool} {l : List PT} {k : Nat} (h : k < l.length) : (l.take (k + 1)).countP p = (l.take k).countP p + (if p l[k] then 1 else 0) := by
  rw [List.take_succ_eq_append_getElem h, List.countP_append, List.countP_singleton]
set_option maxRecDepth 100000 in
set_option maxHeartbeats 2000000 in
theorem implLevel_any (A : Option Addr) (cap : Nat) (g : List Bl) (s : ByteArray) (w : World) (hg : Gr w A g) (hn : g.length + tot g ≤ 1048576) :
    Calls Tryz.prog 31 #[.slice A g.length cap, .string s] w fun e w' => e = .returned (.int .i64 (levelV g s)) ∧ Below w.heap.size w w' := by
  have HC := Lib.hid (nestOf_any A cap g w hg hn)
  clear hg
  go_enter Tryz.func31, Tryz.ntmps31
  go_wp2_with fail
  refine HC.out.mono ?_
  rintro e w1 ⟨TB, rfl, hT, b1⟩
  have HB1 := Lib.hid b1
  have HBR := Lib.hid (broken_all TB g w1 hT)
  clear b1
  rcases hT with ⟨hv, NB, K, h⟩ | ⟨hv, h⟩
  · obtain ⟨A0, cap0, I, ic, h1, h2, h3⟩ := h.blk
    have c0 := h1.cell 0
    have hrl := reachS_len hv
    have HNM := Lib.hid (namedAt_any A0 NB cap0 g (reachS g) s w1 h2 h.nodes (fun x hx => reachS_lt hv hx) (by omega))
    have HT := Lib.hid h
    have HV := Lib.hid hv
    clear h1 h2 h3 h hv
    cases hnm : named g (reachS g) s with
    | none =>
      rw [hnm] at HNM
      have HE := Lib.hid (show levelV g s = -1 by unfold levelV; rw [hnm]; rfl)
      have heq := fun w => run_eql_nil_nil2 (P := Tryz.prog) w Tryz.underlying73
      clear hnm
      go_wp2_with fail
      refine HNM.out.mono ?_
      rintro e w2 ⟨rfl, rfl⟩
      unfold ptrAt
      go_wp2_with fail
      go_ret
      exact ⟨ret_int HE.out.symm, HB1.out⟩
    | some x =>
      rw [hnm] at HNM
      have heq := fun w => run_eql_ptr_nil2 (P := Tryz.prog) w (b := ⟨nb NB x, 0, none⟩) Tryz.underlying73
      have HX := Lib.hid hnm
      clear hnm
      go_wp2_with fail
      refine HNM.out.mono ?_
      rintro e w2 ⟨rfl, rfl⟩
      unfold ptrAt
      go_wp2_with fail
      refine HBR.out.mono ?_
      rintro e w2 ⟨v, rfl, hx, b2⟩
      have HB2 := Lib.hid (HB1.out.trans (b2.mono HB1.out.size))
      cases ho : brokenV g with
      | some r =>
        rw [ho] at hx
        unfold PartX at hx
        obtain ⟨b, NB2, K2, rfl, _⟩ := hx
        have HE := Lib.hid (show levelV g s = -1 by
          have h0 : nestedB g = false := by unfold nestedB; rw [HV.out, ho]; rfl
          unfold levelV; rw [h0]; simp)
        have hneq := fun w => run_neq_ptr_nil (P := Tryz.prog) w (b := ⟨b, 0, none⟩) Tryz.underlying61
        clear ho b2
        go_wp2_with fail
        go_ret
        exact ⟨ret_int HE.out.symm, HB2.out⟩
      | none =>
        rw [ho] at hx
        unfold PartX at hx
        subst hx
        have HE := Lib.hid (show levelV g s = (((allP (nestG g)).countP fun r => hasB g r s : Nat) : Int) by
          have h0 : nestedB g = true := by unfold nestedB; rw [HV.out, ho]; rfl
          unfold levelV; rw [h0, HX.out]; rfl)
        have hneq := fun w => run_neq_nil_ptr2 (P := Tryz.prog) w Tryz.underlying61
        have hT2 := HT.out.below b2
        obtain ⟨A2, cap2, I2, ic2, h1, h2, h3⟩ := hT2.blk
        have c1 := h1.cell 1
        have hwt := nestG_wt HV.out
        have HO := Lib.hid (allParts_all NB 52 (by decide) (nestG g) I2 ic2 K w2 hwt hT2.low h3)
        have hol := allP_len 52 (nestG g) hwt
        have HN := Lib.hid hT2.nodes
        have HG := Lib.hid (nestG_good HV.out)
        clear ho b2 h1 h2 h3 hT2
        go_wp2_with fail
        refine HO.out.mono ?_
        rintro e w3 ⟨A4, c4, rfl, hR, hb⟩
        obtain ⟨rs, hrs⟩ : ∃ rs, rs = allP (nestG g) := ⟨_, rfl⟩
        rw [← hrs] at hR hol HE ⊢
        have HR := Lib.hid hR
        have HB3 := Lib.hid (HB2.out.trans (hb.mono HB2.out.size))
        have HN3 := Lib.hid (HN.out.below hb)
        have HRS := Lib.hid hrs
        clear hR hb hrs
        go_wp2_with fail
        go_loop [7, 33] (fun c i => ∃ k m : Nat, k ≤ rs.length ∧ i = .int .i64 k ∧ c = .int .i64 m ∧ m ≤ k ∧ Hid (m = (rs.take k).countP fun r => hasB g r s)) (fun _ i => rs.length - (intOf i).toNat)
        case atStart => exact ⟨0, 0, Nat.zero_le _, rfl, rfl, Nat.le_refl _, rfl⟩
        case round =>
          obtain ⟨k, m, hk, rfl, rfl, hmk, HM⟩ := hrel
          by_cases hlt : k < rs.length
          · obtain ⟨b0, off, b, rfl, x0, hni⟩ := HR.out.get hlt
            have hgd := HG.out rs[k] (by rw [← HRS.out]; exact List.getElem_mem hlt)
            have HCT := Lib.hid (countP_take (p := fun r => hasB g r s) hlt)
            obtain ⟨r, hr⟩ : ∃ r, r = rs[k] := ⟨_, rfl⟩
            rw [← hr] at hni hgd HCT
            have HH := Lib.hid (has2_any NB b g r K s w3 hni HN3.out hgd.lt (by have := hgd.len HV.out; omega))
            clear hr hni hgd
            cases hh : hasB g r s with
            | true =>
              rw [hh] at HH
              have HM2 := Lib.hid (show m + 1 = (rs.take (k + 1)).countP fun r => hasB g r s by rw [HCT.out, hh, ← HM.out]; rfl)
              clear hh
              go_wp2_with fail
              refine HH.out.mono ?_
              rintro e w4 ⟨rfl, rfl⟩
              go_wp2_with fail
              go_round
              case rel => exact ⟨k + 1, m + 1, by omega, by go_num, by go_num, by omega, HM2.out⟩
              case measure => simp [intOf]; omega
            | false =>
              rw [hh] at HH
              have HM2 := Lib.hid (show m = (rs.take (k + 1)).countP fun r => hasB g r s by rw [HCT.out, hh, ← HM.out]; rfl)
              clear hh
              go_wp2_with fail
              refine HH.out.mono ?_
              rintro e w4 ⟨rfl, rfl⟩
              go_wp2_with fail
              go_round
              case rel => exact ⟨k + 1, m, by omega, by go_num, rfl, by omega, HM2.out⟩
              case measure => simp [intOf]; omega
          · have HF := Lib.hid (show m = rs.countP fun r => hasB g r s by have := HM.out; rwa [List.take_of_length_le (by omega)] at this)
            go_wp2_with fail
            go_ret
            exact ⟨ret_int (by rw [HE.out, ← HF.out]), HB3.out⟩
  · have cI := h.cell 0
    have HO := Lib.hid (named_nil s w1 none 0)
    have HE := Lib.hid (show levelV g s = -1 by
      have h0 : nestedB g = false := by unfold nestedB; rw [hv]; rfl
      unfold levelV; rw [h0]; simp)
    have heq := fun w => run_eql_nil_nil2 (P := Tryz.prog) w Tryz.underlying73
    clear h hv
    go_wp2_with fail
    refine HO.out.mono ?_
    rintro e w2 ⟨rfl, rfl⟩
    go_wp2_with fail
    go_ret
    exact ⟨ret_int HE.out.symm, HB1.out⟩
end Go.Proofs.YtdpjdhllaokbfaaGreat
