/-
  The program's nest; the part of a block, the first broken part, the names of parts.
-/
import Derived.Test.YtdpjdhllaokbfaaGreatNestParts
import Derived.Test.YtdpjdhllaokbfaaGreatReachedCap
import Derived.Test.YtdpjdhllaokbfaaGreatStrs
namespace Go.Proofs.YtdpjdhllaokbfaaGreat
open Go.RowKit Go.Sort Go.Shelf

theorem run_neq_ptr_nil {P : Program} (w : World) {tp te : TypeId} {b : Addr} (hp : P.underlying tp = some (.pointer te)) :
    (binOp .neq tp (.pointer (some b)) (.pointer none)).run P w = .ok (.bool true) w := by
  have h : ∀ d : Nat, (Op.equalIn (d + 1) tp (.pointer (some b)) (.pointer none)).run P w = .ok false w := fun d => by
    simp [Op.equalIn, run_underlying hp]
  simp only [binOp]
  simp [Op.equal, Op.maxDepth, h 9999]
theorem run_neq_nil_ptr2 {P : Program} (w : World) {tp te : TypeId} (hp : P.underlying tp = some (.pointer te)) :
    (binOp .neq tp (.pointer none) (.pointer none)).run P w = .ok (.bool false) w := by
  have h : ∀ d : Nat, (Op.equalIn (d + 1) tp (.pointer none) (.pointer none)).run P w = .ok true w := fun d => by
    simp [Op.equalIn, run_underlying hp]
  simp only [binOp]
  simp [Op.equal, Op.maxDepth, h 9999]
theorem run_eql_ptr_nil2 {P : Program} (w : World) {tp te : TypeId} {b : Addr} (hp : P.underlying tp = some (.pointer te)) :
    (binOp .eql tp (.pointer (some b)) (.pointer none)).run P w = .ok (.bool false) w := by
  have h : ∀ d : Nat, (Op.equalIn (d + 1) tp (.pointer (some b)) (.pointer none)).run P w = .ok false w := fun d => by
    simp [Op.equalIn, run_underlying hp]
  simp only [binOp]
  simp [Op.equal, Op.maxDepth, h 9999]
theorem run_eql_nil_nil2 {P : Program} (w : World) {tp te : TypeId} (hp : P.underlying tp = some (.pointer te)) :
    (binOp .eql tp (.pointer none) (.pointer none)).run P w = .ok (.bool true) w := by
  have h : ∀ d : Nat, (Op.equalIn (d + 1) tp (.pointer none) (.pointer none)).run P w = .ok true w := fun d => by
    simp [Op.equalIn, run_underlying hp]
  simp only [binOp]
  simp [Op.equal, Op.maxDepth, h 9999]

/-! ### nothing at all -/
theorem setOf_nil (w : World) : Calls Tryz.prog 88 #[.slice none 0 0] w fun e w' => e = .returned (.int .u32 0) ∧ w = w' := by
  go_enter Tryz.func88, Tryz.ntmps88
  go_wp2
  refine wp_loop_rounds 1 ?_
  rw [rounds_succ]
  go_wp2
  go_ret
  exact ⟨rfl, rfl⟩
set_option maxRecDepth 100000 in
theorem partsAmong_nil (w : World) : Calls Tryz.prog 76 #[.slice none 0 0] w fun e w' => e = .returned (.slice none 0 0) ∧ Below w.heap.size w w' := by
  have HS := Lib.hid (setOf_nil w)
  go_enter Tryz.func76, Tryz.ntmps76
  go_wp2_with fail
  refine HS.out.mono ?_
  rintro e w1 ⟨rfl, rfl⟩
  have HF := Lib.hid (show FindS (w.alloc (.cells (newFinder 0) 124)) w.heap.size (fun k => if k = w.heap.size then 1 else 0) w.heap.size 0 0 TS.zero from newFinder_at w 0 0)
  have HBB := Lib.hid ((Below.refl _ w).alloc (Nat.le_refl _) (.cells (newFinder 0) 124))
  go_wp2_with fail
  go_loopw [12] (fun i wr => i = .int .i64 0 ∧ wr = w.alloc (.cells (newFinder 0) 124)) (fun _ _ => 0)
  case atStart => exact ⟨rfl, rfl⟩
  case round =>
    obtain ⟨rfl, hwr⟩ := hrel
    have c29 : wr.cell? ⟨w.heap.size, 29, none⟩ = some (.slice none 0 0) := by
      rw [hwr, (Blk.new w 124 (newFinder 0)).cell 29]; rfl
    have HW := Lib.hid hwr
    clear hwr
    go_wp2_with fail
    go_ret
    exact ⟨rfl, by rw [HW.out]; exact HBB.out⟩
set_option maxRecDepth 100000 in
theorem itemsOf_nil (TB : Nat) (w : World) : Calls Tryz.prog 65 #[.pointer (some ⟨TB, 0, none⟩), .slice none 0 0] w fun e w' => e = .returned (.slice none 0 0) ∧ Below w.heap.size w w' := by
  have HS := Lib.hid (partsAmong_nil w)
  go_enter Tryz.func65, Tryz.ntmps65
  go_wp2_with fail
  refine HS.out.mono ?_
  rintro e w1 ⟨rfl, hb⟩
  have HB := Lib.hid hb
  clear hb
  go_wp2_with fail
  go_loopw [6, 14] (fun v i wr => v = .slice none 0 0 ∧ i = .int .i64 0 ∧ wr = w1) (fun _ _ _ => 0)
  case atStart => exact ⟨rfl, rfl, rfl⟩
  case round =>
    obtain ⟨rfl, rfl, rfl⟩ := hrel
    go_wp2_with fail
    go_ret
    exact ⟨rfl, HB.out⟩

/-- The items of a graph's nest. -/
def nestG (g : List Bl) : List NI := nestF g 26 (reachS g)
theorem nestG_wt {g : List Bl} (hv : validB g = true) : wtL (nestG g) ≤ 52 := by
  have h1 := nest_wt (g := g) 26 (reachS g) (fun _ hx => reachS_lt hv hx) ((reachS_up g).imp fun h => Nat.ne_of_lt h)
  have := reachS_len hv
  unfold nestG; omega
theorem nestG_good {g : List Bl} (hv : validB g = true) : ∀ r ∈ allP (nestG g), GoodP g r := nest_good 26 (reachS g) fun _ hx => reachS_lt hv hx
/-- The whole nest, as it lies. -/
structure NestR (w : World) (TB NB : Nat) (g : List Bl) (K : Nat → Prop) : Prop where
  blk : ∃ A cap I ic, Blk w TB 57 #[.slice A (reachS g).length cap, .slice I (nestG g).length ic] ∧ PtsI w A NB (reachS g) ∧ NIsAt w K NB (nestG g) I
  nodes : NodesIn w NB g
  low : ∀ k, K k → k < w.heap.size
theorem NestR.below {w w' : World} {TB NB : Nat} {g : List Bl} {K : Nat → Prop} (h : NestR w TB NB g K) (hb : Below w.heap.size w w') : NestR w' TB NB g K := by
  obtain ⟨A, cap, I, ic, h1, h2, h3⟩ := h.blk
  exact ⟨⟨A, cap, I, ic, h1.below hb h1.lt, h2.below hb, h3.below hb⟩, h.nodes.below hb, fun k hk => by have := h.low k hk; have := hb.size; omega⟩

def NestPost (w : World) (g : List Bl) (e : Ending) (w' : World) : Prop := ∃ TB NB K, e = .returned (.tuple #[.pointer (some ⟨TB, 0, none⟩), .bool true]) ∧ NestR w' TB NB g K ∧ Below w.heap.size w w'
def NestNone (w : World) (e : Ending) (w' : World) : Prop := ∃ TB, e = .returned (.tuple #[.pointer (some ⟨TB, 0, none⟩), .bool false]) ∧ Blk w' TB 57 #[.slice none 0 0, .slice none 0 0] ∧ Below w.heap.size w w'

set_option maxRecDepth 100000 in
theorem nestOf_no (A : Option Addr) (cap : Nat) (g : List Bl) (w : World) (hg : Gr w A g) (hn : g.length + tot g ≤ 1048576) (hv : validB g = false) : Calls Tryz.prog 39 #[.slice A g.length cap] w (NestNone w) := by
  have HC := Lib.hid (reachedNodes_no A cap g w hg hn hv)
  clear hv hg
  go_enter Tryz.func39, Tryz.ntmps39
  go_wp2_with fail
  refine HC.out.mono ?_
  rintro e w1 ⟨rfl, b1⟩
  obtain ⟨w2, hw2⟩ : ∃ w2, w2 = w1.alloc (.cells #[.slice none 0 0, .slice none 0 0] 57) := ⟨_, rfl⟩
  have hb2 : Below w1.heap.size w1 w2 := by rw [hw2]; exact (Below.refl _ _).alloc (Nat.le_refl _) _
  have hk2 : Blk w2 w1.heap.size 57 #[.slice none 0 0, .slice none 0 0] := by rw [hw2]; exact Blk.new w1 _ _
  have HI := Lib.hid (itemsOf_nil w1.heap.size w2)
  have HB2 := Lib.hid (b1.trans (hb2.mono b1.size))
  have HK2 := Lib.hid hk2
  have hle := b1.size
  clear b1 hb2 hk2
  go_wp2_with fail
  rw [← hw2]
  clear hw2
  refine HI.out.mono ?_
  rintro e w3 ⟨rfl, b3⟩
  have hk3 := HK2.out.below b3 HK2.out.lt
  have c3 := hk3.cell 1
  have f3 := hk3.frozen 1
  have HK3 := Lib.hid hk3
  have HB3 := Lib.hid (HB2.out.trans (b3.mono HB2.out.size))
  clear hk3 b3
  go_wp2_with fail
  go_ret2
  exact ⟨w1.heap.size, rfl, HK3.out.set_ 1 _, HB3.out.setCell (p := ⟨w1.heap.size, 1, none⟩) hle _⟩

set_option maxRecDepth 100000 in
theorem nestOf_yes (A : Option Addr) (cap : Nat) (g : List Bl) (w : World) (hg : Gr w A g) (hn : g.length + tot g ≤ 1048576) (hv : validB g = true) : Calls Tryz.prog 39 #[.slice A g.length cap] w (NestPost w g) := by
  have HC := Lib.hid (reachedNodes_cap A cap g w hg hn hv)
  have hrl := reachS_len hv
  have hr0 : 0 < (reachS g).length := by
    have := reachS_zero hv
    rcases Nat.eq_zero_or_pos (reachS g).length with h | h
    · rw [List.eq_nil_of_length_eq_zero h] at this; cases this
    · exact h
  clear hg
  go_enter Tryz.func39, Tryz.ntmps39
  go_wp2_with fail
  refine HC.out.mono ?_
  rintro e w1 ⟨NB, A1, c1, hNB, rfl, hP, hN, b1, hcp⟩
  obtain ⟨w2, hw2⟩ : ∃ w2, w2 = w1.alloc (.cells #[.slice A1 (reachS g).length c1, .slice none 0 0] 57) := ⟨_, rfl⟩
  have hb2 : Below w1.heap.size w1 w2 := by rw [hw2]; exact (Below.refl _ _).alloc (Nat.le_refl _) _
  have hk2 : Blk w2 w1.heap.size 57 #[.slice A1 (reachS g).length c1, .slice none 0 0] := by rw [hw2]; exact Blk.new w1 _ _
  have hPI := pts_idx hP
  have hT2 : NestT w2 w1.heap.size NB g := ⟨⟨A1, c1, _, hk2, hPI.below hb2, hcp⟩, hN.below hb2⟩
  have HI := Lib.hid (itemsOf_any w1.heap.size NB g hv 26 (reachS g) A1 c1 w2 hrl hT2 (hPI.below hb2) (fun x hx => reachS_lt hv hx) (reachS_up g))
  have HB2 := Lib.hid (b1.trans (hb2.mono b1.size))
  have HK2 := Lib.hid hk2
  have HPI := Lib.hid hPI
  have HN1 := Lib.hid hN
  have HB12 := Lib.hid hb2
  have hle := b1.size
  clear b1 hb2 hk2 hT2 hP hN hPI
  go_wp2_with fail
  rw [← hw2]
  clear hw2
  refine HI.out.mono ?_
  rintro e w3 ⟨I3, c3, rfl, hI3, b3⟩
  have hk3 := HK2.out.below b3 HK2.out.lt
  have hc3 := hk3.cell 1
  have f3 := hk3.frozen 1
  have HK3 := Lib.hid hk3
  have HB3 := Lib.hid (HB2.out.trans (b3.mono HB2.out.size))
  have HB13 := Lib.hid (HB12.out.trans (b3.mono HB12.out.size))
  have HI3 := Lib.hid hI3
  have hlt2 := HK2.out.lt
  have h32 := b3.size
  clear hk3 b3 hI3
  go_wp2_with fail
  go_ret2
  have T9 : Turns (fun k => k = w1.heap.size) w3 (w3.setCell ⟨w1.heap.size, 1, none⟩ (.slice I3 (nestF g 26 (reachS g)).length c3)) := Turns.setCell (O := fun k => k = w1.heap.size) (p := ⟨w1.heap.size, 1, none⟩) rfl _
  have hB9 := HB3.out.setCell (p := ⟨w1.heap.size, 1, none⟩) hle (.slice I3 (nestF g 26 (reachS g)).length c3)
  have hB19 : Below w1.heap.size w1 (w3.setCell ⟨w1.heap.size, 1, none⟩ (.slice I3 (nestF g 26 (reachS g)).length c3)) := HB13.out.setCell (p := ⟨w1.heap.size, 1, none⟩) (Nat.le_refl _) _
  refine ⟨w1.heap.size, NB, fun k => w2.heap.size ≤ k ∧ k < w3.heap.size, rfl, ⟨⟨A1, c1, I3, c3, HK3.out.set_ 1 _, HPI.out.below hB19, ?_⟩, HN1.out.below hB19, fun k hk => by have := hk.2; simpa using this⟩, hB9⟩
  exact HI3.out.kept (T9.keeps fun k hk e => by omega) fun k hk h => ⟨h, hk⟩

/-- Is a block in a part? -/
def hasB (g : List Bl) (r : PT) (s : ByteArray) : Bool := (named g r.1 s).isSome
set_option maxRecDepth 100000 in
theorem has2_any (NB b : Nat) (g : List Bl) (r : PT) (K : Nat → Prop) (s : ByteArray) (w : World) (hI : NIAt w K NB r.ni (.iface 61 (.pointer (some ⟨b, 0, none⟩)))) (hN : NodesIn w NB g) (hr : ∀ x ∈ r.1, x < g.length) (hl : r.1.length ≤ 1048576) :
    Calls Tryz.prog 56 #[.pointer (some ⟨b, 0, none⟩), .string s] w fun e w' => e = .returned (.bool (hasB g r s)) ∧ w = w' := by
  obtain ⟨P, D, W⟩ := r
  unfold PT.ni NIAt at hI
  obtain ⟨b', A1, c1, A2, c2, A3, c3, vs, hv, h1, h2, h3, h4, h5, h6, h7⟩ := hI
  simp only [Value.iface.injEq, Value.pointer.injEq, Option.some.injEq, Addr.mk.injEq, and_true, true_and] at hv
  subst hv
  have cb := h2.cell 0
  have HC := Lib.hid (namedAt_any A1 NB c1 g P s w h3.pts hN hr hl)
  clear h1 h2 h3 h4 h5 h6 h7 hN
  have hE : hasB g (P, D, W) s = (named g P s).isSome := rfl
  rw [hE]
  cases hn : named g P s with
  | none =>
    rw [hn] at HC
    have hneq := fun w => run_neq_nil_ptr2 (P := Tryz.prog) w Tryz.underlying73
    clear hn
    go_enter Tryz.func56, Tryz.ntmps56
    go_wp2_with fail
    refine HC.out.mono ?_
    rintro e w1 ⟨rfl, rfl⟩
    unfold ptrAt
    go_wp2_with fail
    go_ret
    exact ⟨rfl, rfl⟩
  | some i =>
    rw [hn] at HC
    have hneq := fun w => run_neq_ptr_nil (P := Tryz.prog) w (b := ⟨nb NB i, 0, none⟩) Tryz.underlying73
    clear hn
    go_enter Tryz.func56, Tryz.ntmps56
    go_wp2_with fail
    refine HC.out.mono ?_
    rintro e w1 ⟨rfl, rfl⟩
    unfold ptrAt
    go_wp2_with fail
    go_ret
    exact ⟨rfl, rfl⟩

/-- A pointer to a part, or to none. -/
def PartO (w : World) (K : Nat → Prop) (NB : Nat) (o : Option PT) (v : Value) : Prop := match o with
  | none => v = .pointer none
  | some r => ∃ b, v = .pointer (some ⟨b, 0, none⟩) ∧ NIAt w K NB r.ni (.iface 61 (.pointer (some ⟨b, 0, none⟩)))

/-- The part in which a block is. -/
def outerO (g : List Bl) (items : List NI) (s : ByteArray) : Option PT := (outerP items).find? fun r => hasB g r s
set_option maxRecDepth 100000 in
set_option maxHeartbeats 2000000 in
theorem outerPart_any (TB NB : Nat) (g : List Bl) (K : Nat → Prop) (s : ByteArray) (w : World) (hv : validB g = true) (hT : NestR w TB NB g K) :
    Calls Tryz.prog 46 #[.pointer (some ⟨TB, 0, none⟩), .string s] w fun e w' => ∃ v, e = .returned v ∧ PartO w' K NB (outerO g (nestG g) s) v ∧ Below w.heap.size w w' := by
  obtain ⟨A, cap, I, ic, h1, h2, h3⟩ := hT.blk
  have c1 := h1.cell 1
  have hwt := nestG_wt hv
  have hil := wtL_length (nestG g)
  have HO := Lib.hid (outerParts_any NB (nestG g) I ic K w (by omega) hT.low h3)
  have HN := Lib.hid hT.nodes
  have HG := Lib.hid (nestG_good hv)
  have hol := outerP_len (nestG g)
  clear h1 h2 h3 hT
  go_enter Tryz.func46, Tryz.ntmps46
  go_wp2_with fail
  refine HO.out.mono ?_
  rintro e w1 ⟨A1, c1, rfl, hR, hb⟩
  obtain ⟨rs, hrs⟩ : ∃ rs, rs = outerP (nestG g) := ⟨_, rfl⟩
  rw [← hrs] at hR hol ⊢
  have HR := Lib.hid hR
  have HB := Lib.hid hb
  have HN1 := Lib.hid (HN.out.below hb)
  have HRS := Lib.hid hrs
  clear hR hb hrs
  go_wp2_with fail
  go_loop [13] (fun i => ∃ k : Nat, k ≤ rs.length ∧ i = .int .i64 k ∧ Hid (∀ j (h : j < rs.length), j < k → hasB g rs[j] s = false)) (fun i => rs.length - (intOf i).toNat)
  case atStart => exact ⟨0, Nat.zero_le _, rfl, fun j _ h => absurd h (by omega)⟩
  case round =>
    obtain ⟨k, hk, rfl, HK⟩ := hrel
    by_cases hlt : k < rs.length
    · obtain ⟨b0, off, b, rfl, x0, hni⟩ := HR.out.get hlt
      have hgd := HG.out rs[k] (outerP_all (by rw [← HRS.out]; exact List.getElem_mem hlt))
      obtain ⟨r, hr⟩ : ∃ r, r = rs[k] := ⟨_, rfl⟩
      rw [← hr] at hni hgd
      have HH := Lib.hid (has2_any NB b g r K s w1 hni HN1.out hgd.lt (by have := hgd.len hv; omega))
      have HNI := Lib.hid hni
      have HRR := Lib.hid hr
      clear hr hni hgd
      cases hh : hasB g r s with
      | true =>
        rw [hh] at HH
        have HF := Lib.hid (show outerO g (nestG g) s = some r by
          unfold outerO
          rw [← HRS.out, List.find?_eq_some_iff_getElem]
          exact ⟨hh, k, hlt, HRR.out.symm, fun j hj => by rw [HK.out j (by omega) hj]; rfl⟩)
        clear hh
        go_wp2_with fail
        refine HH.out.mono ?_
        rintro e w2 ⟨rfl, rfl⟩
        go_wp2_with fail
        go_ret
        exact ⟨_, rfl, by rw [HF.out]; exact ⟨b, rfl, HNI.out⟩, HB.out⟩
      | false =>
        rw [hh] at HH
        have HNH := Lib.hid (show hasB g rs[k] s = false by rw [← HRR.out]; exact hh)
        clear hh
        go_wp2_with fail
        refine HH.out.mono ?_
        rintro e w2 ⟨rfl, rfl⟩
        go_wp2_with fail
        go_round
        case rel =>
          refine ⟨k + 1, by omega, by go_num, fun j h hj => ?_⟩
          rcases Nat.lt_succ_iff_lt_or_eq.1 hj with hj | rfl
          · exact HK.out j h hj
          · exact HNH.out
        case measure => simp [intOf]; omega
    · have HF := Lib.hid (show outerO g (nestG g) s = none by
        unfold outerO
        rw [← HRS.out, List.find?_eq_none]
        intro x hx
        obtain ⟨j, hj, rfl⟩ := List.getElem_of_mem hx
        rw [HK.out j hj (by omega)]; decide)
      go_wp2_with fail
      go_ret
      exact ⟨_, rfl, by rw [HF.out]; rfl, HB.out⟩

/-- The first part with several doors. -/
def brokenO (items : List NI) : Option PT := (allP items).find? fun r => decide (1 < r.2.1.length)
set_option maxRecDepth 100000 in
set_option maxHeartbeats 2000000 in
theorem broken_any (TB NB : Nat) (g : List Bl) (K : Nat → Prop) (w : World) (hv : validB g = true) (hT : NestR w TB NB g K) :
    Calls Tryz.prog 51 #[.pointer (some ⟨TB, 0, none⟩)] w fun e w' => ∃ v, e = .returned v ∧ PartO w' K NB (brokenO (nestG g)) v ∧ Below w.heap.size w w' := by
  obtain ⟨A, cap, I, ic, h1, h2, h3⟩ := hT.blk
  have c1 := h1.cell 1
  have hwt := nestG_wt hv
  have HO := Lib.hid (allParts_all NB 52 (by decide) (nestG g) I ic K w hwt hT.low h3)
  have hol := allP_len 52 (nestG g) hwt
  clear h1 h2 h3 hT
  go_enter Tryz.func51, Tryz.ntmps51
  go_wp2_with fail
  refine HO.out.mono ?_
  rintro e w1 ⟨A1, c1, rfl, hR, hb⟩
  obtain ⟨rs, hrs⟩ : ∃ rs, rs = allP (nestG g) := ⟨_, rfl⟩
  rw [← hrs] at hR hol ⊢
  have HR := Lib.hid hR
  have HB := Lib.hid hb
  have HRS := Lib.hid hrs
  clear hR hb hrs
  go_wp2_with fail
  go_loop [11] (fun i => ∃ k : Nat, k ≤ rs.length ∧ i = .int .i64 k ∧ Hid (∀ j (h : j < rs.length), j < k → decide (1 < rs[j].2.1.length) = false)) (fun i => rs.length - (intOf i).toNat)
  case atStart => exact ⟨0, Nat.zero_le _, rfl, fun j _ h => absurd h (by omega)⟩
  case round =>
    obtain ⟨k, hk, rfl, HK⟩ := hrel
    by_cases hlt : k < rs.length
    · obtain ⟨b0, off, b, rfl, x0, hni⟩ := HR.out.get hlt
      obtain ⟨r, hr⟩ : ∃ r, r = rs[k] := ⟨_, rfl⟩
      rw [← hr] at hni
      have HNI := Lib.hid hni
      have HRR := Lib.hid hr
      clear hr
      obtain ⟨P, D, W⟩ := r
      unfold PT.ni NIAt at hni
      obtain ⟨b', A1, c1, A2, c2, A3, c3, vs, hv7, h1, h2, h3, h4, h5, h6, h7⟩ := hni
      simp only [Value.iface.injEq, Value.pointer.injEq, Option.some.injEq, Addr.mk.injEq, and_true, true_and] at hv7
      subst hv7
      have cb := h2.cell 1
      clear h1 h2 h3 h4 h5 h6 h7
      by_cases hh : 1 < D.length
      · have q1 : (1 : Int) < D.length := by omega
        have HF := Lib.hid (show brokenO (nestG g) = some (P, D, W) by
          unfold brokenO
          rw [← HRS.out, List.find?_eq_some_iff_getElem]
          exact ⟨decide_eq_true hh, k, hlt, HRR.out.symm, fun j hj => by rw [HK.out j (by omega) hj]; rfl⟩)
        clear hh
        go_wp2_with fail
        go_ret
        exact ⟨_, rfl, by rw [HF.out]; exact ⟨b, rfl, HNI.out⟩, HB.out⟩
      · have q1 : ¬ (1 : Int) < D.length := by omega
        have HNH := Lib.hid (show decide (1 < rs[k].2.1.length) = false by rw [← HRR.out]; exact decide_eq_false hh)
        clear hh
        go_wp2_with fail
        go_round
        case rel =>
          refine ⟨k + 1, by omega, by go_num, fun j h hj => ?_⟩
          rcases Nat.lt_succ_iff_lt_or_eq.1 hj with hj | rfl
          · exact HK.out j h hj
          · exact HNH.out
        case measure => simp [intOf]; omega
    · have HF := Lib.hid (show brokenO (nestG g) = none by
        unfold brokenO
        rw [← HRS.out, List.find?_eq_none]
        intro x hx
        obtain ⟨j, hj, rfl⟩ := List.getElem_of_mem hx
        rw [HK.out j hj (by omega)]; decide)
      go_wp2_with fail
      go_ret
      exact ⟨_, rfl, by rw [HF.out]; rfl, HB.out⟩

/-- The names of parts. -/
def partNs (g : List Bl) (rs : List PT) : List ByteArray := rs.map fun r => namesAt g r.1
set_option maxRecDepth 100000 in
set_option maxHeartbeats 2000000 in
theorem namesOfParts_any (NB : Nat) (g : List Bl) (rs : List PT) (K : Nat → Prop) (A : Option Addr) (cap : Nat) (w : World) (hv : validB g = true) (hR : RPsAt w K NB rs A) (hN : NodesIn w NB g) (hg : ∀ r ∈ rs, GoodP g r) (hl : rs.length ≤ 10000) :
    Calls Tryz.prog 40 #[.slice A rs.length cap] w fun e w' => ∃ v, e = .returned v ∧ OwnStr w' w.heap.size v (partNs g rs) ∧ Below w.heap.size w w' := by
  obtain ⟨ip, hip, hz0, hz1, hz2⟩ := info_parts info_str
  have HR := Lib.hid hR
  have HN := Lib.hid hN
  have HG := Lib.hid hg
  clear hR hN hg
  go_enter Tryz.func40, Tryz.ntmps40
  go_wp2_with fail
  go_loopw [3, 8] (fun v0 i wr => ∃ (j : Nat) (v : Value), v = v0 ∧ j ≤ rs.length ∧ i = .int .i64 j ∧ Hid (OwnStr wr w.heap.size v (partNs g (rs.take j))) ∧ Hid (Below w.heap.size w wr)) (fun _ i _ => rs.length - (intOf i).toNat)
  case atStart => exact ⟨0, _, rfl, Nat.zero_le _, rfl, World.ownsRow_nil _ _ _ _, Below.refl _ _⟩
  case round =>
    obtain ⟨j, v, rfl, hj, rfl, HO, HB⟩ := hrel
    have hsz := HB.out.size
    by_cases hlt : j < rs.length
    · obtain ⟨b0, off, b, rfl, x0, hni⟩ := (HR.out.below HB.out).get hlt
      obtain ⟨r, hr⟩ : ∃ r, r = rs[j] := ⟨_, rfl⟩
      rw [← hr] at hni
      have hgd := HG.out r (hr ▸ List.getElem_mem hlt)
      have HSN := Lib.hid (show partNs g (rs.take (j + 1)) = partNs g (rs.take j) ++ [namesAt g r.1] by
        unfold partNs
        rw [List.take_succ_eq_append_getElem hlt, List.map_append, ← hr]; rfl)
      obtain ⟨P2, hP2⟩ : ∃ P2, P2 = partNs g (rs.take j) := ⟨_, rfl⟩
      have hPl : P2.length ≤ 10000 := by rw [hP2]; unfold partNs; rw [List.length_map, List.length_take]; omega
      rw [← hP2] at HO HSN
      clear hr hP2
      obtain ⟨P, D, W⟩ := r
      unfold PT.ni NIAt at hni
      obtain ⟨b', A1, c1, A2, c2, A3, c3, vs, hv7, h1, h2, h3, h4, h5, h6, h7⟩ := hni
      simp only [Value.iface.injEq, Value.pointer.injEq, Option.some.injEq, Addr.mk.injEq, and_true, true_and] at hv7
      subst hv7
      have cb := h2.cell 0
      have hgP : ∀ x ∈ P, x < g.length := hgd.lt
      have hgl : P.length ≤ 26 := hgd.len hv
      have hN2 := HN.out.below HB.out
      have hP : Pts wr A1 (nodesAt NB g P) := fun hp => by
        obtain ⟨b, off, e, _, hbl, hc⟩ := h3 (by rw [nodesAt_length] at hp; exact hp)
        refine ⟨b, off, e, hbl, fun k hk => ?_⟩
        rw [nodesAt_length] at hk
        have hget : (nodesAt NB g P)[k]'(by rw [nodesAt_length]; exact hk) = (nb NB P[k], nthName g P[k]) := by simp [nodesAt]
        have hkg := hgP P[k] (List.getElem_mem hk)
        have hn1 := hN2 _ hkg
        rw [hget]
        exact ⟨hc k hk, hn1.lt, by rw [hn1.cell 1, nthName_at hkg]; rfl⟩
      have hjn := join_any A1 c1 (nodesAt NB g P) wr hP (by rw [nodesAt_length]; omega) (by rw [joined_nodesAt, namesAt_size hv P hgP]; omega)
      rw [nodesAt_length, joined_nodesAt] at hjn
      have HJ := Lib.hid hjn
      obtain ⟨txt, htx⟩ : ∃ txt, txt = namesAt g P := ⟨_, rfl⟩
      have HSN2 := Lib.hid (show partNs g (rs.take (j + 1)) = P2 ++ [txt] by rw [HSN.out, htx])
      rw [← htx] at HJ
      clear h1 h2 h3 h4 h5 h6 h7 hgd hgP hN2 hP hjn htx
      go_wp2_with fail
      refine HJ.out.mono ?_
      rintro e w8 ⟨rfl, b8⟩
      have HO8 := Lib.hid (ownRow_below HO.out b8)
      have HB8 := Lib.hid (HB.out.trans (b8.mono HB.out.size))
      have hszq := HB8.out.size
      clear b8
      go_wp2_with (at_builtin; refine wpList_append_own _ rfl _ _ 24 rfl w.heap.size 9 ip (.string ⟨#[]⟩) 1 16 Tryz.underlying24 hip hz0 hz1 hz2 rfl (by decide) _ _ _ rfl (HO8.out.alloc _) ⟨w8.heap.size, 0, none⟩ 1 1 [.string txt] rfl rfl ?c1 ?c2 ?c3 ?c4 ?c5 ?_)
      case c1 =>
        intro j u hj
        match j, hj with
        | 0, hj =>
          have hu : Value.string txt = u := by simpa using hj
          rw [← hu]
          simp [Addr.add]
      case c2 => intro u hu; have hu' : u = .string txt := by simpa using hu
                 subst hu'; rfl
      case c3 => unfold maxLen; omega
      case c4 => omega
      case c5 => simp; omega
      intro v' w9 hown' hgrow _
      have hsz := (HO8.out.alloc (.cells #[.string txt] 9)).lt
      have hB9 := (HB8.out.alloc hszq (.cells #[.string txt] 9)).grown hgrow (by simp; omega) (fun j hj => (hsz j hj).1)
      have HO9 : Hid (OwnStr w9 w.heap.size v' (P2 ++ [txt])) := by
        show w9.ownsRow w.heap.size 9 1 v' (P2 ++ [txt]).length ((P2 ++ [txt]).map Value.string)
        rw [List.length_append, List.map_append]; exact hown'
      have HB9 := Lib.hid hB9
      clear hown' hsz hgrow hB9
      go_wp2_with fail
      go_roundw
      case rel => exact ⟨j + 1, v', rfl, by omega, by go_num, by rw [HSN2.out]; exact HO9.out, HB9.out⟩
      case measure => simp [intOf]; omega
    · have HE := Lib.hid (show OwnStr wr w.heap.size v (partNs g rs) by have := HO.out; rwa [List.take_of_length_le (by omega)] at this)
      go_wp2_with fail
      go_ret
      exact ⟨v, rfl, HE.out, HB.out⟩
end Go.Proofs.YtdpjdhllaokbfaaGreat
