/-
  Contracts: a run of a graph, block by block: the iterator and what makes it.
-/
import Derived.Test.YtgkamcnbpiipoaaGreatRuns
import Derived.Test.YtgkamcnbpiipoaaGreatIter
import Derived.Test.YtgkamcnbpiipoaaGreatNextOf
import Derived.RangeFuncBound
import Derived.RangeFuncCalls
import Derived.RangeFuncLeaves
import Derived.Shelf.Abstract
import Derived.Shelf.RegionOpen
import Derived.WalkKit
import Derived.OwnWalkIn
import Derived.TacticsInMore
import Derived.LoopNIn
import Derived.LoopIn
import Derived.Sort.LoopGhostIn
namespace Go.Proofs.YtgkamcnbpiipoaaGreat
open Go.RowKit Go.Sort Go.Shelf
attribute [local go_sem] Oper.semAt_some

theorem chosen_any (u v : Option Addr) (c : UInt8) (w : World) :
    Calls Tryz.prog 56 #[.agg #[.pointer u, .pointer v], .int .u8 c.toNat] w fun e w' => e = .returned (.pointer (if c = 108 then u else v)) ∧ Below w.heap.size w w' := by
  by_cases h : c = 108
  · have q1 : (c.toNat : Int) = 108 := by rw [h]; rfl
    rw [if_pos h]
    clear h
    go_enter Tryz.func56, Tryz.ntmps56
    go_wp2
    go_ret
    exact ⟨rfl, (Below.refl _ _).alloc (Nat.le_refl _) _⟩
  · have q1 : ((c.toNat : Int) == 108) = false := byte_ne (b := 108) h
    rw [if_neg h]
    clear h
    go_enter Tryz.func56, Tryz.ntmps56
    go_wp2
    go_ret
    exact ⟨rfl, (Below.refl _ _).alloc (Nat.le_refl _) _⟩

theorem bytes_cons {s : ByteArray} (h : 0 < s.size) : s.data.toList = s[0] :: (s.extract 1 s.size).data.toList := by
  have h0 := byte_at s 0 h
  rw [← Lib.toList_data (s.extract 1 s.size), Lib.extract_toList]
  have hl := list_of_size (s := s)
  cases hd : s.data.toList with
  | nil => rw [hd] at hl; simp at hl; omega
  | cons c r =>
    rw [hd] at h0 hl
    have : c = s[0] := by simpa using h0
    rw [this]
    simp only [List.drop_succ_cons, List.drop_zero, List.length_cons] at hl ⊢
    rw [List.take_of_length_le (by omega)]

theorem beq_empty {s : ByteArray} (h : 0 < s.size) : (s.toList == ([] : List UInt8)) = false := by
  have hl := list_of_size (s := s)
  rw [Lib.toList_data]
  cases hd : s.data.toList with
  | nil => rw [hd] at hl; simp at hl; omega
  | cons c r => rfl

/-- Each node of a graph, wherever the row of them lies. -/
def NodesIn (w : World) (NB : Nat) (g : List Bl) : Prop := ∀ i (h : i < g.length), Blk w (nb NB i) 64 #[.int .i64 i, .string g[i].1, ends NB g i]

theorem NodesIn.of {w : World} {NB : Nat} {g : List Bl} (h : Nodes w NB g (ends NB g)) : NodesIn w NB g := h.node
theorem NodesIn.below {w w' : World} {NB : Nat} {g : List Bl} (h : NodesIn w NB g) (hb : Below w.heap.size w w') : NodesIn w' NB g := fun i hi => (hb.block _ (h i hi).lt).trans (h i hi)
theorem NodesIn.kept {w w' : World} {NB : Nat} {g : List Bl} {R : Nat → Prop} (h : NodesIn w NB g) (hk : Keeps R w w') (hR : ∀ i, i < g.length → R (nb NB i)) : NodesIn w' NB g :=
  fun i hi => (hk.2 _ (h i hi).lt (hR i hi)).trans (h i hi)

/-- How a run is handed out. -/
abbrev encRun (NB : Nat) (x : Nat × Nat) : Array Value := #[nptr NB x.1, .int .i64 x.2]

set_option maxHeartbeats 1000000 in
theorem runFrom1_own (n : Nat) (NB CB EB : Nat) (g : List Bl) (choices : ByteArray) (R : Nat → Prop) (w : World) (hn : 1 ≤ n) (hv : validB g = true)
    (hC : w.cell? ⟨CB, 0, none⟩ = some (.string choices)) (hE : w.cell? ⟨EB, 0, none⟩ = some (nptr NB 0)) (hN : NodesIn w NB g) (hR : ∀ i, i < g.length → R (nb NB i)) (hCl : CB < w.heap.size) (hEl : EB < w.heap.size) :
    SeqOwn Fence.wide n Tryz.prog 55 #[.pointer (some ⟨CB, 0, none⟩), .pointer (some ⟨EB, 0, none⟩)] (encRun NB) R (fun pre => pre.length < 60) (fun pre x => pre ++ [x] <+: runOf g choices)
      (fun xs => xs = runOf g choices) (fun pre => pre <+: runOf g choices) w := by
  intro l J Jx W hW hJ hBd hY h0
  have HC := Lib.hid ((hW.cell (p := ⟨CB, 0, none⟩) hCl).trans hC)
  have HE := Lib.hid ((hW.cell (p := ⟨EB, 0, none⟩) hEl).trans hE)
  have HN := Lib.hid (hN.below hW)
  have HY := Lib.hid hY
  have HJ := Lib.hid hJ
  have HBD := Lib.hid hBd
  have hc0 := HC.out
  have he0 := HE.out
  clear hC hE hN hW hY hJ hBd
  refine callsIn_of_wp Tryz.func55 rfl trivial ?_ rfl
  simp only [Tryz.ntmps55, List.size_toArray, List.length_cons, List.length_nil, Nat.reduceAdd, Nat.reduceSub, Array.replicate_succ, Array.replicate_zero, List.push_toArray, List.append_toArray, List.nil_append, List.cons_append]
  gi_wp2
  gi_loopg [4, 5] 61 (fun gk sl p wr => (∃ O pre i left, gk = 61 - pre.length ∧ sl = .string left ∧ p = nptr NB i ∧ J O pre wr ∧ Going g choices pre i left.data.toList ∧ NodesIn wr NB g) ∨ (gk = 0 ∧ p = .pointer none ∧ ∃ O, J O (runOf g choices) wr))
  case atStart => exact .inl ⟨_, [], 0, choices, rfl, rfl, rfl, h0, Going.start hv choices, HN.out⟩
  case round =>
    rcases hrel with ⟨O, pre, i, left, rfl, rfl, rfl, hJs, hG, hNs⟩ | ⟨rfl, rfl, O, hJs⟩
    · have hl := HBD.out _ _ _ hJs
      have x2 := (hNs i hG.lt).cell 2
      rcases ends_of (NB := NB) hG.lt (goes hv hG.lt) with ⟨hn0, he⟩ | ⟨p, hp, hn1, he⟩ | ⟨p, q, hp, hq, hn2, he⟩
      · have x2' : wr.cell? ⟨nb NB i, 2, none⟩ = some (.iface 67 (.agg #[])) := by rw [x2, he]; rfl
        have a1 := stop_no_jump
        have a2 := stop_no_branch
        clear x2 he
        obtain ⟨fn, tmps, assign, body, hy, hR⟩ := HY.out O pre (i, 0) wr hJs (by rw [hG.stop hl hn0]; exact List.prefix_refl _)
        have hy' : (Instr.yield l #[nptr NB i, .int .i64 0]).run Tryz.prog wr = .ok (.round l fn tmps assign body) wr := hy
        have HR := Lib.hid (hG.stop hl hn0)
        clear hy hn0 hG
        gi_wp2
        refine hR.mono ?_
        rintro e W3 (⟨rfl, hJ3, hk3⟩ | ⟨rfl, hJx3⟩)
        · gi_wp2
          gi_roundg 0
          case measure => omega
          case rel => exact .inr ⟨rfl, rfl, O, by rw [HR.out]; exact hJ3⟩
        · gi_wp2
          refine bodyPost_ret (results_none rfl _ _ _) rfl ?_
          exact ⟨⟨_, rfl⟩, .inr ⟨pre ++ [(i, 0)], by rw [HR.out]; exact List.prefix_refl _, hJx3⟩⟩
      · have x2' : wr.cell? ⟨nb NB i, 2, none⟩ = some (.iface 103 (.agg #[nptr NB p])) := by rw [x2, he]; rfl
        have a1 := is_jump
        clear x2 he
        have hG2 := hG.jump hv hl hn1
        have HG2 := Lib.hid hG2
        have hpx : pre ++ [(i, 2)] <+: runOf g choices := by rw [hG2.all]; exact List.prefix_append _ _
        have HPX := Lib.hid hpx
        have hJ1 := HJ.out O pre wr (wr.alloc (.cells #[nptr NB p] 103)) hJs (Turns.alloc _ _ _)
        obtain ⟨fn, tmps, assign, body, hy, hRd⟩ := HY.out _ pre (i, 2) _ hJ1 hpx
        have hy' : (Instr.yield l #[nptr NB i, .int .i64 2]).run Tryz.prog (wr.alloc (.cells #[nptr NB p] 103)) = .ok (.round l fn tmps assign body) (wr.alloc (.cells #[nptr NB p] 103)) := hy
        have HN2 := Lib.hid (hNs.below ((Below.refl _ wr).alloc (Nat.le_refl _) (.cells #[nptr NB p] 103)))
        clear hy hG hG2 hn1 hpx hJ1 hNs
        gi_wp2
        refine hRd.mono ?_
        rintro e W3 (⟨rfl, hJ3, hk3⟩ | ⟨rfl, hJx3⟩)
        · have HN3 := Lib.hid (HN2.out.kept hk3 fun i hi => .inl (hR i hi))
          gi_wp2
          gi_roundg (61 - (pre ++ [((i : Nat), (2 : Nat))]).length)
          case measure => simp only [List.length_append, List.length_cons, List.length_nil]; omega
          case rel => exact .inl ⟨_, _, p, left, rfl, rfl, rfl, hJ3, HG2.out, HN3.out⟩
        · gi_wp2
          refine bodyPost_ret (results_none rfl _ _ _) rfl ?_
          exact ⟨⟨_, rfl⟩, .inr ⟨_, HPX.out, hJx3⟩⟩
      · have x2' : wr.cell? ⟨nb NB i, 2, none⟩ = some (.iface 105 (.agg #[nptr NB p, nptr NB q])) := by rw [x2, he]; rfl
        have a1 := branch_no_jump
        have a2 := is_branch
        clear x2 he
        have HN2 := Lib.hid (hNs.below ((Below.refl _ wr).alloc (Nat.le_refl _) (.cells #[nptr NB p, nptr NB q] 105)))
        have hJ1 := HJ.out O pre wr (wr.alloc (.cells #[nptr NB p, nptr NB q] 105)) hJs (Turns.alloc _ _ _)
        by_cases h0l : left.size = 0
        · have hle : left = ⟨#[]⟩ := ba_ext (List.eq_nil_of_length_eq_zero (list_of_size.trans h0l))
          subst hle
          have hst := hG.ask hl hn2
          have HR := Lib.hid hst
          obtain ⟨fn, tmps, assign, body, hy, hRd⟩ := HY.out _ pre (i, 1) _ hJ1 (by rw [hst]; exact List.prefix_refl _)
          have hy' : (Instr.yield l #[nptr NB i, .int .i64 1]).run Tryz.prog (wr.alloc (.cells #[nptr NB p, nptr NB q] 105)) = .ok (.round l fn tmps assign body) (wr.alloc (.cells #[nptr NB p, nptr NB q] 105)) := hy
          clear hy hG hst hn2 hJ1 hNs
          gi_wp2
          refine hRd.mono ?_
          rintro e W3 (⟨rfl, hJ3, hk3⟩ | ⟨rfl, hJx3⟩)
          · gi_wp2
            gi_roundg 0
            case measure => omega
            case rel => exact .inr ⟨rfl, rfl, _, by rw [HR.out]; exact hJ3⟩
          · gi_wp2
            refine bodyPost_ret (results_none rfl _ _ _) rfl ?_
            exact ⟨⟨_, rfl⟩, .inr ⟨_, by rw [HR.out]; exact List.prefix_refl _, hJx3⟩⟩
        · have hlt : 0 < left.size := by omega
          have hcons := bytes_cons hlt
          rw [hcons] at hG
          have hG2 := hG.go hv hl hn2
          have HG2 := Lib.hid hG2
          have hpx : pre ++ [(i, 2)] <+: runOf g choices := by rw [hG2.all]; exact List.prefix_append _ _
          have HPX := Lib.hid hpx
          obtain ⟨r, hr⟩ : ∃ r, r = (if left[0] = 108 then p else q) := ⟨_, rfl⟩
          have hch := fun W => chosen_any (some ⟨nb NB p, 0, none⟩) (some ⟨nb NB q, 0, none⟩) left[0] W
          have eptr : (if left[0] = 108 then (some ⟨nb NB p, 0, none⟩ : Option Addr) else some ⟨nb NB q, 0, none⟩) = some ⟨nb NB r, 0, none⟩ := by rw [hr]; split <;> rfl
          rw [eptr] at hch
          have HCH := Lib.hid hch
          have HRR := Lib.hid hr
          have q0 := beq_empty hlt
          clear hG hG2 hn2 hpx hNs hcons hch hr eptr
          gi_wp2
          gi_region_with (refine ⟨trivial, ?_⟩; gi_at_call 56; refine (callsIn_wide.2 (HCH.out _)).mono ?_; rintro e w' ⟨rfl, hb⟩)
          all_goals
            have hbb := ((Below.refl _ (wr.alloc (.cells #[nptr NB p, nptr NB q] 105))).drew.trans hb : Below (wr.alloc (.cells #[nptr NB p, nptr NB q] 105)).heap.size _ w')
            have hJ2 := HJ.out _ pre _ w' hJ1 (Turns.of_below hbb)
            have HN2' := Lib.hid (HN2.out.below hbb)
            obtain ⟨fn, tmps, assign, body, hy, hRd⟩ := HY.out _ pre (i, 2) _ hJ2 HPX.out
            have hy' : (Instr.yield l #[nptr NB i, .int .i64 2]).run Tryz.prog w' = .ok (.round l fn tmps assign body) w' := hy
            clear hy hJ2 hJ1 hbb hb
            gi_wp2
            refine hRd.mono ?_
            rintro e W3 (⟨rfl, hJ3, hk3⟩ | ⟨rfl, hJx3⟩)
            · have HN3 := Lib.hid (HN2'.out.kept hk3 fun i hi => .inl (hR i hi))
              gi_wp2
              gi_roundg (61 - (pre ++ [((i : Nat), (2 : Nat))]).length)
              case measure => simp only [List.length_append, List.length_cons, List.length_nil]; omega
              case rel => exact .inl ⟨_, _, r, left.extract 1 left.size, rfl, rfl, rfl, hJ3, by rw [HRR.out]; exact HG2.out, HN3.out⟩
            · gi_wp2
              refine bodyPost_ret (results_none rfl _ _ _) rfl ?_
              exact ⟨⟨_, rfl⟩, .inr ⟨_, HPX.out, hJx3⟩⟩
    · gi_wp2
      go_end0
      exact ⟨⟨_, rfl⟩, .inl ⟨_, _, rfl, hJs⟩⟩
end Go.Proofs.YtgkamcnbpiipoaaGreat

/-
  Contracts of RunGraph, the program's and the model's.
-/
namespace Go.Proofs.YtgkamcnbpiipoaaGreat
open Go.RowKit Go.Sort Go.Shelf
attribute [local go_sem] Oper.semAt_some

def runB (g : List Bl) (choices : ByteArray) : Bool := validB g && choicesB choices
def runT (g : List Bl) (choices : ByteArray) : ByteArray := if runB g choices then traceOf g choices else ⟨#[]⟩
def runE (g : List Bl) (choices : ByteArray) : Int := if runB g choices then (endOf g choices : Int) else 0

theorem runB_no {g : List Bl} {choices : ByteArray} (h : validB g = false) : runB g choices = false := by unfold runB; rw [h]; rfl
theorem runB_no' {g : List Bl} {choices : ByteArray} (h : choicesB choices = false) : runB g choices = false := by unfold runB; rw [h, Bool.and_false]
theorem runB_yes {g : List Bl} {choices : ByteArray} (h : validB g = true) (h' : choicesB choices = true) : runB g choices = true := by unfold runB; rw [h, h']; rfl
theorem runT_no {g : List Bl} {choices : ByteArray} (h : runB g choices = false) : runT g choices = ⟨#[]⟩ := by unfold runT; rw [h]; rfl
theorem runE_no {g : List Bl} {choices : ByteArray} (h : runB g choices = false) : runE g choices = 0 := by unfold runE; rw [h]; rfl
theorem runT_yes {g : List Bl} {choices : ByteArray} (h : runB g choices = true) : runT g choices = traceOf g choices := by unfold runT; rw [h]; rfl
theorem runE_yes {g : List Bl} {choices : ByteArray} (h : runB g choices = true) : runE g choices = (endOf g choices : Int) := by unfold runE; rw [h]; rfl

theorem ret_sib {a a' : ByteArray} {i i' : Int} {b b' : Bool} (h1 : a = a') (h2 : i = i') (h3 : b = b') : Ending.returned (.tuple #[.string a, .int .i64 i, .bool b]) = .returned (.tuple #[.string a', .int .i64 i', .bool b']) := by rw [h1, h2, h3]

/-- What RunGraph returns. -/
def RunPost (g : List Bl) (choices : ByteArray) (w : World) (e : Ending) (w' : World) : Prop :=
  e = .returned (.tuple #[.string (runT g choices), .int .i64 (runE g choices), .bool (runB g choices)]) ∧ Below w.heap.size w w'

theorem runFrom_any (u : Option Addr) (choices : ByteArray) (w : World) :
    Calls Tryz.prog 31 #[.pointer u, .string choices] w fun e w' =>
      e = .returned (.func (.func 55) #[] #[.pointer (some ⟨w.heap.size + 1, 0, none⟩), .pointer (some ⟨w.heap.size, 0, none⟩)]) ∧
      w' = (w.alloc (.cells #[.pointer u] 60)).alloc (.cells #[.string choices] 9) := by
  go_enter Tryz.func31, Tryz.ntmps31
  go_wp2
  go_ret
  exact ⟨rfl, rfl⟩

theorem implRun_no (A : Option Addr) (cap : Nat) (g : List Bl) (choices : ByteArray) (w : World) (hg : Gr w A g) (hn : g.length + tot g ≤ 1048576) (hc : choices.size ≤ 4611686018427387904) (hb : runB g choices = false) :
    Calls Tryz.prog 12 #[.slice A g.length cap, .string choices] w (RunPost g choices w) := by
  have H1 := Lib.hid (runT_no hb)
  have H2 := Lib.hid (runE_no hb)
  have H3 := Lib.hid hb
  by_cases hv : validB g = true
  · have HC := Lib.hid (nodesOf_yes A cap g w hg hn hv)
    have hcb : choicesB choices = false := by
      cases h : choicesB choices with
      | false => rfl
      | true => rw [runB_yes hv h] at hb; cases hb
    have HV := Lib.hid (fun w => implChoices_any choices w hc)
    rw [hcb] at HV
    clear hb hv hcb
    go_enter Tryz.func12, Tryz.ntmps12
    go_wp2_with fail
    refine HC.out.mono ?_
    rintro e w1 ⟨NB, hle, rfl, hN, b1⟩
    clear hN
    go_wp2_with fail
    refine (HV.out w1).mono ?_
    rintro e w2 ⟨rfl, b2⟩
    go_wp2_with fail
    go_ret3
    exact ⟨ret_sib H1.out.symm H2.out.symm H3.out.symm, below_trans_self b1 b2⟩
  · have hv' : validB g = false := by simpa using hv
    have HC := Lib.hid (nodesOf_no A cap g w hg hn hv')
    clear hb hv hv'
    go_enter Tryz.func12, Tryz.ntmps12
    go_wp2_with fail
    refine HC.out.mono ?_
    rintro e w1 ⟨rfl, b1⟩
    go_wp2_with fail
    go_ret3
    exact ⟨ret_sib H1.out.symm H2.out.symm H3.out.symm, b1⟩

theorem below_put {n₀ : Nat} {a W : World} (h : Below n₀ a W) {l : Nat} (hl : n₀ ≤ l) (o : Obj) : Below n₀ a (W.putObj l o) :=
  h.trans ⟨rfl, rfl, rfl, by simp, fun k hk => World.putObj_heap_other (by omega)⟩

theorem boxes_step (W : World) (B : Nat) (t1 t2 : TypeId) (u1 u2 v1 v2 : Value) (h1 : Boxed W B t1 u1) (h2 : Boxed W (B + 1) t2 u2) :
    Boxed ((W.setCell ⟨B, 0, none⟩ v1).setCell ⟨B + 1, 0, none⟩ v2).drew B t1 v1 ∧ Boxed ((W.setCell ⟨B, 0, none⟩ v1).setCell ⟨B + 1, 0, none⟩ v2).drew (B + 1) t2 v2 ∧
      Turns (fun k => k = B ∨ k = B + 1) W ((W.setCell ⟨B, 0, none⟩ v1).setCell ⟨B + 1, 0, none⟩ v2).drew :=
  ⟨(h1.set v1).other (by omega) v2, (h2.other (by omega) v1).set v2,
    (Turns.setCell (p := ⟨B, 0, none⟩) (.inl rfl) v1).trans (((Turns.setCell (p := ⟨B + 1, 0, none⟩) (.inr rfl) v2).wider fun k hk => .inl hk).trans (Turns.drew _ _))⟩

set_option maxRecDepth 100000 in
set_option maxHeartbeats 2000000 in
theorem implRun_yes (A : Option Addr) (cap : Nat) (g : List Bl) (choices : ByteArray) (w : World) (hg : Gr w A g) (hn : g.length + tot g ≤ 1048576) (hc : choices.size ≤ 4611686018427387904) (hb : runB g choices = true) :
    Calls Tryz.prog 12 #[.slice A g.length cap, .string choices] w (RunPost g choices w) := by
  have H1 := Lib.hid (runT_yes hb)
  have H2 := Lib.hid (runE_yes hb)
  have H3 := Lib.hid hb
  have hv : validB g = true := by unfold runB at hb; exact (Bool.and_eq_true_iff.1 hb).1
  have hcb : choicesB choices = true := by unfold runB at hb; exact (Bool.and_eq_true_iff.1 hb).2
  have HC := Lib.hid (nodesOf_yes A cap g w hg hn hv)
  have HV := Lib.hid (fun w => implChoices_any choices w hc)
  rw [hcb] at HV
  have hpos := (valid_iff.1 hv).1
  have HT := Lib.hid hv
  clear hb hv hcb
  refine (callsIn_wide (n := 4)).1 ?_
  refine callsIn_of_wp_marks Tryz.func12 rfl trivial ?_ rfl
  simp only [Tryz.ntmps12, List.size_toArray, List.length_cons, List.length_nil, Nat.reduceAdd, Nat.reduceSub, Array.replicate_succ, Array.replicate_zero, List.push_toArray, List.append_toArray, List.nil_append, List.cons_append]
  refine wpIn_mono (Q := calm _) ?_ calm_le
  gi_wp2_with fail
  refine ⟨trivial, (callsIn_wide.2 HC.out).mono ?_⟩
  rintro e w1 ⟨NB, hle, rfl, hN, b1⟩
  have HN := Lib.hid hN
  clear hN
  gi_wp2_with fail
  refine ⟨trivial, (callsIn_wide.2 (HV.out w1)).mono ?_⟩
  rintro e w2 ⟨rfl, b2⟩
  have HN2 := Lib.hid (HN.out.below b2)
  have HB2 := Lib.hid (below_trans_self b1 b2)
  have x0 := HN2.out.ptr hpos
  have hNl := HN2.out.lt
  clear b1 b2
  gi_wp2_with fail
  refine ⟨trivial, (callsIn_wide.2 (runFrom_any _ choices _)).mono ?_⟩
  rintro e w3 ⟨rfl, hw3⟩
  have hs3 : w3.heap.size = w2.heap.size + 4 := by rw [hw3]; simp
  have k1 : Boxed w3 w2.heap.size 9 (.string ⟨#[]⟩) := by rw [hw3]; exact (((Boxed.new w2 _ _).alloc _).alloc _).alloc _
  have k2 : Boxed w3 (w2.heap.size + 1) 3 (.int .i64 0) := by
    have := ((Boxed.new (w2.alloc (.cells #[.string ⟨#[]⟩] 9)) 3 (.int .i64 0)).alloc (.cells #[nptr NB 0] 60)).alloc (.cells #[.string choices] 9)
    rw [hw3]; simpa using this
  have hb3 : Below w2.heap.size w2 w3 := by
    rw [hw3]; exact ((((Below.refl _ w2).alloc (Nat.le_refl _) _).alloc (by simp) _).alloc (by simp; omega) _).alloc (by simp; omega) _
  have kE : w3.cell? ⟨w2.heap.size + 1 + 1, 0, none⟩ = some (nptr NB 0) := by
    have := Boxed.new ((w2.alloc (.cells #[.string ⟨#[]⟩] 9)).alloc (.cells #[.int .i64 0] 3)) 60 (nptr NB 0)
    rw [World.size_alloc, World.size_alloc] at this
    have b : Boxed w3 (w2.heap.size + 1 + 1) 60 (nptr NB 0) := by rw [hw3]; exact Boxed.alloc this _
    exact b.cell
  have kC : w3.cell? ⟨w2.heap.size + 1 + 1 + 1, 0, none⟩ = some (.string choices) := by
    have := Boxed.new (((w2.alloc (.cells #[.string ⟨#[]⟩] 9)).alloc (.cells #[.int .i64 0] 3)).alloc (.cells #[nptr NB 0] 60)) 9 (.string choices)
    have b : Boxed w3 (w2.heap.size + 1 + 1 + 1) 9 (.string choices) := by rw [hw3]; simpa using this
    exact b.cell
  have HN3 := Lib.hid (NodesIn.of (HN2.out.below hb3))
  have HB3 := Lib.hid (below_trans_self HB2.out hb3)
  have HNL := Lib.hid (fun i hi => (HN2.out.node i hi).lt)
  clear hw3
  gi_wp2_with fail
  refine wpIn_rangeFunc_mine rfl (by decide) (gf := 55) rfl trivial (enters_of Tryz.func55 (by kernel_rfl) rfl)
    (runFrom1_own 3 NB _ _ g choices (fun k => k < w2.heap.size) w3 (by decide) HT.out kC kE HN3.out (fun i hi => HNL.out i hi) (by omega) (by omega)) (Below.refl _ _) (fun _ => rfl) (fun k hk => by omega)
    (fun _ pre W => Boxed W w2.heap.size 9 (.string (namesAt g (pre.map (·.1)))) ∧ Boxed W (w2.heap.size + 1) 3 (.int .i64 (lastEnd pre : Nat)) ∧ NodesIn W NB g ∧ Below w.heap.size w W ∧ pre.length < 60 ∧ ∀ x ∈ pre, x.1 < g.length)
    (fun c pre W => c = .exit 0 ∧ pre.length = 60 ∧ Boxed W w2.heap.size 9 (.string (namesAt g (pre.map (·.1)))) ∧ Boxed W (w2.heap.size + 1) 3 (.int .i64 (lastEnd pre : Nat)) ∧ Below w.heap.size w W)
    ?hI ?hIx (fun _ _ _ h => h.2.2.2.2.1) ?h0
    (fun x => { tmps := #[.slice A g.length cap, .string choices, undef, undef, .string ⟨#[]⟩, .int .i64 0, .bool false, .slice (some ⟨NB, 0, none⟩) g.length g.length,
      .bool true, .pointer (some ⟨w2.heap.size, 0, none⟩), .pointer (some ⟨w2.heap.size + 1, 0, none⟩), nptr NB x.1, .int .i64 x.2,
      .tuple #[.slice (some ⟨NB, 0, none⟩) g.length g.length, .bool true], .slice A g.length cap, .tuple #[.slice (some ⟨NB, 0, none⟩) g.length g.length, .bool true],
      .slice (some ⟨NB, 0, none⟩) g.length g.length, .bool true, .bool true, .bool false, .bool false, .string choices, .bool true, .bool false, .bool false,
      .slice (some ⟨NB, 0, none⟩) g.length g.length, .pointer (some ⟨NB, 0, none⟩), nptr NB 0, .string choices,
      .func (.func 55) #[] #[.pointer (some ⟨w2.heap.size + 1 + 1 + 1, 0, none⟩), .pointer (some ⟨w2.heap.size + 1 + 1, 0, none⟩)],
      nptr NB x.1, .int .i64 x.2, undef, undef, undef, undef, undef, undef, undef, undef, undef, undef, undef, undef], defers := [] }) ?assign ?body ?done ?stop
  case hI =>
    rintro O pre X Y hle hO ⟨h1, h2, h3, h4, h5, h6⟩ hT
    refine ⟨(hT.block _ h1.lt fun h => by have := hO _ h; omega).trans h1, (hT.block _ h2.lt fun h => by have := hO _ h; omega).trans h2,
      fun i hi => (hT.block _ (h3 i hi).lt fun h => by have := hO _ h; have := HNL.out i hi; omega).trans (h3 i hi), h4.trans (hT.below h4.size fun k h => by have := hO k h; have := HB3.out.size; omega), h5, h6⟩
  case hIx =>
    rintro c pre X Y hle ⟨rfl, h0, h1, h2, h4⟩ hT
    refine ⟨rfl, h0, (hT.block _ h1.lt (by omega)).trans h1, (hT.block _ h2.lt (by omega)).trans h2, h4.trans (hT.below h4.size fun k h => by have := HB3.out.size; omega)⟩
  case h0 => exact ⟨k1, k2, HN3.out, HB3.out, by simp, by simp⟩
  case assign =>
    intro l x W K hK
    gi_wp2
    exact hK
  case body =>
    rintro l O pre x W hle hO ⟨h1, h2, h3, h4, h5, h6⟩ hx
    obtain ⟨xi, xe⟩ := x
    have hv := HT.out
    have hxl : xi < g.length := runL_lt hv 60 0 choices.data.toList (valid_iff.1 hv).1 (xi, xe) (hx.subset (by simp))
    have c1 := h1.cell
    have f1 := h1.frozen
    have f2 := h2.frozen
    obtain ⟨u2, c2⟩ : ∃ u, W.cell? ⟨w2.heap.size + 1, 0, none⟩ = some u := ⟨_, h2.cell⟩
    have n1 : W.cell? ⟨nb NB xi, 1, none⟩ = some (.string g[xi].1) := by have := (h3 xi hxl).cell 1; simpa using this
    obtain ⟨t, ht⟩ : ∃ t, t = namesAt g (pre.map (·.1)) := ⟨_, rfl⟩
    rw [← nthName_at hxl] at n1
    obtain ⟨s, hs⟩ : ∃ s, s = nthName g xi := ⟨_, rfl⟩
    have hts : t.size = pre.length := by rw [ht, namesAt_size hv _ (fun i hi => by obtain ⟨y, hy, rfl⟩ := List.mem_map.1 hi; exact h6 y hy), List.length_map]
    have hss : s.size = 1 := by obtain ⟨c, hc, _⟩ := valid_one hv (List.getElem_mem hxl); rw [hs, nthName_at hxl, hc]; rfl
    have hsz : t.size + s.size ≤ 1048576 := by omega
    rw [← ht] at c1 h1
    rw [← hs] at n1
    have HTS := Lib.hid ht
    have HSS := Lib.hid hs
    have K1 := Lib.hid h1
    have K2 := Lib.hid h2
    have K3 := Lib.hid h3
    have K4 := Lib.hid h4
    have HXL := Lib.hid hxl
    have K6 := Lib.hid h6
    have HX := Lib.hid hx
    clear ht hs h1 h2 h3 h4 h6 hx hxl hv
    obtain ⟨ts, hTS⟩ : ∃ ts, ts = t ++ s := ⟨_, rfl⟩
    have htz : ts.size = pre.length + 1 := by rw [hTS, ByteArray.size_append]; omega
    have HNM := Lib.hid (show namesAt g ((pre ++ [((xi : Nat), (xe : Nat))]).map (·.1)) = t ++ s by rw [List.map_append, namesAt_append, HTS.out, HSS.out]; congr 1; exact namesAt_one g xi)
    by_cases h60 : pre.length + 1 = 60
    · have g0 : ((ts.size : Int) == 60) = true := by rw [htz, h60]; rfl
      rw [hTS] at g0
      clear hTS htz
      gi_wp2_with fail
      gi_region_with fail
      all_goals gi_wp2
      all_goals
        obtain ⟨z1, z2, z3⟩ := boxes_step W w2.heap.size _ _ _ _ (.string (t ++ s)) (.int .i64 (xe : Nat)) K1.out K2.out
        refine ⟨z3.keeps fun k hk => ?_, rfl, by simpa using h60, by rw [HNM.out]; exact z1, by rw [lastEnd_snoc]; exact z2, K4.out.trans (z3.below K4.out.size fun k hk => by have := HB3.out.size; omega)⟩
        rcases hk with hk | hk
        · omega
        · have := hO k hk; omega
    · have g0 : ((ts.size : Int) == 60) = false := by rw [htz]; simp; omega
      rw [hTS] at g0
      clear hTS htz
      gi_wp2_with fail
      gi_region_with fail
      all_goals gi_wp2
      all_goals
        obtain ⟨z1, z2, z3⟩ := boxes_step W w2.heap.size _ _ _ _ (.string (t ++ s)) (.int .i64 (xe : Nat)) K1.out K2.out
        have kk : Keeps (fun k => k < w2.heap.size ∨ O k) W ((W.setCell ⟨w2.heap.size, 0, none⟩ (.string (t ++ s))).setCell ⟨w2.heap.size + 1, 0, none⟩ (.int .i64 (xe : Nat))).drew := z3.keeps fun k hk => by
          rcases hk with hk | hk
          · omega
          · have := hO k hk; omega
        refine ⟨kk, by rw [HNM.out]; exact z1, by rw [lastEnd_snoc]; exact z2, K3.out.kept kk fun i hi => .inl (HNL.out i hi), K4.out.trans (z3.below K4.out.size fun k hk => by have := HB3.out.size; omega), by simp; omega, fun y hy => ?_⟩
        rcases List.mem_append.1 hy with hy | hy
        · exact K6.out y hy
        · simp at hy; subst hy; exact HXL.out
  case done =>
    rintro D O xs W rfl hO rfl ⟨h1, h2, h3, h4, h5, h6⟩ hOD hK
    have c1 := h1.cell
    have c2 := h2.cell
    have K1 := Lib.hid h1
    have K2 := Lib.hid h2
    have K4 := Lib.hid h4
    have HK := Lib.hid (show W.drew.heap[w2.heap.size + 4]? = some (.deferred (some [])) by rw [← hs3]; exact hK)
    clear h1 h2 h3 h4 h6 hK
    gi_wp2_with fail
    gi_region_with fail
    all_goals gi_wp2
    all_goals
      refine ⟨by simp, .inl ⟨_, _, rfl, run_takeDeferred HK.out, ?_⟩⟩
      refine ⟨_, results_tmp3 rfl _ _ _, ?_, ?_⟩
      · exact (ret_sib H1.out.symm H2.out.symm H3.out.symm : Ending.returned (.tuple #[.string (traceOf g choices), .int .i64 (endOf g choices : Nat), .bool true]) = _)
      · exact below_put K4.out.drew (by have := HB3.out.size; omega) _
  case stop =>
    rintro D c pre W rfl hpre ⟨rfl, h60, h1, h2, h4⟩ hK
    have hall : pre = runOf g choices := hpre.eq_of_length (by have := runOf_le g choices; have := hpre.length_le; omega)
    subst hall
    have c1 := h1.cell
    have c2 := h2.cell
    have K1 := Lib.hid h1
    have K2 := Lib.hid h2
    have K4 := Lib.hid h4
    have HK := Lib.hid (show W.drew.heap[w2.heap.size + 4]? = some (.deferred (some [])) by rw [← hs3]; exact hK)
    clear h1 h2 h4 hK h60 hpre
    gi_wp2_with fail
    gi_region_with fail
    all_goals gi_wp2
    all_goals
      refine ⟨by simp, .inl ⟨_, _, rfl, run_takeDeferred HK.out, ?_⟩⟩
      refine ⟨_, results_tmp3 rfl _ _ _, ?_, ?_⟩
      · exact (ret_sib H1.out.symm H2.out.symm H3.out.symm : Ending.returned (.tuple #[.string (traceOf g choices), .int .i64 (endOf g choices : Nat), .bool true]) = _)
      · exact below_put K4.out.drew (by have := HB3.out.size; omega) _

/-- The method behind an ending: which function it is, and the row that it makes. -/
structure Disp2 (NB : Nat) (g : List Bl) (i : Nat) (T : TypeId) (v : Value) (F : FuncId) : Prop where
  val : ends NB g i = .iface T v
  look : ∀ w, (method 290 T v "loop.example/structuredjumps/impl.targets").run Tryz.prog w = .ok (F, v) w
  enter : ∀ args w, (callFunc F args).run Tryz.prog w = .ok (.enter F args) w
  goes : ∀ w, Calls Tryz.prog F #[v] w fun e w' => ∃ A, e = .returned (.slice A (nxt g i).length (nxt g i).length) ∧ Below w.heap.size w w' ∧
    (0 < (nxt g i).length → ∃ b, A = some ⟨b, 0, none⟩ ∧ w.heap.size ≤ b ∧ Blk w' b 60 ((nxt g i).map (nptr NB)).toArray)


theorem nxt_two {g : List Bl} (hv : validB g = true) {i : Nat} (hi : i < g.length) : (nxt g i).length ≤ 2 := by
  rcases goes hv hi with ⟨h, _⟩ | ⟨p, hp, h, _⟩ | ⟨p, q, hp, hq, h, _⟩ <;> rw [h] <;> simp
end Go.Proofs.YtgkamcnbpiipoaaGreat

/-
  Contract of the model's RunGraph.
-/
namespace Go.Proofs.YtgkamcnbpiipoaaGreat
open Go.RowKit Go.Sort

theorem ret_si {a a' : ByteArray} {i i' : Int} (h1 : a = a') (h2 : i = i') : Ending.returned (.tuple #[.string a, .int .i64 i]) = .returned (.tuple #[.string a', .int .i64 i']) := by rw [h1, h2]

theorem trace_end {g : List Bl} {choices : ByteArray} {pre : List (Nat × Nat)} {i e : Nat} (h : runOf g choices = pre ++ [(i, e)]) : traceOf g choices = namesAt g (pre.map (·.1)) ++ nthName g i ∧ endOf g choices = e := by
  unfold traceOf endOf
  rw [h, lastEnd_snoc, List.map_append, namesAt_append]
  exact ⟨by congr 1; exact namesAt_one g i, rfl⟩

theorem lastEnd_two {pre : List (Nat × Nat)} (h : ∀ x ∈ pre, x.2 = 2) (hl : 0 < pre.length) : lastEnd pre = 2 := by
  unfold lastEnd
  have hne : pre ≠ [] := by intro e; rw [e] at hl; simp at hl
  rw [List.getLast?_eq_some_getLast hne]
  exact h _ (List.getLast_mem hne)

theorem pre_next {g : List Bl} {pre : List (Nat × Nat)} {i : Nat} (h : ∀ x ∈ pre, x.1 < g.length) (hi : i < g.length) : ∀ x ∈ pre ++ [(i, 2)], x.1 < g.length := by
  intro x hx
  rcases List.mem_append.1 hx with hx | hx
  · exact h x hx
  · simp at hx; subst hx; exact hi

theorem names_next (g : List Bl) (pre : List (Nat × Nat)) (i : Nat) {o n : ByteArray} (ho : o = namesAt g (pre.map (·.1))) (hn : n = nthName g i) : namesAt g ((pre ++ [((i : Nat), (2 : Nat))]).map (·.1)) = o ++ n := by
  rw [List.map_append, namesAt_append, ho, hn]
  congr 1
  exact namesAt_one g i

set_option maxRecDepth 100000 in
set_option maxHeartbeats 2000000 in
theorem l2Run_any (A : Option Addr) (cap : Nat) (g : List Bl) (choices : ByteArray) (w : World) (hg : Gr w A g) (hn : g.length ≤ 1048576) (hv : validB g = true) :
    Calls Tryz.prog 50 #[.slice A g.length cap, .string choices] w fun e w' => e = .returned (.tuple #[.string (traceOf g choices), .int .i64 (endOf g choices : Nat)]) ∧ Below w.heap.size w w' := by
  have hpos := (valid_iff.1 hv).1
  obtain ⟨b, off, t, t2, hA, hb, hc0, hc1, he, he2⟩ := gr_at hg hpos
  have hc0' : w.cell? ⟨b, off, none⟩ = some (.string t) := by simpa using hc0
  have HE := Lib.hid he
  have HV := Lib.hid hv
  have HG := Lib.hid hg
  clear hc0 hc1 he he2 hv hg
  subst hA
  go_enter Tryz.func50, Tryz.ntmps50
  go_wp2_with fail
  go_loopg [1, 6, 7] 60 (fun gk c s a wr => ∃ pre i left, gk = 60 - pre.length ∧ c = .string left ∧ s = .string (namesAt g (pre.map (·.1))) ∧ a = .string (nthName g i) ∧ Going g choices pre i left.data.toList ∧ (∀ x ∈ pre, x.1 < g.length) ∧ pre.length ≤ 60 ∧ Below w.heap.size w wr)
  case atStart => exact ⟨[], 0, choices, rfl, rfl, rfl, by rw [← HE.out, nthName_at hpos], Going.start HV.out choices, by simp, by simp, Below.refl _ _⟩
  case round =>
    obtain ⟨pre, i, left, rfl, rfl, rfl, rfl, hG, hpl, h60, hB⟩ := hrel
    have hil := hG.lt
    have hgo := goes HV.out hil
    obtain ⟨o, ho⟩ : ∃ o, o = namesAt g (pre.map (·.1)) := ⟨_, rfl⟩
    have hos : o.size = pre.length := by rw [ho, namesAt_size HV.out _ (fun i hi => by obtain ⟨y, hy, rfl⟩ := List.mem_map.1 hi; exact hpl y hy), List.length_map]
    obtain ⟨n, hnn⟩ : ∃ n, n = nthName g i := ⟨_, rfl⟩
    have hns : n.size = 1 := by obtain ⟨c, hc, _⟩ := valid_one HV.out (List.getElem_mem hil); rw [hnn, nthName_at hil, hc]; rfl
    have hpo : posOf g n = some i := by rw [hnn, nthName_at hil]; exact posOf_name HV.out hil
    rw [← ho, ← hnn]
    have HO := Lib.hid ho
    have HNN := Lib.hid hnn
    have HP := Lib.hid hpo
    have HPL := Lib.hid hpl
    have HB := Lib.hid hB
    by_cases hlt : pre.length < 60
    · have q1 : ((o.size : Int) < 60) := by omega
      have hsz : o.size + n.size ≤ 1048576 := by omega
      have HC := Lib.hid (l1Next_any _ cap g n i wr (HG.out.keep hB.size (fun b o hlt => hB.cell (p := ⟨b, o, none⟩) hlt)) hn hpo hil)
      obtain ⟨x, hx⟩ : ∃ x, x = g[i].2 := ⟨_, rfl⟩
      rw [← hx] at HC hgo
      have hpl' := hpl
      clear ho hnn hpo hpl hB
      go_wp2_with fail
      refine HC.out.mono ?_
      rintro e w1 ⟨rfl, b1⟩
      have HB1 := Lib.hid (HB.out.trans (b1.mono HB.out.size))
      clear b1
      rcases hgo with ⟨hx0, hs0⟩ | ⟨p, hp, hx1, hs1, _, hnm⟩ | ⟨p, q, hp, hq, hx2, hs2, _, hnm, _, hnm', _⟩
      · have hxe : x = ⟨#[]⟩ := ba_ext (List.eq_nil_of_length_eq_zero (list_of_size.trans hs0))
        subst hxe
        have HR := Lib.hid (trace_end (hG.stop hlt hx0))
        clear hG hx
        go_wp2_with fail
        go_ret2
        exact ⟨ret_si (by rw [HR.out.1, HO.out, HNN.out]) (by rw [HR.out.2]; rfl), HB1.out⟩
      · have q2 := beq_empty (s := x) (by omega)
        have q3 : ((x.size : Int) == 1) = true := by rw [hs1]; rfl
        have HG2 := Lib.hid (hG.jump HV.out hlt hx1)
        have HNM := Lib.hid hnm
        have HPRE := Lib.hid (pre_next hpl' hil)
        have HOE := Lib.hid (names_next g pre i HO.out HNN.out)
        clear hG hx hx1 hnm hpl'
        go_wp2_with fail
        go_roundg (60 - (pre ++ [((i : Nat), (2 : Nat))]).length)
        case measure => simp only [List.length_append, List.length_cons, List.length_nil]; omega
        case rel => exact ⟨_, p, left, rfl, rfl, by rw [HOE.out], by rw [nthName_at hp, HNM.out], HG2.out, HPRE.out, by simp; omega, HB1.out⟩
      · have q2 := beq_empty (s := x) (by omega)
        have q3 : ((x.size : Int) == 1) = false := by rw [hs2]; rfl
        by_cases h0l : left.size = 0
        · have hle : left = ⟨#[]⟩ := ba_ext (List.eq_nil_of_length_eq_zero (list_of_size.trans h0l))
          subst hle
          have HR := Lib.hid (trace_end (hG.ask hlt hx2))
          clear hG hx hx2 hnm hnm' hpl'
          go_wp2_with fail
          go_ret2
          exact ⟨ret_si (by rw [HR.out.1, HO.out, HNN.out]) (by rw [HR.out.2]; rfl), HB1.out⟩
        · have hll : 0 < left.size := by omega
          have hcons := bytes_cons hll
          rw [hcons] at hG
          have hG2 := hG.go HV.out hlt hx2
          have q4 := beq_empty hll
          have l1 : 1 ≤ x.size := by omega
          have HPRE := Lib.hid (pre_next hpl' hil)
          have HOE := Lib.hid (names_next g pre i HO.out HNN.out)
          have HNM := Lib.hid hnm
          have HNM' := Lib.hid hnm'
          by_cases h108 : left[0] = 108
          · rw [if_pos h108] at hG2
            have HG2 := Lib.hid hG2
            have q5 : (left[0].toNat : Int) = 108 := by rw [h108]; rfl
            clear hG hx hx2 hnm hnm' hpl' hcons hG2 h108
            go_wp2_with fail
            go_roundg (60 - (pre ++ [((i : Nat), (2 : Nat))]).length)
            case measure => simp only [List.length_append, List.length_cons, List.length_nil]; omega
            case rel => exact ⟨_, p, left.extract 1 left.size, rfl, rfl, by rw [HOE.out], by rw [nthName_at hp, HNM.out], HG2.out, HPRE.out, by simp; omega, HB1.out⟩
          · rw [if_neg h108] at hG2
            have HG2 := Lib.hid hG2
            have q5 : ((left[0].toNat : Int) == 108) = false := byte_ne (b := 108) h108
            clear hG hx hx2 hnm hnm' hpl' hcons hG2 h108
            go_wp2_with fail
            go_roundg (60 - (pre ++ [((i : Nat), (2 : Nat))]).length)
            case measure => simp only [List.length_append, List.length_cons, List.length_nil]; omega
            case rel => exact ⟨_, q, left.extract 1 left.size, rfl, rfl, by rw [HOE.out], by rw [nthName_at hq, HNM'.out, hs2], HG2.out, HPRE.out, by simp; omega, HB1.out⟩
    · have q1 : ¬ ((o.size : Int) < 60) := by omega
      have HF := Lib.hid (hG.full (by omega))
      have HL := Lib.hid (lastEnd_two hG.two (by omega))
      clear hG ho hnn hpo hpl hB hgo
      go_wp2_with fail
      go_ret2
      exact ⟨ret_si (by unfold traceOf; rw [HF.out, HO.out]) (by unfold endOf; rw [HF.out, HL.out]; rfl), HB.out⟩

theorem specRun_any (A : Option Addr) (cap : Nat) (g : List Bl) (choices : ByteArray) (w : World) (hg : Gr w A g) (hn : g.length + tot g ≤ 1048576) (hcap : g.length ≤ cap) (hc : choices.size ≤ 4611686018427387904) :
    Calls Tryz.prog 24 #[.slice A g.length cap, .string choices] w (RunPost g choices w) := by
  have hcv := specValid_any A cap g w hg hn hcap
  have hcc := fun w => specChoices_any choices w hc
  by_cases hv : validB g = true
  · rw [hv] at hcv
    have HC := Lib.hid hcv
    by_cases hcb : choicesB choices = true
    · have hb := runB_yes hv hcb
      have H1 := Lib.hid (runT_yes hb)
      have H2 := Lib.hid (runE_yes hb)
      have H3 := Lib.hid hb
      rw [hcb] at hcc
      have HV := Lib.hid hcc
      have HR := Lib.hid (fun w h => l2Run_any A cap g choices w h (by omega) hv)
      clear hv hcv hcb hcc hb
      go_enter Tryz.func24, Tryz.ntmps24
      go_wp2_with fail
      refine HC.out.mono ?_
      rintro e w1 ⟨rfl, b1⟩
      go_wp2_with fail
      refine (HV.out w1).mono ?_
      rintro e w2 ⟨rfl, b2⟩
      go_wp2_with fail
      refine (HR.out w2 ((hg.below b1).below b2)).mono ?_
      rintro e w3 ⟨rfl, b3⟩
      go_wp2_with fail
      go_ret3
      exact ⟨ret_sib H1.out.symm H2.out.symm H3.out.symm, below_trans_self (below_trans_self b1 b2) b3⟩
    · have hcb' : choicesB choices = false := by simpa using hcb
      have hb : runB g choices = false := runB_no' hcb'
      have H1 := Lib.hid (runT_no hb)
      have H2 := Lib.hid (runE_no hb)
      have H3 := Lib.hid hb
      rw [hcb'] at hcc
      have HV := Lib.hid hcc
      clear hv hcv hcb hcc hb hcb'
      go_enter Tryz.func24, Tryz.ntmps24
      go_wp2_with fail
      refine HC.out.mono ?_
      rintro e w1 ⟨rfl, b1⟩
      go_wp2_with fail
      refine (HV.out w1).mono ?_
      rintro e w2 ⟨rfl, b2⟩
      go_wp2_with fail
      go_ret3
      exact ⟨ret_sib H1.out.symm H2.out.symm H3.out.symm, below_trans_self b1 b2⟩
  · have hv' : validB g = false := by simpa using hv
    have hb : runB g choices = false := runB_no hv'
    have H1 := Lib.hid (runT_no hb)
    have H2 := Lib.hid (runE_no hb)
    have H3 := Lib.hid hb
    rw [hv'] at hcv
    have HC := Lib.hid hcv
    clear hv hcv hcc hb hv'
    go_enter Tryz.func24, Tryz.ntmps24
    go_wp2_with fail
    refine HC.out.mono ?_
    rintro e w1 ⟨rfl, b1⟩
    go_wp2_with fail
    go_ret3
    exact ⟨ret_sib H1.out.symm H2.out.symm H3.out.symm, b1⟩

theorem implRun_any (A : Option Addr) (cap : Nat) (g : List Bl) (choices : ByteArray) (w : World) (hg : Gr w A g) (hn : g.length + tot g ≤ 1048576) (hc : choices.size ≤ 4611686018427387904) :
    Calls Tryz.prog 12 #[.slice A g.length cap, .string choices] w (RunPost g choices w) := by
  by_cases hb : runB g choices = true
  · exact implRun_yes A cap g choices w hg hn hc hb
  · exact implRun_no A cap g choices w hg hn hc (by simpa using hb)
end Go.Proofs.YtgkamcnbpiipoaaGreat
