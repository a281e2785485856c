/-
  Contracts: a run of a graph, block by block: the iterator and what makes it.
-/
import Derived.Test.YteodlcgmncchpaaRuns
import Derived.Test.YteodlcgmncchpaaIter
import Derived.Test.YteodlcgmncchpaaFormat
import Derived.RangeFuncBound
import Derived.RangeFuncCalls
import Derived.RangeFuncLeaves
import Derived.Shelf.Abstract
import Derived.Shelf.RegionOpen
import Derived.WalkKit
import Derived.OwnWalkIn
import Derived.TacticsInMore
import Derived.LoopNIn
import Derived.LoopIn
import Derived.Sort.LoopGhostIn
namespace Go.Proofs.Yteodlcgmncchpaa
open Go.RowKit Go.Sort Go.Shelf
attribute [local go_sem] Oper.semAt_some

theorem chosen_any (u v : Option Addr) (c : UInt8) (w : World) :
    Calls Try.prog 95 #[.agg #[.pointer u, .pointer v], .int .u8 c.toNat] w fun e w' => e = .returned (.pointer (if c = 108 then u else v)) ∧ Below w.heap.size w w' := by
  by_cases h : c = 108
  · have q1 : (c.toNat : Int) = 108 := by rw [h]; rfl
    rw [if_pos h]
    clear h
    go_enter Try.func95, Try.ntmps95
    go_wp2
    go_ret
    exact ⟨rfl, (Below.refl _ _).alloc (Nat.le_refl _) _⟩
  · have q1 : ((c.toNat : Int) == 108) = false := byte_ne (b := 108) h
    rw [if_neg h]
    clear h
    go_enter Try.func95, Try.ntmps95
    go_wp2
    go_ret
    exact ⟨rfl, (Below.refl _ _).alloc (Nat.le_refl _) _⟩

theorem bytes_cons {s : ByteArray} (h : 0 < s.size) : s.data.toList = s[0] :: (s.extract 1 s.size).data.toList := by
  have h0 := byte_at s 0 h
  rw [← Lib.toList_data (s.extract 1 s.size), Lib.extract_toList]
  have hl := list_of_size (s := s)
  cases hd : s.data.toList with
  | nil => rw [hd] at hl; simp at hl; omega
  | cons c r =>
    rw [hd] at h0 hl
    have : c = s[0] := by simpa using h0
    rw [this]
    simp only [List.drop_succ_cons, List.drop_zero, List.length_cons] at hl ⊢
    rw [List.take_of_length_le (by omega)]

theorem beq_empty {s : ByteArray} (h : 0 < s.size) : (s.toList == ([] : List UInt8)) = false := by
  have hl := list_of_size (s := s)
  rw [Lib.toList_data]
  cases hd : s.data.toList with
  | nil => rw [hd] at hl; simp at hl; omega
  | cons c r => rfl

/-- Each node of a graph, wherever the row of them lies. -/
def NodesIn (w : World) (NB : Nat) (g : List Bl) : Prop := ∀ i (h : i < g.length), Blk w (nb NB i) 68 #[.int .i64 i, .string g[i].1, ends NB g i]

theorem NodesIn.of {w : World} {NB : Nat} {g : List Bl} (h : Nodes w NB g (ends NB g)) : NodesIn w NB g := h.node
theorem NodesIn.below {w w' : World} {NB : Nat} {g : List Bl} (h : NodesIn w NB g) (hb : Below w.heap.size w w') : NodesIn w' NB g := fun i hi => (hb.block _ (h i hi).lt).trans (h i hi)
theorem NodesIn.kept {w w' : World} {NB : Nat} {g : List Bl} {R : Nat → Prop} (h : NodesIn w NB g) (hk : Keeps R w w') (hR : ∀ i, i < g.length → R (nb NB i)) : NodesIn w' NB g :=
  fun i hi => (hk.2 _ (h i hi).lt (hR i hi)).trans (h i hi)

/-- How a run is handed out. -/
abbrev encRun (NB : Nat) (x : Nat × Nat) : Array Value := #[nptr NB x.1, .int .i64 x.2]

set_option maxHeartbeats 1000000 in
theorem runFrom1_own (n : Nat) (NB CB EB : Nat) (g : List Bl) (choices : ByteArray) (R : Nat → Prop) (w : World) (hn : 1 ≤ n) (hv : validB g = true)
    (hC : w.cell? ⟨CB, 0, none⟩ = some (.string choices)) (hE : w.cell? ⟨EB, 0, none⟩ = some (nptr NB 0)) (hN : NodesIn w NB g) (hR : ∀ i, i < g.length → R (nb NB i)) (hCl : CB < w.heap.size) (hEl : EB < w.heap.size) :
    SeqOwn Fence.wide n Try.prog 94 #[.pointer (some ⟨CB, 0, none⟩), .pointer (some ⟨EB, 0, none⟩)] (encRun NB) R (fun pre => pre.length < 60) (fun pre x => pre ++ [x] <+: runOf g choices)
      (fun xs => xs = runOf g choices) (fun pre => pre <+: runOf g choices) w := by
  intro l J Jx W hW hJ hBd hY h0
  have HC := Lib.hid ((hW.cell (p := ⟨CB, 0, none⟩) hCl).trans hC)
  have HE := Lib.hid ((hW.cell (p := ⟨EB, 0, none⟩) hEl).trans hE)
  have HN := Lib.hid (hN.below hW)
  have HY := Lib.hid hY
  have HJ := Lib.hid hJ
  have HBD := Lib.hid hBd
  have hc0 := HC.out
  have he0 := HE.out
  clear hC hE hN hW hY hJ hBd
  refine callsIn_of_wp Try.func94 rfl trivial ?_ rfl
  simp only [Try.ntmps94, List.size_toArray, List.length_cons, List.length_nil, Nat.reduceAdd, Nat.reduceSub, Array.replicate_succ, Array.replicate_zero, List.push_toArray, List.append_toArray, List.nil_append, List.cons_append]
  gi_wp2
  gi_loopg [4, 5] 61 (fun gk sl p wr => (∃ O pre i left, gk = 61 - pre.length ∧ sl = .string left ∧ p = nptr NB i ∧ J O pre wr ∧ Going g choices pre i left.data.toList ∧ NodesIn wr NB g) ∨ (gk = 0 ∧ p = .pointer none ∧ ∃ O, J O (runOf g choices) wr))
  case atStart => exact .inl ⟨_, [], 0, choices, rfl, rfl, rfl, h0, Going.start hv choices, HN.out⟩
  case round =>
    rcases hrel with ⟨O, pre, i, left, rfl, rfl, rfl, hJs, hG, hNs⟩ | ⟨rfl, rfl, O, hJs⟩
    · have hl := HBD.out _ _ _ hJs
      have x2 := (hNs i hG.lt).cell 2
      rcases ends_of (NB := NB) hG.lt (goes hv hG.lt) with ⟨hn0, he⟩ | ⟨p, hp, hn1, he⟩ | ⟨p, q, hp, hq, hn2, he⟩
      · have x2' : wr.cell? ⟨nb NB i, 2, none⟩ = some (.iface 63 (.agg #[])) := by rw [x2, he]; rfl
        have a1 := stop_no_jump
        have a2 := stop_no_branch
        clear x2 he
        obtain ⟨fn, tmps, assign, body, hy, hR⟩ := HY.out O pre (i, 0) wr hJs (by rw [hG.stop hl hn0]; exact List.prefix_refl _)
        have hy' : (Instr.yield l #[nptr NB i, .int .i64 0]).run Try.prog wr = .ok (.round l fn tmps assign body) wr := hy
        have HR := Lib.hid (hG.stop hl hn0)
        clear hy hn0 hG
        gi_wp2
        refine hR.mono ?_
        rintro e W3 (⟨rfl, hJ3, hk3⟩ | ⟨rfl, hJx3⟩)
        · gi_wp2
          gi_roundg 0
          case measure => omega
          case rel => exact .inr ⟨rfl, rfl, O, by rw [HR.out]; exact hJ3⟩
        · gi_wp2
          refine bodyPost_ret (results_none rfl _ _ _) rfl ?_
          exact ⟨⟨_, rfl⟩, .inr ⟨pre ++ [(i, 0)], by rw [HR.out]; exact List.prefix_refl _, hJx3⟩⟩
      · have x2' : wr.cell? ⟨nb NB i, 2, none⟩ = some (.iface 117 (.agg #[nptr NB p])) := by rw [x2, he]; rfl
        have a1 := is_jump
        clear x2 he
        have hG2 := hG.jump hv hl hn1
        have HG2 := Lib.hid hG2
        have hpx : pre ++ [(i, 2)] <+: runOf g choices := by rw [hG2.all]; exact List.prefix_append _ _
        have HPX := Lib.hid hpx
        have hJ1 := HJ.out O pre wr (wr.alloc (.cells #[nptr NB p] 117)) hJs (Turns.alloc _ _ _)
        obtain ⟨fn, tmps, assign, body, hy, hRd⟩ := HY.out _ pre (i, 2) _ hJ1 hpx
        have hy' : (Instr.yield l #[nptr NB i, .int .i64 2]).run Try.prog (wr.alloc (.cells #[nptr NB p] 117)) = .ok (.round l fn tmps assign body) (wr.alloc (.cells #[nptr NB p] 117)) := hy
        have HN2 := Lib.hid (hNs.below ((Below.refl _ wr).alloc (Nat.le_refl _) (.cells #[nptr NB p] 117)))
        clear hy hG hG2 hn1 hpx hJ1 hNs
        gi_wp2
        refine hRd.mono ?_
        rintro e W3 (⟨rfl, hJ3, hk3⟩ | ⟨rfl, hJx3⟩)
        · have HN3 := Lib.hid (HN2.out.kept hk3 fun i hi => .inl (hR i hi))
          gi_wp2
          gi_roundg (61 - (pre ++ [((i : Nat), (2 : Nat))]).length)
          case measure => simp only [List.length_append, List.length_cons, List.length_nil]; omega
          case rel => exact .inl ⟨_, _, p, left, rfl, rfl, rfl, hJ3, HG2.out, HN3.out⟩
        · gi_wp2
          refine bodyPost_ret (results_none rfl _ _ _) rfl ?_
          exact ⟨⟨_, rfl⟩, .inr ⟨_, HPX.out, hJx3⟩⟩
      · have x2' : wr.cell? ⟨nb NB i, 2, none⟩ = some (.iface 119 (.agg #[nptr NB p, nptr NB q])) := by rw [x2, he]; rfl
        have a1 := branch_no_jump
        have a2 := is_branch
        clear x2 he
        have HN2 := Lib.hid (hNs.below ((Below.refl _ wr).alloc (Nat.le_refl _) (.cells #[nptr NB p, nptr NB q] 119)))
        have hJ1 := HJ.out O pre wr (wr.alloc (.cells #[nptr NB p, nptr NB q] 119)) hJs (Turns.alloc _ _ _)
        by_cases h0l : left.size = 0
        · have hle : left = ⟨#[]⟩ := ba_ext (List.eq_nil_of_length_eq_zero (list_of_size.trans h0l))
          subst hle
          have hst := hG.ask hl hn2
          have HR := Lib.hid hst
          obtain ⟨fn, tmps, assign, body, hy, hRd⟩ := HY.out _ pre (i, 1) _ hJ1 (by rw [hst]; exact List.prefix_refl _)
          have hy' : (Instr.yield l #[nptr NB i, .int .i64 1]).run Try.prog (wr.alloc (.cells #[nptr NB p, nptr NB q] 119)) = .ok (.round l fn tmps assign body) (wr.alloc (.cells #[nptr NB p, nptr NB q] 119)) := hy
          clear hy hG hst hn2 hJ1 hNs
          gi_wp2
          refine hRd.mono ?_
          rintro e W3 (⟨rfl, hJ3, hk3⟩ | ⟨rfl, hJx3⟩)
          · gi_wp2
            gi_roundg 0
            case measure => omega
            case rel => exact .inr ⟨rfl, rfl, _, by rw [HR.out]; exact hJ3⟩
          · gi_wp2
            refine bodyPost_ret (results_none rfl _ _ _) rfl ?_
            exact ⟨⟨_, rfl⟩, .inr ⟨_, by rw [HR.out]; exact List.prefix_refl _, hJx3⟩⟩
        · have hlt : 0 < left.size := by omega
          have hcons := bytes_cons hlt
          rw [hcons] at hG
          have hG2 := hG.go hv hl hn2
          have HG2 := Lib.hid hG2
          have hpx : pre ++ [(i, 2)] <+: runOf g choices := by rw [hG2.all]; exact List.prefix_append _ _
          have HPX := Lib.hid hpx
          obtain ⟨r, hr⟩ : ∃ r, r = (if left[0] = 108 then p else q) := ⟨_, rfl⟩
          have hch := fun W => chosen_any (some ⟨nb NB p, 0, none⟩) (some ⟨nb NB q, 0, none⟩) left[0] W
          have eptr : (if left[0] = 108 then (some ⟨nb NB p, 0, none⟩ : Option Addr) else some ⟨nb NB q, 0, none⟩) = some ⟨nb NB r, 0, none⟩ := by rw [hr]; split <;> rfl
          rw [eptr] at hch
          have HCH := Lib.hid hch
          have HRR := Lib.hid hr
          have q0 := beq_empty hlt
          clear hG hG2 hn2 hpx hNs hcons hch hr eptr
          gi_wp2
          gi_region_with (refine ⟨trivial, ?_⟩; gi_at_call 95; refine (callsIn_wide.2 (HCH.out _)).mono ?_; rintro e w' ⟨rfl, hb⟩)
          all_goals
            have hbb := ((Below.refl _ (wr.alloc (.cells #[nptr NB p, nptr NB q] 119))).drew.trans hb : Below (wr.alloc (.cells #[nptr NB p, nptr NB q] 119)).heap.size _ w')
            have hJ2 := HJ.out _ pre _ w' hJ1 (Turns.of_below hbb)
            have HN2' := Lib.hid (HN2.out.below hbb)
            obtain ⟨fn, tmps, assign, body, hy, hRd⟩ := HY.out _ pre (i, 2) _ hJ2 HPX.out
            have hy' : (Instr.yield l #[nptr NB i, .int .i64 2]).run Try.prog w' = .ok (.round l fn tmps assign body) w' := hy
            clear hy hJ2 hJ1 hbb hb
            gi_wp2
            refine hRd.mono ?_
            rintro e W3 (⟨rfl, hJ3, hk3⟩ | ⟨rfl, hJx3⟩)
            · have HN3 := Lib.hid (HN2'.out.kept hk3 fun i hi => .inl (hR i hi))
              gi_wp2
              gi_roundg (61 - (pre ++ [((i : Nat), (2 : Nat))]).length)
              case measure => simp only [List.length_append, List.length_cons, List.length_nil]; omega
              case rel => exact .inl ⟨_, _, r, left.extract 1 left.size, rfl, rfl, rfl, hJ3, by rw [HRR.out]; exact HG2.out, HN3.out⟩
            · gi_wp2
              refine bodyPost_ret (results_none rfl _ _ _) rfl ?_
              exact ⟨⟨_, rfl⟩, .inr ⟨_, HPX.out, hJx3⟩⟩
    · gi_wp2
      go_end0
      exact ⟨⟨_, rfl⟩, .inl ⟨_, _, rfl, hJs⟩⟩
end Go.Proofs.Yteodlcgmncchpaa
