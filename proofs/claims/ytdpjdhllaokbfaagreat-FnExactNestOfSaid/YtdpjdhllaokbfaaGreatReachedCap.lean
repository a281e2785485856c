/-
  The nodes that can be come to, in the order of the graph, and the capacity of their slice.
-/
import Derived.Test.YtdpjdhllaokbfaaGreatReachedNodes
namespace Go.Proofs.YtdpjdhllaokbfaaGreat
open Go.RowKit Go.Sort Go.Shelf
attribute [local go_sem] Oper.semAt_some

/-- The nodes of an iterator, in the order of the graph. -/
def SortedPostC (w : World) (NB : Nat) (g : List Bl) (L : List Nat) (e : Ending) (w' : World) : Prop :=
  ∃ B off cap, w.heap.size ≤ B ∧ e = .returned (.slice (some ⟨B, off, none⟩) L.length cap) ∧ B < w'.heap.size ∧ (∀ k (h : k < (srt g L g.length).length), w'.cell? ⟨B, off + k, none⟩ = some (nptr NB (srt g L g.length)[k])) ∧ NodesIn w' NB g ∧ Below w.heap.size w w' ∧ L.length ≤ cap

theorem sortedFunc_cap (NB : Nat) (gf : FuncId) (lb : Array Value) (R : Nat → Prop) (L : List Nat) (g : List Bl) (w : World) (hv : validB g = true) (hent : ∀ args w, (callFunc gf args).run Tryz.prog w = .ok (.enter gf args) w) (hseq : Yields gf lb NB R L w) (hRl : ∀ k, R k → k < w.heap.size)
    (hN : NodesIn w NB g) (h0 : 0 < L.length) (hL : ∀ x ∈ L, x < g.length) (hnd : L.Nodup) :
    Calls Tryz.prog 84 #[.func (.func gf) #[] lb, .func (.func 85) #[] #[]] w (SortedPostC w NB g L) := by
  have h26 := (valid_iff.1 hv).2.1
  have HNL := Lib.hid (fun i hi => (hN i hi).lt)
  have HC := Lib.hid (collect_any NB gf lb R L g w hent hseq hRl hN h0 (by have := nodup_lt_len _ _ hnd hL; omega))
  have HV := Lib.hid hv
  have HL := Lib.hid hL
  have HND := Lib.hid hnd
  clear hv hent hseq hRl hN h0 hL hnd
  go_enter Tryz.func84, Tryz.ntmps84
  go_wp2_with fail
  refine HC.out.mono ?_
  rintro e w1 ⟨B, off, cap, hB, rfl, hq, hN1, b1⟩
  have HS := Lib.hid (sortNodes_any NB B off cap g L _ w1 HV.out HL.out HND.out hN1 (fun i hi e => by have := HNL.out i hi; omega) hq)
  have hBl : B < w1.heap.size := by obtain ⟨B', off', cap', e, _, _, h, _⟩ := hq.cells; simp only [Value.slice.injEq, Option.some.injEq, Addr.mk.injEq] at e; omega
  have hcp : L.length ≤ cap := by obtain ⟨B', off', cap', e, h, _⟩ := hq.cells; simp only [Value.slice.injEq, Option.some.injEq, Addr.mk.injEq] at e; omega
  have HN1 := Lib.hid hN1
  have HB1 := Lib.hid b1
  clear hq hN1 b1
  go_wp2_with fail
  refine HS.out.mono ?_
  rintro e w2 ⟨rfl, hT, hc⟩
  have HT := Lib.hid hT
  have HCC := Lib.hid hc
  clear hT hc
  go_wp2_with fail
  go_ret
  exact ⟨B, off, cap, hB, rfl, by have := HT.out.size; omega, HCC.out, fun i hi => (HT.out.block _ (HN1.out i hi).lt (by have := HNL.out i hi; omega)).trans (HN1.out i hi), HB1.out.trans (HT.out.below HB1.out.size fun k h => by omega), hcp⟩

theorem inOrder_cap (NB : Nat) (gf : FuncId) (lb : Array Value) (R : Nat → Prop) (L : List Nat) (g : List Bl) (w : World) (hv : validB g = true) (hent : ∀ args w, (callFunc gf args).run Tryz.prog w = .ok (.enter gf args) w) (hseq : Yields gf lb NB R L w) (hRl : ∀ k, R k → k < w.heap.size)
    (hN : NodesIn w NB g) (h0 : 0 < L.length) (hL : ∀ x ∈ L, x < g.length) (hnd : L.Nodup) :
    Calls Tryz.prog 74 #[.func (.func gf) #[] lb] w (SortedPostC w NB g L) := by
  have HC := Lib.hid (sortedFunc_cap NB gf lb R L g w hv hent hseq hRl hN h0 hL hnd)
  clear hv hent hseq hRl hN h0 hL hnd
  go_enter Tryz.func74, Tryz.ntmps74
  go_wp2_with fail
  refine HC.out.mono ?_
  rintro e w1 ⟨B, off, cap, hB, rfl, h⟩
  have H := Lib.hid h
  clear h
  go_wp2_with fail
  go_ret
  exact ⟨B, off, cap, hB, rfl, H.out⟩


def ReachedPostC (w : World) (g : List Bl) (e : Ending) (w' : World) : Prop :=
  ∃ NB A cap, w.heap.size ≤ NB ∧ e = .returned (.tuple #[.slice A (reachS g).length cap, .bool true]) ∧ Pts w' A (nodesAt NB g (reachS g)) ∧ NodesIn w' NB g ∧ Below w.heap.size w w' ∧ (reachS g).length ≤ cap

set_option maxRecDepth 100000 in
set_option maxHeartbeats 2000000 in
theorem reachedNodes_cap (A : Option Addr) (cap : Nat) (g : List Bl) (w : World) (hg : Gr w A g) (hn : g.length + tot g ≤ 1048576) (hv : validB g = true) :
    Calls Tryz.prog 64 #[.slice A g.length cap] w (ReachedPostC w g) := by
  have HC := Lib.hid (nodesOf_yes A cap g w hg hn hv)
  have hpos := (valid_iff.1 hv).1
  have HV := Lib.hid hv
  have h0r : 0 < (reach g).length := by have := (bfs_reach (g := g) (k := 0) (Nat.zero_le _)).length_le; simp [bfs] at this; omega
  clear hv
  go_enter Tryz.func64, Tryz.ntmps64
  go_wp2_with fail
  refine HC.out.mono ?_
  rintro e w1 ⟨NB, hle, rfl, hN, b1⟩
  have HN := Lib.hid hN
  have HB1 := Lib.hid b1
  have x0 := hN.ptr hpos
  have HNI := Lib.hid (NodesIn.of hN)
  clear hN b1
  go_wp2_with fail
  refine (reachedFrom_any _ _).mono ?_
  rintro e w3 ⟨rfl, hw3⟩
  obtain ⟨hy, hN3, hb3, hs3⟩ := reach_yields NB g HV.out w1 w3 HNI.out hw3
  have HIO := Lib.hid (inOrder_cap NB 101 #[.pointer (some ⟨w1.heap.size + 1, 0, none⟩), .pointer (some ⟨w1.heap.size + 2, 0, none⟩)] (fun k => k < w3.heap.size) (reach g) g w3 HV.out (enters_of Tryz.func101 (by kernel_rfl) rfl) hy (fun k hk => hk) hN3 h0r (fun x hx => reach_lt HV.out hx) (reach_nodup g))
  have HB3 := Lib.hid (below_trans_self HB1.out hb3)
  clear hw3 hy hN3 hb3
  go_wp2_with fail
  refine HIO.out.mono ?_
  rintro e w4 ⟨B, off, cap4, hB, rfl, hBl, hc, hN4, b4, hcp⟩
  have HCC := Lib.hid hc
  have HN4 := Lib.hid hN4
  have HB4 := Lib.hid (below_trans_self HB3.out b4)
  clear hc hN4 b4
  go_wp2_with fail
  go_ret2
  have hrl : (reachS g).length = (reach g).length := (reachS_perm HV.out).length_eq
  refine ⟨NB, some ⟨B, off, none⟩, cap4, hle, ret_slb hrl.symm, fun _ => ⟨B, off, rfl, hBl, fun k hk => ?_⟩, HN4.out, HB4.out, by omega⟩
  rw [nodesAt_length] at hk
  have hi : (reachS g)[k] < g.length := by
    have : (reachS g)[k] ∈ reachS g := List.getElem_mem hk
    exact List.mem_range.1 (List.mem_filter.1 this).1
  have hget : (nodesAt NB g (reachS g))[k]'(by rw [nodesAt_length]; exact hk) = (nb NB (reachS g)[k], nthName g (reachS g)[k]) := by simp [nodesAt]
  rw [hget]
  have hn1 := HN4.out _ hi
  exact ⟨HCC.out k hk, hn1.lt, by rw [hn1.cell 1, nthName_at hi]; rfl⟩

end Go.Proofs.YtdpjdhllaokbfaaGreat
