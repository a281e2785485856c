/-
  Contracts: the ways of a graph, block by block: the iterator and what makes it.
-/
import Derived.Test.YtgkamcnbpiipoaaGreatSpreadFrom
import Derived.Test.YtgkamcnbpiipoaaGreatWays
import Derived.Scope
import Derived.WalkMore
import Derived.Test.YtgkamcnbpiipoaaGreatSpecRun
namespace Go.Proofs.YtgkamcnbpiipoaaGreat
open Go.RowKit Go.Sort Go.Shelf
attribute [local go_sem] Oper.semAt_some

theorem waysFrom_any (u v : Option Addr) (w : World) :
    Calls Tryz.prog 57 #[.pointer u, .pointer v] w fun e w' =>
      e = .returned (.func (.func 73) #[] #[.pointer (some ⟨w.heap.size + 1, 0, none⟩), .pointer (some ⟨w.heap.size, 0, none⟩)]) ∧
      w' = (w.alloc (.cells #[.pointer u] 60)).alloc (.cells #[.pointer v] 60) := by
  go_enter Tryz.func57, Tryz.ntmps57
  go_wp2
  go_ret
  exact ⟨rfl, rfl⟩

theorem info_way : (Tryz.prog.info? 130).map (fun i => (i.zero, i.size, i.bytes)) = some (some (.agg #[.pointer none, .string ⟨#[]⟩]), 2, 24) := by kernel_rfl

/-- How a way is handed out. -/
abbrev encWay (NB : Nat) (x : Nat × ByteArray) : Array Value := #[nptr NB x.1, .string x.2]

/-- The cells of ways in a row. -/
def wayC (NB : Nat) : List (Nat × ByteArray) → List Value
  | [] => []
  | x :: l => nptr NB x.1 :: .string x.2 :: wayC NB l

theorem wayC_append (NB : Nat) (a b : List (Nat × ByteArray)) : wayC NB (a ++ b) = wayC NB a ++ wayC NB b := by
  induction a with
  | nil => rfl
  | cons x a ih => simp only [List.cons_append, wayC, ih]

theorem wayC_length (NB : Nat) (l : List (Nat × ByteArray)) : (wayC NB l).length = l.length * 2 := by
  induction l with
  | nil => rfl
  | cons x l ih => simp only [wayC, List.length_cons, ih]; omega

theorem wayC_one (NB : Nat) (l : List (Nat × ByteArray)) : ∀ u ∈ wayC NB l, u.oneCell' = true := by
  induction l with
  | nil => intro u hu; cases hu
  | cons x l ih =>
    intro u hu
    simp only [wayC, List.mem_cons] at hu
    rcases hu with rfl | rfl | hu
    · rfl
    · rfl
    · exact ih u hu

theorem wpIn_scope {n : Nat} {P : Program} {c : Code} {Q : Exit → Act → World → Prop} {a : Act} {w : World} (h : c.wpIn Fence.wide n P (Exit.noGoto Q) a w) : (Code.scope c).wpIn Fence.wide n P Q a w :=
  (wpIn_wide (n := n)).2 (wp_scope_straight ((wpIn_wide (n := n)).1 h))

theorem cells_new (W : World) (vs : List Value) (e : TypeId) : ∀ j u, vs[j]? = some u → (W.alloc (.cells vs.toArray e)).cell? ((⟨W.heap.size, 0, none⟩ : Addr).add j) = some u := by
  intro j u hu
  have hadd : (⟨W.heap.size, 0, none⟩ : Addr).add j = ⟨W.heap.size, j, none⟩ := by unfold Addr.add; split <;> simp_all
  rw [hadd, (Blk.new W e vs.toArray).cell j, List.getElem?_toArray, hu]

def avL : Option Nat → List Nat
  | none => []
  | some a => [a]

set_option maxRecDepth 100000 in
set_option maxHeartbeats 2000000 in
theorem waysFrom1_own (n : Nat) (NB AB EB : Nat) (g : List Bl) (av : Option Nat) (R : Nat → Prop) (w : World) (hn : 1 ≤ n) (hv : validB g = true)
    (hA : w.cell? ⟨AB, 0, none⟩ = some (ptrAt NB av)) (hav : ∀ a, av = some a → a < g.length)
    (hE : w.cell? ⟨EB, 0, none⟩ = some (nptr NB 0)) (hN : NodesIn w NB g) (hR : ∀ i, i < g.length → R (nb NB i)) (hAl : AB < w.heap.size) (hEl : EB < w.heap.size) :
    SeqOwn Fence.wide n Tryz.prog 73 #[.pointer (some ⟨AB, 0, none⟩), .pointer (some ⟨EB, 0, none⟩)] (encWay NB) R (fun _ => True) (fun pre x => NextWay g (avL av) pre x)
      (fun xs => AllWays g (avL av) xs) (fun pre => ∃ p x, pre = p ++ [x] ∧ NextWay g (avL av) p x) w := by
  intro l J Jx W hW hJ hBd hY h0
  obtain ⟨AL, hAL⟩ : ∃ AL, AL = avL av := ⟨_, rfl⟩
  rw [← hAL] at hY ⊢
  obtain ⟨i0, hi0, hz0, hz1, hz2⟩ := info_parts info_way
  have hpos := (valid_iff.1 hv).1
  have h26 := (valid_iff.1 hv).2.1
  have he0 := (hW.cell (p := ⟨EB, 0, none⟩) hEl).trans hE
  have ha0 := (hW.cell (p := ⟨AB, 0, none⟩) hAl).trans hA
  have HN := Lib.hid (hN.below hW)
  have HY := Lib.hid hY
  have HJ := Lib.hid hJ
  have el : EB < W.heap.size := by have := hW.size; omega
  have al : AB < W.heap.size := by have := hW.size; omega
  clear hE hA hN hW hY hJ hBd
  refine callsIn_of_wp Tryz.func73 rfl trivial ?_ rfl
  simp only [Tryz.ntmps73, List.size_toArray, List.length_cons, List.length_nil, Nat.reduceAdd, Nat.reduceSub, Array.replicate_succ, Array.replicate_zero, List.push_toArray, List.append_toArray, List.nil_append, List.cons_append]
  gi_wp2
  refine wpIn_scope ?_
  rcases av with _ | a
  case' none =>
    have ha1 : W.cell? ⟨AB, 0, none⟩ = some (.pointer none) := ha0
    have HC0 : Hid ((#[.bool false, .bool false, .bool false, .bool false, .bool false, .bool false, .bool false, .bool false, .bool false, .bool false, .bool false, .bool false, .bool false, .bool false, .bool false, .bool false, .bool false, .bool false, .bool false, .bool false, .bool false, .bool false, .bool false, .bool false, .bool false, .bool false] : Array Value) = seenC AL) := by rw [hAL]; rfl
    clear ha0 hAL
    gi_wp2
    rw [HC0.out]
    refine wpIn_label ?_
    gi_wp2
    clear HC0 ha1
  case' some =>
    have ha1 : W.cell? ⟨AB, 0, none⟩ = some (nptr NB a) := ha0
    have hal := hav a rfl
    have n0 : W.cell? ⟨nb NB a, 0, none⟩ = some (.int .i64 a) := by have := (HN.out a hal).cell 0; simpa using this
    have nl := (HN.out a hal).lt
    have a26 : a < 26 := by omega
    have HC0 : Hid (([.bool false, .bool false, .bool false, .bool false, .bool false, .bool false, .bool false, .bool false, .bool false, .bool false, .bool false, .bool false, .bool false, .bool false, .bool false, .bool false, .bool false, .bool false, .bool false, .bool false, .bool false, .bool false, .bool false, .bool false, .bool false, .bool false].set a (.bool true)).toArray = seenC AL) := by
      rw [hAL, ← List.setIfInBounds_toArray]; exact seenC_set [] a
    clear ha0 hAL
    gi_wp2
    rw [HC0.out]
    refine wpIn_label ?_
    gi_wp2
    clear HC0 ha1 n0 nl
  all_goals
    obtain ⟨S, hS⟩ : ∃ S, S = W.heap.size := ⟨_, rfl⟩
    obtain ⟨W2, hW2⟩ : ∃ W2, (W.alloc (.cells (seenC AL) 128)).alloc (.cells #[nptr NB 0, .string ⟨#[]⟩] 130) = W2 := ⟨_, rfl⟩
    have hSn : Blk W2 S 128 (seenC (AL ++ ([] : List (Nat × ByteArray)).map (·.1))) := by rw [List.map_nil, List.append_nil, ← hW2, hS]; exact (Blk.new W _ _).alloc _
    have hb2 : Below W.heap.size W W2 := by rw [← hW2]; exact ((Below.refl _ W).alloc (Nat.le_refl _) _).alloc (by simp) _
    have hs2 : W2.heap.size = S + 2 := by rw [← hW2, hS]; simp
    have hQ : Que W2 130 2 (fun k => more (fun _ => False) W W2 k ∧ k ≠ S) (.slice (some ⟨S + 1, 0, none⟩) 1 1) 1 (wayC NB [(0, ⟨#[]⟩)]) := by
      have := Que.made (W.alloc (.cells (seenC AL) 128)) 130 2 (fun k => more (fun _ => False) W W2 k ∧ k ≠ S) #[nptr NB 0, .string ⟨#[]⟩] 1 rfl ⟨.inr ⟨by simp, by simp; omega⟩, by simp; omega⟩
      rw [World.size_alloc, hW2, ← hS] at this
      exact this
    have hJ2 := HJ.out _ _ _ W2 h0 (Turns.of_below hb2)
    have HN2 := Lib.hid (HN.out.below hb2)
    have HNL := Lib.hid (fun i hi => (show nb NB i < S from hS ▸ (HN.out i hi).lt))
    have HS := Lib.hid hSn
    have HQ := Lib.hid hQ
    have HFI := Lib.hid (Outer.first hv AL)
    have HM : Hid (∀ k, more (fun _ => False) W W2 k → S ≤ k) := fun k hk => hk.elim (fun h => h.elim) fun h => by have := h.1; omega
    have HMS : Hid (more (fun _ => False) W W2 S) := .inr ⟨by omega, by omega⟩
    have HV := Lib.hid hv
    rw [hW2, ← hS]
    clear hW2 hb2 hSn hQ he0 hS hv
    gi_loopg [5] 79 (fun gk q wr => ∃ O pre qs, gk = 3 * (26 - pre.length) + qs.length ∧ qs.length ≤ 2 * pre.length + 1 ∧ Outer g AL pre qs ∧ J O pre wr ∧ Blk wr S 128 (seenC (AL ++ pre.map (·.1))) ∧ O S ∧
      Que wr 130 2 (fun k => O k ∧ k ≠ S) q qs.length (wayC NB qs) ∧ NodesIn wr NB g ∧ S < wr.heap.size ∧ ∀ k, O k → S ≤ k)
    case atStart => exact ⟨_, [], [(0, ⟨#[]⟩)], rfl, Nat.le_refl _, HFI.out, hJ2, HS.out, HMS.out, HQ.out, HN2.out, by omega, HM.out⟩
    case round =>
      obtain ⟨O, pre, qs, rfl, hql, hOut, hJs, hSb, hOS, hQu, hNs, hWl, hOW⟩ := hrel
      have hplen := hOut.known.len
      cases qs with
      | nil =>
        obtain ⟨B, off, cap, rfl, hcap, hOB, hBl, hcells⟩ := hQu.cells
        have HDN := Lib.hid hOut.done
        clear hcells hQu hOut
        gi_wp2
        rw [Exit.noGoto_normal]
        go_end0
        exact ⟨⟨_, rfl⟩, .inl ⟨_, _, HDN.out, hJs⟩⟩
      | cons x qs' =>
        obtain ⟨n0, s0⟩ := x
        have HIN := Lib.hid hOut.pop
        obtain ⟨B, off, cap, rfl, hcap, hOB, hBl, hcells⟩ := hQu.cells
        have hc0 : wr.cell? ⟨B, off, none⟩ = some (nptr NB n0) := by have := hcells 0 (by simp [wayC]); simpa [wayC] using this
        have hc1 : wr.cell? ⟨B, off + 1, none⟩ = some (.string s0) := by have := hcells 1 (by simp [wayC]); simpa [wayC] using this
        obtain ⟨m, hm⟩ : ∃ m, m = qs'.length := ⟨_, rfl⟩
        rw [List.length_cons, ← hm] at hQu hcap hql ⊢
        have hQ2 : ∃ v2, Que wr 130 2 (fun k => O k ∧ k ≠ S) v2 m (wayC NB qs') ∧ (cap = 1 ∧ v2 = .slice (some ⟨B, off, none⟩) m 0 ∨ cap ≠ 1 ∧ v2 = .slice (some ⟨B, off + 2, none⟩) m (cap - 1)) := by
          by_cases h1 : cap = 1
          · exact ⟨_, hQu.tail0 h1, .inl ⟨h1, rfl⟩⟩
          · exact ⟨_, by have := hQu.tail; simpa [wayC] using this, .inr ⟨h1, rfl⟩⟩
        obtain ⟨v2, hQ2, hv2⟩ := hQ2
        have HW3 := Lib.hid (Blk.new wr 130 #[nptr NB n0, .string s0])
        have T0 := Turns.alloc O wr (.cells #[nptr NB n0, .string s0] 130)
        have K0 : Keeps (fun k => O k ∧ k ≠ S) wr (wr.alloc (.cells #[nptr NB n0, .string s0] 130)) := Turns.keeps (O := fun _ => False) (Turns.alloc _ _ _) fun _ _ h => h
        have HQ3 := Lib.hid (hQ2.kept (O' := fun k => more O wr (wr.alloc (.cells #[nptr NB n0, .string s0] 130)) k ∧ k ≠ S ∧ k ≠ wr.heap.size) K0 fun k hk h => ⟨.inl h.1, h.2, by omega⟩)
        have HJ3 := Lib.hid (HJ.out _ _ _ _ hJs T0)
        have HSB3 := Lib.hid (hSb.alloc (.cells #[nptr NB n0, .string s0] 130))
        have HN3 := Lib.hid (hNs.below ((Below.refl _ wr).alloc (Nat.le_refl _) (.cells #[nptr NB n0, .string s0] 130)))
        have HO3 : Hid (∀ k, more O wr (wr.alloc (.cells #[nptr NB n0, .string s0] 130)) k → S ≤ k) := fun k hk => hk.elim (hOW k) fun h => by have := h.1; omega
        have HOS3 : Hid (more O wr (wr.alloc (.cells #[nptr NB n0, .string s0] 130)) S) := .inl hOS
        have HOW3 : Hid (more O wr (wr.alloc (.cells #[nptr NB n0, .string s0] 130)) wr.heap.size) := .inr ⟨Nat.le_refl _, by simp⟩
        have HMM := Lib.hid hm
        have hcap1 : 1 ≤ cap := by omega
        clear hcells hQu hOut hQ2 hJs hSb hNs hOW T0 K0 hOS hm
        rcases hv2 with ⟨hc1', rfl⟩ | ⟨hc1', rfl⟩
        all_goals
          gi_wp2
          obtain ⟨W3, hW3⟩ : ∃ W3, wr.alloc (.cells #[nptr NB n0, .string s0] 130) = W3 := ⟨_, rfl⟩
          rw [hW3] at HW3 HQ3 HJ3 HSB3 HN3 HO3 HOS3 HOW3 ⊢
          obtain ⟨O3, hO3⟩ : ∃ O3, O3 = more O wr W3 := ⟨_, rfl⟩
          rw [← hO3] at HQ3 HJ3 HO3 HOS3 HOW3
          obtain ⟨WB, hWB⟩ : ∃ WB, WB = wr.heap.size := ⟨_, rfl⟩
          rw [← hWB] at HW3 HQ3 HOW3 ⊢
          have HWS := Lib.hid (show WB ≠ S by omega)
          clear hW3 hO3 hWB hc0 hc1 hc1' hBl hWl
          gi_loopg [5, 7] (26 - pre.length) (fun gk q nv wr => ∃ O pre' n', gk = 26 - pre'.length ∧ nv = nptr NB n' ∧ pre.length ≤ pre'.length ∧ Inner g AL pre' qs' n' s0 ∧ J O pre' wr ∧ Blk wr S 128 (seenC (AL ++ pre'.map (·.1))) ∧ O S ∧
            Que wr 130 2 (fun k => O k ∧ k ≠ S ∧ k ≠ WB) q m (wayC NB qs') ∧ NodesIn wr NB g ∧ Blk wr WB 130 #[nptr NB n0, .string s0] ∧ O WB ∧ ∀ k, O k → S ≤ k)
          case atStart => exact ⟨O3, pre, n0, rfl, rfl, Nat.le_refl _, HIN.out, HJ3.out, HSB3.out, HOS3.out, HQ3.out, HN3.out, HW3.out, HOW3.out, HO3.out⟩
          case round =>
            obtain ⟨O, pre', n', rfl, rfl, hpp, hIn, hJs, hSb, hOS, hQu, hNs, hWk, hOWB, hOW⟩ := hrel
            have hnl := hIn.nlt
            have n26 : n' < 26 := by omega
            have c0 : wr.cell? ⟨nb NB n', 0, none⟩ = some (.int .i64 n') := by have := (hNs n' hnl).cell 0; simpa using this
            have sC := (hSb.cell n').trans (seenC_get (AL ++ pre'.map (·.1)) n26)
            have hSl := hSb.lt
            by_cases hin : n' ∈ AL ++ pre'.map (·.1)
            · rw [decide_eq_true hin] at sC
              have HSE := Lib.hid (hIn.seen hin)
              have HJ4 := Lib.hid hJs
              have HSB4 := Lib.hid hSb
              have HQ4 := Lib.hid (Que.kept (O' := fun k => O k ∧ k ≠ S) hQu (Keeps.refl _ _) fun q _ h => ⟨h.1, h.2.1⟩)
              rw [HMM.out] at HQ4
              have HN4 := Lib.hid hNs
              have HOW4 := Lib.hid hOW
              have HOS4 := Lib.hid hOS
              have hpl := hIn.known.len
              clear hin hIn hJs hSb hQu hNs hWk hOWB hOW hOS
              gi_wp2
              gi_roundg (3 * (26 - pre'.length) + qs'.length)
              case measure => have := HMM.out; simp only [List.length_cons]; omega
              case rel => exact ⟨O, pre', qs', rfl, by have := HMM.out; omega, HSE.out, HJ4.out, HSB4.out, HOS4.out, HQ4.out, HN4.out, hSl, HOW4.out⟩
            · rw [decide_eq_false hin] at sC
              have fS := hSb.frozen n'
              have HIN4 := Lib.hid hIn
              have HIN0 := Lib.hid hin
              have hNx := hIn.next hin
              have hgrow := (hIn.grow hin).len
              rw [List.length_append, List.length_singleton] at hgrow
              have T1 : Turns O wr (wr.setCell ⟨S, n', none⟩ (.bool true)) := Turns.setCell (O := O) (p := ⟨S, n', none⟩) hOS (.bool true)
              have TS : Turns (fun k => k = S) wr (wr.setCell ⟨S, n', none⟩ (.bool true)) := Turns.setCell (O := fun k => k = S) (p := ⟨S, n', none⟩) rfl (.bool true)
              have hJ1 := HJ.out O pre' wr _ hJs T1
              have eseen : seenC (AL ++ (pre' ++ [(n', s0)]).map (·.1)) = (seenC (AL ++ pre'.map (·.1))).setIfInBounds n' (.bool true) := by
                rw [seenC_set]; simp
              have HSB4 := Lib.hid (show Blk (wr.setCell ⟨S, n', none⟩ (.bool true)) S 128 (seenC (AL ++ (pre' ++ [(n', s0)]).map (·.1))) by rw [eseen]; exact hSb.set_ n' (.bool true))
              have HQ4 := Lib.hid (hQu.kept (O' := fun k => O k ∧ k ≠ S ∧ k ≠ WB) (TS.keeps fun k h => h.2.1) fun k _ h => h)
              have HN4 := Lib.hid (hNs.kept (TS.keeps (O' := fun k => k < S) fun k h e => by omega) HNL.out)
              have HW4 := Lib.hid (show Blk (wr.setCell ⟨S, n', none⟩ (.bool true)) WB 130 #[nptr NB n0, .string s0] from (TS.block WB hWk.lt HWS.out).trans hWk)
              have w1 : (wr.setCell ⟨S, n', none⟩ (.bool true)).cell? ⟨WB, 1, none⟩ = some (.string s0) := by have := HW4.out.cell 1; simpa using this
              have HNX := Lib.hid hNx
              have HO4 : Hid (∀ k, more O wr (wr.setCell ⟨S, n', none⟩ (.bool true)) k → S ≤ k) := fun k hk => hk.elim (hOW k) fun h => by have := h.2; simp at this; omega
              have HOS4 : Hid (more O wr (wr.setCell ⟨S, n', none⟩ (.bool true)) S) := .inl hOS
              have HOW4 : Hid (more O wr (wr.setCell ⟨S, n', none⟩ (.bool true)) WB) := .inl hOWB
              have HOM : Hid (∀ k, O k → more O wr (wr.setCell ⟨S, n', none⟩ (.bool true)) k) := fun k h => .inl h
              obtain ⟨fn, tmps, assign, body, hy, hRd⟩ := HY.out _ pre' (n', s0) _ hJ1 hNx
              have hy' : (Instr.yield l #[nptr NB n', .string s0]).run Tryz.prog (wr.setCell ⟨S, n', none⟩ (.bool true)) = .ok (.round l fn tmps assign body) (wr.setCell ⟨S, n', none⟩ (.bool true)) := hy
              clear hy hin hIn hNx hJs hJ1 hSb hQu hNs hWk hOWB hOW hOS T1 TS eseen
              gi_wp2
              refine hRd.mono ?_
              rintro e W5 (⟨rfl, hJ5, hk5⟩ | ⟨rfl, hJx5⟩)
              · obtain ⟨O5, hO5⟩ : ∃ O5, O5 = more O wr (wr.setCell ⟨S, n', none⟩ (.bool true)) := ⟨_, rfl⟩
                rw [← hO5] at hJ5 hk5 HO4 HOS4 HOW4 HOM
                have hk5' : Keeps O5 (wr.setCell ⟨S, n', none⟩ (.bool true)) W5 := hk5.fewer fun k h => .inr h
                have HSB5 := Lib.hid (show Blk W5 S 128 (seenC (AL ++ (pre' ++ [(n', s0)]).map (·.1))) from (hk5'.2 S HSB4.out.lt HOS4.out).trans HSB4.out)
                have HQ5 := Lib.hid (HQ4.out.kept (O' := fun k => O5 k ∧ k ≠ S ∧ k ≠ WB) (hk5'.fewer fun k h => HOM.out k h.1) fun k _ h => ⟨HOM.out k h.1, h.2⟩)
                have HN5 := Lib.hid (HN4.out.kept hk5 fun i hi => .inl (hR i hi))
                have HW5 := Lib.hid (show Blk W5 WB 130 #[nptr NB n0, .string s0] from (hk5'.2 WB HW4.out.lt HOW4.out).trans HW4.out)
                have HJ5 := Lib.hid hJ5
                have x2 := (HN5.out n' hnl).cell 2
                have v1 : W5.cell? ⟨WB, 1, none⟩ = some (.string s0) := by have := HW5.out.cell 1; simpa using this
                have hS5 : S < W5.heap.size := HSB5.out.lt
                have hWB5 : WB < W5.heap.size := HW5.out.lt
                have HLEN := Lib.hid (show (pre' ++ [(n', s0)]).length = pre'.length + 1 by simp)
                clear hk5 hk5' hJ5 hO5 HSB4 HQ4 HN4 HW4 w1 fS sC c0
                rcases ends_of (NB := NB) hnl (goes HV.out hnl) with ⟨hn0, he⟩ | ⟨p, hp, hn1, he⟩ | ⟨p, q, hp, hq, hn2, he⟩
                · have x2' : W5.cell? ⟨nb NB n', 2, none⟩ = some (.iface 67 (.agg #[])) := by rw [x2, he]; rfl
                  have a1 := stop_no_jump
                  have a2 := stop_no_branch
                  have HSE := Lib.hid (HIN4.out.stop HIN0.out hn0)
                  have HQ6 := Lib.hid (Que.kept (O' := fun k => O5 k ∧ k ≠ S) HQ5.out (Keeps.refl _ _) fun q _ h => ⟨h.1, h.2.1⟩)
                  rw [HMM.out] at HQ6
                  clear x2 he hn0
                  gi_wp2
                  gi_roundg (3 * (26 - (pre' ++ [((n' : Nat), (s0 : ByteArray))]).length) + qs'.length)
                  case measure => have := HMM.out; have := HLEN.out; simp only [List.length_cons]; omega
                  case rel => exact ⟨O5, _, qs', rfl, by have := HMM.out; have := HLEN.out; omega, HSE.out, HJ5.out, HSB5.out, HOS4.out, HQ6.out, HN5.out, hS5, HO4.out⟩
                · have x2' : W5.cell? ⟨nb NB n', 2, none⟩ = some (.iface 103 (.agg #[nptr NB p])) := by rw [x2, he]; rfl
                  have a1 := is_jump
                  have HSE := Lib.hid (HIN4.out.jump HV.out HIN0.out hn1)
                  clear x2 he hn1
                  gi_wp2
                  gi_roundg (26 - (pre' ++ [((n' : Nat), (s0 : ByteArray))]).length)
                  case measure => have := HLEN.out; omega
                  case rel =>
                    have T6 := Turns.alloc O5 W5 (.cells #[nptr NB p] 103)
                    refine ⟨_, _, p, rfl, rfl, by have := HLEN.out; omega, HSE.out, HJ.out _ _ _ _ HJ5.out T6, HSB5.out.alloc _, .inl HOS4.out, ?_, HN5.out.below ((Below.refl _ _).alloc (Nat.le_refl _) _), HW5.out.alloc _, .inl HOW4.out, fun k hk => ?_⟩
                    · exact HQ5.out.kept (Turns.keeps (O := fun _ => False) (Turns.alloc _ _ _) fun _ _ h => h) fun k _ h => ⟨.inl h.1, h.2⟩
                    · exact hk.elim (HO4.out k) fun h => by have := h.1; omega
                · have x2' : W5.cell? ⟨nb NB n', 2, none⟩ = some (.iface 105 (.agg #[nptr NB p, nptr NB q])) := by rw [x2, he]; rfl
                  have a1 := branch_no_jump
                  have a2 := is_branch
                  have HSE := Lib.hid (HIN4.out.branch HV.out HIN0.out hn2)
                  have hsz : s0.size ≤ 26 := by have := HNX.out.short; have h2 : s0.size < g.length := this; omega
                  have hzl : s0.size + (⟨#[108]⟩ : ByteArray).size ≤ 1048576 := by have : (⟨#[108]⟩ : ByteArray).size = 1 := rfl; omega
                  have hzr : s0.size + (⟨#[114]⟩ : ByteArray).size ≤ 1048576 := by have : (⟨#[114]⟩ : ByteArray).size = 1 := rfl; omega
                  have TA := Turns.alloc O5 W5 (.cells #[nptr NB p, nptr NB q] 105)
                  have TB := Turns.alloc (more O5 W5 (W5.alloc (.cells #[nptr NB p, nptr NB q] 105))) (W5.alloc (.cells #[nptr NB p, nptr NB q] 105)) (.cells #[nptr NB p, .string (s0 ++ ⟨#[108]⟩), nptr NB q, .string (s0 ++ ⟨#[114]⟩)] 130)
                  have HT6 := Lib.hid (TA.trans TB)
                  have KA : Keeps (fun k => O5 k ∧ k ≠ S ∧ k ≠ WB) W5 ((W5.alloc (.cells #[nptr NB p, nptr NB q] 105)).alloc (.cells #[nptr NB p, .string (s0 ++ ⟨#[108]⟩), nptr NB q, .string (s0 ++ ⟨#[114]⟩)] 130)) :=
                    (Turns.keeps (O := fun _ => False) (Turns.alloc _ _ _) fun _ _ h => h).trans (Turns.keeps (O := fun _ => False) (Turns.alloc _ _ _) fun _ _ h => h)
                  have HQ6 := Lib.hid (HQ5.out.kept (O' := fun k => O5 k ∧ k ≠ S ∧ k ≠ WB) KA fun k _ h => h)
                  have HNEW := Lib.hid (cells_new (W5.alloc (.cells #[nptr NB p, nptr NB q] 105)) [nptr NB p, .string (s0 ++ ⟨#[108]⟩), nptr NB q, .string (s0 ++ ⟨#[114]⟩)] 130)
                  rw [World.size_alloc] at HNEW
                  have hm2 : m + 2 ≤ 1048576 := by have := hgrow; omega
                  clear x2 he hn2 TA TB KA
                  gi_wp2_with (gi_at_builtin; refine wpListIn_append_que _ rfl _ _ 131 rfl 130 i0 (.agg #[.pointer none, .string ⟨#[]⟩]) 2 Tryz.underlying131 hi0 hz0 hz1 (by rw [hz2]; decide) rfl (fun k => O5 k ∧ k ≠ S ∧ k ≠ WB) _ m (wayC NB qs') rfl HQ6.out ⟨W5.heap.size + 1, 0, none⟩ 2 2 [nptr NB p, .string (s0 ++ ⟨#[108]⟩), nptr NB q, .string (s0 ++ ⟨#[114]⟩)] rfl rfl HNEW.out (by simp [Value.oneCell']) hm2 ?_; intro v' w1 hq' hT')
                  have hwA : ((W5.alloc (.cells #[nptr NB p, nptr NB q] 105)).alloc (.cells #[nptr NB p, .string (s0 ++ ⟨#[108]⟩), nptr NB q, .string (s0 ++ ⟨#[114]⟩)] 130)).heap.size = W5.heap.size + 2 := by simp
                  have T9 : Turns O5 W5 w1 := HT6.out.trans (hT'.wider fun k h => .inl h.1)
                  have hs9 := T9.size
                  have elen : (qs' ++ [((p : Nat), s0 ++ chL), ((q : Nat), s0 ++ chR)]).length = m + 2 := by rw [List.length_append, ← HMM.out]; rfl
                  gi_roundg (3 * (26 - (pre' ++ [((n' : Nat), (s0 : ByteArray))]).length) + (qs' ++ [((p : Nat), s0 ++ chL), ((q : Nat), s0 ++ chR)]).length)
                  case measure => have := HMM.out; have := HLEN.out; rw [elen]; simp only [List.length_cons]; omega
                  case rel =>
                    refine ⟨more O5 W5 w1, _, _, rfl, by have := HLEN.out; rw [elen]; omega, HSE.out, HJ.out _ _ _ _ HJ5.out T9, ?_, .inl HOS4.out, ?_, fun i hi => ?_, by omega, fun k hk => ?_⟩
                    · exact (hT'.block _ (by rw [hwA]; omega) fun h => h.2.1 rfl).trans ((HSB5.out.alloc _).alloc _)
                    · rw [elen, wayC_append]
                      refine Que.kept (O' := fun k => more O5 W5 w1 k ∧ k ≠ S) hq' (Keeps.refl _ _) fun k _ h => ?_
                      rcases h with h | h
                      · exact ⟨.inl h.1, h.2.1⟩
                      · rw [hwA] at h
                        exact ⟨.inr ⟨by omega, h.2⟩, by omega⟩
                    · exact (T9.block _ (HN5.out i hi).lt fun h => by have := HO4.out _ h; have := HNL.out i hi; omega).trans (HN5.out i hi)
                    · exact hk.elim (HO4.out k) fun h => by have := h.1; omega
              · gi_wp2
                rw [Exit.noGoto_ret]
                refine bodyPost_ret (results_none rfl _ _ _) rfl ?_
                exact ⟨⟨_, rfl⟩, .inr ⟨_, ⟨pre', (n', s0), rfl, HNX.out⟩, hJx5⟩⟩

end Go.Proofs.YtgkamcnbpiipoaaGreat

/-
  Contract of firstWay: the first of the ways that leads to a wanted block.
-/
namespace Go.Proofs.YtgkamcnbpiipoaaGreat
open Go.RowKit Go.Sort Go.Shelf
attribute [local go_sem] Oper.semAt_some

/-- A function value that tells which blocks are wanted. -/
structure Wants (P : Nat → Bool) (NB : Nat) (g : List Bl) (F : FuncId) (cap : Array Value) (w0 : World) : Prop where
  enter : ∀ args w, (callFunc F args).run Tryz.prog w = .ok (.enter F args) w
  goes : ∀ W i, i < g.length → Below w0.heap.size w0 W → NodesIn W NB g → Calls Tryz.prog F (#[nptr NB i] ++ cap) W fun e w' => e = .returned (.bool (P i)) ∧ Below W.heap.size W w'

abbrev Wanted (P : Nat → Bool) : Nat → Prop := fun i => P i = true

def FirstPost (g : List Bl) (A : List Nat) (P : Nat → Prop) (w : World) (e : Ending) (w' : World) : Prop :=
  ∃ s ok, e = .returned (.tuple #[.string s, .bool ok]) ∧ FirstWay g A P s ok ∧ SoonAt g A P s ok ∧ Below w.heap.size w w'

set_option maxRecDepth 100000 in
set_option maxHeartbeats 2000000 in
theorem firstWay_any (P : Nat → Bool) (NB : Nat) (g : List Bl) (av : Option Nat) (F : FuncId) (cap : Array Value) (w : World) (hv : validB g = true) (hav : ∀ a, av = some a → a < g.length)
    (hN : NodesIn w NB g) (hW : Wants P NB g F cap w) :
    Calls Tryz.prog 32 #[nptr NB 0, ptrAt NB av, .func (.func F) #[] cap] w (FirstPost g (avL av) (Wanted P) w) := by
  have HV := Lib.hid hv
  have HN := Lib.hid hN
  have HWG := Lib.hid hW.goes
  have hent := hW.enter
  have HNL := Lib.hid (fun i hi => (hN i hi).lt)
  obtain ⟨pv, hpv⟩ : ∃ pv, ptrAt NB av = .pointer pv := ptrAt_pointer NB av
  clear hv hN hW
  refine (callsIn_wide (n := 4)).1 ?_
  refine callsIn_of_wp_marks Tryz.func32 rfl trivial ?_ rfl
  simp only [Tryz.ntmps32, List.size_toArray, List.length_cons, List.length_nil, Nat.reduceAdd, Nat.reduceSub, Array.replicate_succ, Array.replicate_zero, List.push_toArray, List.append_toArray, List.nil_append, List.cons_append]
  refine wpIn_mono (Q := calm _) ?_ calm_le
  rw [hpv]
  have HPV := Lib.hid hpv
  clear hpv
  gi_wp2_with fail
  refine ⟨trivial, (callsIn_wide.2 (waysFrom_any _ _ _)).mono ?_⟩
  rintro e w3 ⟨rfl, hw3⟩
  have hs3 : w3.heap.size = w.heap.size + 5 := by rw [hw3]; simp
  have kF : Boxed w3 w.heap.size 69 (.func (.func F) #[] cap) := by rw [hw3]; exact ((((Boxed.new w _ _).alloc _).alloc _).alloc _).alloc _
  have kS : Boxed w3 (w.heap.size + 1) 9 (.string ⟨#[]⟩) := by
    have := (((Boxed.new (w.alloc (.cells #[.func (.func F) #[] cap] 69)) 9 (.string ⟨#[]⟩)).alloc (.cells #[.bool false] 4)).alloc (.cells #[nptr NB 0] 60)).alloc (.cells #[.pointer pv] 60)
    rw [hw3]; simpa using this
  have kB : Boxed w3 (w.heap.size + 2) 4 (.bool false) := by
    have := ((Boxed.new ((w.alloc (.cells #[.func (.func F) #[] cap] 69)).alloc (.cells #[.string ⟨#[]⟩] 9)) 4 (.bool false)).alloc (.cells #[nptr NB 0] 60)).alloc (.cells #[.pointer pv] 60)
    rw [hw3]; simpa using this
  have kE : w3.cell? ⟨w.heap.size + 3, 0, none⟩ = some (nptr NB 0) := by
    have := (Boxed.new (((w.alloc (.cells #[.func (.func F) #[] cap] 69)).alloc (.cells #[.string ⟨#[]⟩] 9)).alloc (.cells #[.bool false] 4)) 60 (nptr NB 0)).alloc (.cells #[.pointer pv] 60)
    have b : Boxed w3 (w.heap.size + 3) 60 (nptr NB 0) := by rw [hw3]; simpa using this
    exact b.cell
  have kA : w3.cell? ⟨w.heap.size + 4, 0, none⟩ = some (ptrAt NB av) := by
    have := Boxed.new ((((w.alloc (.cells #[.func (.func F) #[] cap] 69)).alloc (.cells #[.string ⟨#[]⟩] 9)).alloc (.cells #[.bool false] 4)).alloc (.cells #[nptr NB 0] 60)) 60 (.pointer pv)
    have b : Boxed w3 (w.heap.size + 4) 60 (.pointer pv) := by rw [hw3]; simpa using this
    rw [HPV.out]; exact b.cell
  have hb3 : Below w.heap.size w w3 := by
    rw [hw3]; exact (((((Below.refl _ w).alloc (Nat.le_refl _) _).alloc (by simp) _).alloc (by simp; omega) _).alloc (by simp; omega) _).alloc (by simp; omega) _
  have HN3 := Lib.hid (HN.out.below hb3)
  have HB3 := Lib.hid hb3
  clear hw3 hb3
  simp only [World.size_alloc, Nat.add_assoc, Nat.reduceAdd]
  gi_wp2_with fail
  refine wpIn_rangeFunc_mine rfl (by decide) (gf := 73) rfl trivial (enters_of Tryz.func73 (by kernel_rfl) rfl)
    (waysFrom1_own 3 NB _ _ g av (fun k => k < w.heap.size) w3 (by decide) HV.out kA hav kE HN3.out (fun i hi => HNL.out i hi) (by omega) (by omega)) (Below.refl _ _) (fun _ => rfl) (fun k hk => by omega)
    (fun _ pre W => Boxed W w.heap.size 69 (.func (.func F) #[] cap) ∧ (∃ v, Boxed W (w.heap.size + 1) 9 v) ∧ (∃ v, Boxed W (w.heap.size + 2) 4 v) ∧ NodesIn W NB g ∧ Below w.heap.size w W ∧ ∀ y ∈ pre, P y.1 = false)
    (fun c pre W => c = .ret ∧ ∃ s, Boxed W (w.heap.size + 1) 9 (.string s) ∧ Boxed W (w.heap.size + 2) 4 (.bool true) ∧ FirstWay g (avL av) (Wanted P) s true ∧ SoonAt g (avL av) (Wanted P) s true ∧ Below w.heap.size w W)
    ?hI ?hIx (fun _ _ _ _ => trivial) ?h0
    (fun x => { tmps := #[nptr NB 0, .pointer pv, .func (.func F) #[] cap, undef, undef, .pointer (some ⟨w.heap.size, 0, none⟩), .pointer (some ⟨w.heap.size + 1, 0, none⟩), .pointer (some ⟨w.heap.size + 2, 0, none⟩),
      nptr NB x.1, .string x.2, nptr NB 0, .pointer pv, .func (.func 73) #[] #[.pointer (some ⟨w.heap.size + 4, 0, none⟩), .pointer (some ⟨w.heap.size + 3, 0, none⟩)],
      nptr NB x.1, .string x.2, undef, undef, undef, undef], defers := [] }) ?assign ?body ?done ?stop
  case hI =>
    rintro O pre X Y hle hO ⟨h1, ⟨v2, h2⟩, ⟨v3, h3⟩, h4, h5, h6⟩ hT
    refine ⟨(hT.block _ h1.lt fun h => by have := hO _ h; omega).trans h1, ⟨v2, (hT.block _ h2.lt fun h => by have := hO _ h; omega).trans h2⟩, ⟨v3, (hT.block _ h3.lt fun h => by have := hO _ h; omega).trans h3⟩,
      fun i hi => (hT.block _ (h4 i hi).lt fun h => by have := hO _ h; have := HNL.out i hi; omega).trans (h4 i hi), h5.trans (hT.below h5.size fun k h => by have := hO k h; omega), h6⟩
  case hIx =>
    rintro c pre X Y hle ⟨rfl, s, h1, h2, h3, h4, h5⟩ hT
    exact ⟨rfl, s, (hT.block _ h1.lt (by omega)).trans h1, (hT.block _ h2.lt (by omega)).trans h2, h3, h4, h5.trans (hT.below h5.size fun k h => by omega)⟩
  case h0 => exact ⟨kF, ⟨_, kS⟩, ⟨_, kB⟩, HN3.out, HB3.out, by simp⟩
  case assign =>
    intro l x W K hK
    gi_wp2
    exact hK
  case body =>
    rintro l O pre x W hle hO ⟨h1, ⟨v2, h2⟩, ⟨v3, h3⟩, h4, h5, h6⟩ hx
    have c1 := h1.cell
    have hxl := hx.lt
    have HC := Lib.hid (HWG.out W x.1 hxl h5 h4)
    have K1 := Lib.hid h1
    have K2 := Lib.hid h2
    have K3 := Lib.hid h3
    have K4 := Lib.hid h4
    have K5 := Lib.hid h5
    have K6 := Lib.hid h6
    have KX := Lib.hid hx
    clear h1 h2 h3 h4 h5 h6 hx
    gi_wp2_with fail
    refine ⟨trivial, ((callsIn_wide.2 HC.out).inRound l).mono ?_⟩
    rintro e w5 ⟨rfl, b5⟩
    have J1 := Lib.hid (show Boxed w5 w.heap.size 69 (.func (.func F) #[] cap) from (b5.block _ K1.out.lt).trans K1.out)
    have J2 := Lib.hid (show Boxed w5 (w.heap.size + 1) 9 v2 from (b5.block _ K2.out.lt).trans K2.out)
    have J3 := Lib.hid (show Boxed w5 (w.heap.size + 2) 4 v3 from (b5.block _ K3.out.lt).trans K3.out)
    have J4 := Lib.hid (K4.out.below b5)
    have J5 := Lib.hid (below_trans_self K5.out b5)
    have JK := Lib.hid (Turns.keeps (O := fun _ => False) (O' := fun k => k < w.heap.size ∨ O k) (Turns.of_below b5) fun _ _ h => h)
    have hs5 := b5.size
    have c2 := J2.out.cell
    have c3 := J3.out.cell
    have f2 := J2.out.frozen
    have f3 := J3.out.frozen
    clear b5
    cases hP : P x.1 with
    | true =>
      gi_wp2_with fail
      have TX : Turns (fun k => k = w.heap.size + 1 ∨ k = w.heap.size + 2) w5 ((w5.setCell ⟨w.heap.size + 1, 0, none⟩ (.string x.2)).setCell ⟨w.heap.size + 2, 0, none⟩ (.bool true)) :=
        (Turns.setCell (O := fun k => k = w.heap.size + 1 ∨ k = w.heap.size + 2) (p := ⟨w.heap.size + 1, 0, none⟩) (.inl rfl) (.string x.2)).trans ((Turns.setCell (O := fun k => k = w.heap.size + 1 ∨ k = w.heap.size + 2) (p := ⟨w.heap.size + 2, 0, none⟩) (.inr rfl) (.bool true)).wider fun k hk => .inl hk)
      refine ⟨JK.out.trans (TX.keeps fun k hk h => ?_), rfl, x.2, (J2.out.set _).other (by omega) _, (J3.out.other (by omega) _).set _, first_hit (fun y hy h => ?_) KX.out hP, soon_hit KX.out hP, J5.out.trans (TX.below J5.out.size fun k h => by omega)⟩
      · rcases hk with hk | hk
        · omega
        · have := hO k hk; omega
      · have h2 := K6.out y hy
        have h3 : P y.1 = true := h
        rw [h2] at h3; cases h3
    | false =>
      gi_wp2_with fail
      refine ⟨JK.out, J1.out, ⟨_, J2.out⟩, ⟨_, J3.out⟩, J4.out, J5.out, fun y hy => ?_⟩
      rcases List.mem_append.1 hy with hy | hy
      · exact K6.out y hy
      · simp at hy; subst hy; exact hP
  case done =>
    rintro D O xs W rfl hO hxs ⟨h1, ⟨v2, h2⟩, ⟨v3, h3⟩, h4, h5, h6⟩ hOD hK
    have c2 := h2.cell
    have f2 := h2.frozen
    have c3 := h3.cell
    have f3 := h3.frozen
    have K2 := Lib.hid h2
    have K3 := Lib.hid h3
    have K5 := Lib.hid h5
    have K6 := Lib.hid h6
    have KX := Lib.hid hxs
    have HK := Lib.hid hK
    clear h1 h2 h3 h4 h5 h6 hK hxs
    gi_wp2_with fail
    have TX : Turns (fun k => k = w.heap.size + 1 ∨ k = w.heap.size + 2) W ((W.setCell ⟨w.heap.size + 1, 0, none⟩ (.string ⟨#[]⟩)).setCell ⟨w.heap.size + 2, 0, none⟩ (.bool false)) :=
      (Turns.setCell (O := fun k => k = w.heap.size + 1 ∨ k = w.heap.size + 2) (p := ⟨w.heap.size + 1, 0, none⟩) (.inl rfl) (.string ⟨#[]⟩)).trans ((Turns.setCell (O := fun k => k = w.heap.size + 1 ∨ k = w.heap.size + 2) (p := ⟨w.heap.size + 2, 0, none⟩) (.inr rfl) (.bool false)).wider fun k hk => .inl hk)
    obtain ⟨W6, hW6⟩ : ∃ W6, (W.setCell ⟨w.heap.size + 1, 0, none⟩ (.string ⟨#[]⟩)).setCell ⟨w.heap.size + 2, 0, none⟩ (.bool false) = W6 := ⟨_, rfl⟩
    have J2 : Boxed W6 (w.heap.size + 1) 9 (.string ⟨#[]⟩) := by rw [← hW6]; exact (K2.out.set _).other (by omega) _
    have J3 : Boxed W6 (w.heap.size + 2) 4 (.bool false) := by rw [← hW6]; exact (K3.out.other (by omega) _).set _
    rw [hW6] at TX ⊢
    have HK6 : W6.heap[w3.heap.size]? = some (.deferred (some [])) := (TX.block _ (Array.getElem?_eq_some_iff.1 HK.out).1 (by omega)).trans HK.out
    have L2 : Boxed (W6.putObj w3.heap.size (.deferred none)) (w.heap.size + 1) 9 (.string ⟨#[]⟩) := (World.putObj_heap_other (by omega)).trans J2
    have L3 : Boxed (W6.putObj w3.heap.size (.deferred none)) (w.heap.size + 2) 4 (.bool false) := (World.putObj_heap_other (by omega)).trans J3
    have d2 := L2.cell
    have d3 := L3.cell
    refine ⟨by simp, .inl ⟨_, _, rfl, run_takeDeferred HK6, ?_⟩⟩
    refine ⟨.tuple #[.string ⟨#[]⟩, .bool false], by simp [results, Tryz.results32, go_sem, d2, d3], ?_⟩
    exact ⟨_, _, rfl, first_none (fun y hy h => by have h2 := K6.out y hy; have h3 : P y.1 = true := h; rw [h2] at h3; cases h3) KX.out, soon_none _ _ _ _, below_put (K5.out.trans (TX.below K5.out.size fun k h => by omega)) (by omega) _⟩
  case stop =>
    rintro D c pre W rfl hpre ⟨rfl, s, h1, h2, h3, h4, h5⟩ hK
    have c2 := h1.cell
    have c3 := h2.cell
    have K2 := Lib.hid h1
    have K3 := Lib.hid h2
    have K5 := Lib.hid h5
    have KF := Lib.hid h3
    have KS := Lib.hid h4
    have HK := Lib.hid hK
    clear h1 h2 h3 h4 h5 hK hpre
    gi_wp2_with fail
    have L2 : Boxed (W.putObj w3.heap.size (.deferred none)) (w.heap.size + 1) 9 (.string s) := (World.putObj_heap_other (by omega)).trans K2.out
    have L3 : Boxed (W.putObj w3.heap.size (.deferred none)) (w.heap.size + 2) 4 (.bool true) := (World.putObj_heap_other (by omega)).trans K3.out
    have d2 := L2.cell
    have d3 := L3.cell
    refine ⟨by simp, .inl ⟨_, _, rfl, run_takeDeferred HK.out, ?_⟩⟩
    refine ⟨.tuple #[.string s, .bool true], by simp [results, Tryz.results32, go_sem, d2, d3], ?_⟩
    exact ⟨_, _, rfl, KF.out, KS.out, below_put K5.out (by omega) _⟩

end Go.Proofs.YtgkamcnbpiipoaaGreat
