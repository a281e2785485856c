/-
  Contracts: what can be come to, block by block: the iterator and what makes it.
-/
import Derived.Test.YteodlcgmncchpaaRunGraph
import Derived.Test.YteodlcgmncchpaaRuns
import Derived.Test.YteodlcgmncchpaaIter
import Derived.Maps.AppendAt
namespace Go.Proofs.Yteodlcgmncchpaa
open Go.RowKit Go.Sort Go.Shelf
attribute [local go_sem] Oper.semAt_some

theorem reachedFrom_any (u : Option Addr) (w : World) :
    Calls Try.prog 83 #[.pointer u] w fun e w' =>
      e = .returned (.func (.func 101) #[] #[.pointer (some ⟨w.heap.size, 0, none⟩)]) ∧ w' = w.alloc (.cells #[.pointer u] 61) := by
  go_enter Try.func83, Try.ntmps83
  go_wp2
  go_ret
  exact ⟨rfl, rfl⟩

/-- The method behind an ending: which function it is, and the row that it makes. -/
structure Disp2 (NB : Nat) (g : List Bl) (i : Nat) (T : TypeId) (v : Value) (F : FuncId) : Prop where
  val : ends NB g i = .iface T v
  look : ∀ w, (method 276 T v "loop.example/structuredjumps/impl.targets").run Try.prog w = .ok (F, v) w
  enter : ∀ args w, (callFunc F args).run Try.prog w = .ok (.enter F args) w
  goes : ∀ w, Calls Try.prog F #[v] w fun e w' => ∃ A, e = .returned (.slice A (nxt g i).length (nxt g i).length) ∧ Below w.heap.size w w' ∧
    (0 < (nxt g i).length → ∃ b, A = some ⟨b, 0, none⟩ ∧ w.heap.size ≤ b ∧ Blk w' b 61 ((nxt g i).map (nptr NB)).toArray)

theorem disp2 {NB : Nat} {g : List Bl} (hv : validB g = true) {i : Nat} (hi : i < g.length) : ∃ T v F, Disp2 NB g i T v F := by
  rcases ends_of (NB := NB) hi (goes hv hi) with ⟨hn, he⟩ | ⟨p, hp, hn, he⟩ | ⟨p, q, hp, hq, hn, he⟩
  · refine ⟨_, _, _, he, fun w => look_stop w, enters_of Try.func148 (by kernel_rfl) rfl, fun w => ?_⟩
    refine (stop_targets w).mono ?_
    rintro e w' ⟨rfl, hB⟩
    rw [hn]
    exact ⟨none, rfl, hB, fun h => absurd h (by simp)⟩
  · refine ⟨_, _, _, he, fun w => look_jump _ w, enters_of Try.func151 (by kernel_rfl) rfl, fun w => ?_⟩
    refine (jump_targets _ w).mono ?_
    rintro e w' ⟨rfl, hb, hB⟩
    rw [hn]
    exact ⟨_, rfl, hB, fun _ => ⟨_, rfl, by omega, hb⟩⟩
  · refine ⟨_, _, _, he, fun w => look_branch _ _ w, enters_of Try.func152 (by kernel_rfl) rfl, fun w => ?_⟩
    refine (branch_targets _ _ w).mono ?_
    rintro e w' ⟨rfl, hb, hB⟩
    rw [hn]
    exact ⟨_, rfl, hB, fun _ => ⟨_, rfl, by omega, hb⟩⟩

theorem nxt_two {g : List Bl} (hv : validB g = true) {i : Nat} (hi : i < g.length) : (nxt g i).length ≤ 2 := by
  rcases goes hv hi with ⟨h, _⟩ | ⟨p, hp, h, _⟩ | ⟨p, q, hp, hq, h, _⟩ <;> rw [h] <;> simp

theorem step_len {g : List Bl} (hv : validB g = true) {i k : Nat} (hi : i < g.length) {ts : List Nat} (h : ts ⊆ nxt g i) : (stepL (bfs g k) ts).length ≤ g.length := by
  refine nodup_lt_len _ _ (stepL_nodup _ _ (bfs_nodup g k)) fun x hx => ?_
  rcases (stepL_mem _ _ _).1 hx with h1 | h1
  · exact bfs_lt hv k x h1
  · exact nxt_lt hv hi (h h1)

/-- What has been seen. -/
def seenC (out : List Nat) : Array Value := ((List.range 26).map fun j => Value.bool (decide (j ∈ out))).toArray

theorem seenC_size (out : List Nat) : (seenC out).size = 26 := by simp [seenC]
theorem seenC_get (out : List Nat) {j : Nat} (hj : j < 26) : (seenC out)[j]? = some (.bool (decide (j ∈ out))) := by simp [seenC, hj]
theorem seenC_set (out : List Nat) (t : Nat) : (seenC out).setIfInBounds t (.bool true) = seenC (out ++ [t]) := by
  apply Array.ext_getElem?
  intro j
  rw [Array.getElem?_setIfInBounds, seenC_size]
  by_cases hj : j < 26
  · rw [seenC_get _ hj, seenC_get _ hj]
    by_cases e : t = j
    · subst e; rw [if_pos rfl, if_pos hj]; simp
    · rw [if_neg e]; congr 2; simp [Ne.symm e]
  · have h1 : (seenC out)[j]? = none := Array.getElem?_eq_none (by rw [seenC_size]; omega)
    have h2 : (seenC (out ++ [t]))[j]? = none := Array.getElem?_eq_none (by rw [seenC_size]; omega)
    rw [h1, h2]
    split
    · rw [if_neg (by omega)]
    · rfl

set_option maxRecDepth 100000 in
set_option maxHeartbeats 1000000 in
theorem reachedFrom1_own (n : Nat) (NB EB : Nat) (g : List Bl) (R : Nat → Prop) (w : World) (hn : 1 ≤ n) (hv : validB g = true)
    (hE : w.cell? ⟨EB, 0, none⟩ = some (nptr NB 0)) (hN : NodesIn w NB g) (hR : ∀ i, i < g.length → R (nb NB i)) (hEl : EB < w.heap.size) :
    SeqOwn Fence.wide n Try.prog 101 #[.pointer (some ⟨EB, 0, none⟩)] (fun x : Nat => #[nptr NB x]) R (fun _ => True) (fun pre x => pre ++ [x] <+: reach g)
      (fun xs => xs = reach g) (fun pre => pre <+: reach g) w := by
  intro l J Jx W hW hJ hBd hY h0
  obtain ⟨i0, hi0, hz0, hz1, hz2⟩ := info_parts info_ptr
  have hpos := (valid_iff.1 hv).1
  have h26 := (valid_iff.1 hv).2.1
  have he0 := (hW.cell (p := ⟨EB, 0, none⟩) hEl).trans hE
  have HN := Lib.hid (hN.below hW)
  have HY := Lib.hid hY
  have HJ := Lib.hid hJ
  have n0 : W.cell? ⟨nb NB 0, 0, none⟩ = some (.int .i64 0) := by have := (HN.out 0 hpos).cell 0; simpa using this
  have nl := (HN.out 0 hpos).lt
  have el : EB < W.heap.size := by have := hW.size; omega
  clear hE hN hW hY hJ hBd
  refine callsIn_of_wp Try.func101 rfl trivial ?_ rfl
  simp only [Try.ntmps101, List.size_toArray, List.length_cons, List.length_nil, Nat.reduceAdd, Nat.reduceSub, Array.replicate_succ, Array.replicate_zero, List.push_toArray, List.append_toArray, List.nil_append, List.cons_append]
  gi_wp2
  obtain ⟨W2, hW2⟩ : ∃ W2, (W.alloc (.cells #[.bool true, .bool false, .bool false, .bool false, .bool false, .bool false, .bool false, .bool false, .bool false, .bool false, .bool false, .bool false, .bool false, .bool false, .bool false, .bool false, .bool false, .bool false, .bool false, .bool false, .bool false, .bool false, .bool false, .bool false, .bool false, .bool false] 127)).alloc (.cells #[nptr NB 0] 61) = W2 := ⟨_, rfl⟩
  have hS : Blk W2 W.heap.size 127 (seenC [0]) := by rw [← hW2]; exact (Blk.new W _ _).alloc _
  have hb2 : Below W.heap.size W W2 := by rw [← hW2]; exact ((Below.refl _ W).alloc (Nat.le_refl _) _).alloc (by simp) _
  have hs2 : W2.heap.size = W.heap.size + 2 := by rw [← hW2]; simp
  have hQ : Que W2 61 1 (fun k => more (fun _ => False) W W2 k ∧ k ≠ W.heap.size) (.slice (some ⟨W.heap.size + 1, 0, none⟩) 1 1) 1 [nptr NB 0] := by
    have := Que.made (W.alloc (.cells #[.bool true, .bool false, .bool false, .bool false, .bool false, .bool false, .bool false, .bool false, .bool false, .bool false, .bool false, .bool false, .bool false, .bool false, .bool false, .bool false, .bool false, .bool false, .bool false, .bool false, .bool false, .bool false, .bool false, .bool false, .bool false, .bool false] 127)) 61 1 (fun k => more (fun _ => False) W W2 k ∧ k ≠ W.heap.size) #[nptr NB 0] 1 rfl ⟨.inr ⟨by simp, by simp; omega⟩, by simp⟩
    rw [World.size_alloc, hW2] at this
    exact this
  have hJ2 := HJ.out _ _ _ W2 h0 (Turns.of_below hb2)
  have HN2 := Lib.hid (HN.out.below hb2)
  have HNL := Lib.hid (fun i hi => (HN.out i hi).lt)
  have HS := Lib.hid hS
  have HQ := Lib.hid hQ
  rw [hW2]
  clear hW2 hb2 hS hQ n0 he0
  gi_loopg [4] g.length (fun gk q wr => ∃ O k, gk = g.length - k ∧ k ≤ (bfs g k).length ∧ J O ((bfs g k).take k) wr ∧ Blk wr W.heap.size 127 (seenC (bfs g k)) ∧ O W.heap.size ∧
    Que wr 61 1 (fun k => O k ∧ k ≠ W.heap.size) q ((bfs g k).length - k) (((bfs g k).drop k).map (nptr NB)) ∧ NodesIn wr NB g ∧ W.heap.size < wr.heap.size ∧ ∀ k, O k → W.heap.size ≤ k)
  case atStart => exact ⟨_, 0, rfl, by simp, hJ2, HS.out, .inr ⟨Nat.le_refl _, by omega⟩, HQ.out, HN2.out, by omega, fun k hk => hk.elim (fun h => h.elim) fun h => h.1⟩
  case round =>
    obtain ⟨O, k, rfl, hkl, hJs, hSb, hOS, hQu, hNs, hWl, hOW⟩ := hrel
    have hlen := bfs_len hv k
    obtain ⟨B, off, cap, rfl, hcap, hOB, hBl, hcells⟩ := hQu.cells
    by_cases hlt : k < (bfs g k).length
    · obtain ⟨x, hx⟩ : ∃ x, x = (bfs g k)[k] := ⟨_, rfl⟩
      have hxl : x < g.length := hx ▸ bfs_lt hv k _ (List.getElem_mem hlt)
      obtain ⟨m, hm⟩ : ∃ m, (bfs g k).length - k = m + 1 := ⟨(bfs g k).length - k - 1, by omega⟩
      have hdrop : (bfs g k).drop k = x :: (bfs g k).drop (k + 1) := by rw [List.drop_eq_getElem_cons hlt, ← hx]
      rw [hm, hdrop, List.map_cons] at hQu
      rw [hdrop, List.map_cons] at hcells
      have hc0 : wr.cell? ⟨B, off, none⟩ = some (nptr NB x) := by have := hcells 0 (by simp); simpa using this
      rw [hm] at hcap ⊢
      have hQ2 : ∃ v2, Que wr 61 1 (fun k => O k ∧ k ≠ W.heap.size) v2 m (((bfs g k).drop (k + 1)).map (nptr NB)) ∧ (cap = 1 ∧ v2 = .slice (some ⟨B, off, none⟩) m 0 ∨ cap ≠ 1 ∧ v2 = .slice (some ⟨B, off + 1, none⟩) m (cap - 1)) := by
        by_cases h1 : cap = 1
        · exact ⟨_, hQu.tail0 h1, .inl ⟨h1, rfl⟩⟩
        · exact ⟨_, by have := hQu.tail; simpa using this, .inr ⟨h1, rfl⟩⟩
      obtain ⟨v2, hQ2, hv2⟩ := hQ2
      have HQ2 := Lib.hid hQ2
      have hpx : (bfs g k).take k ++ [x] <+: reach g := by
        have : (bfs g k).take k ++ [x] = (bfs g k).take (k + 1) := by rw [List.take_succ_eq_append_getElem hlt, ← hx]
        rw [this]; exact (List.take_prefix _ _).trans (bfs_reach (by omega))
      have HPX := Lib.hid hpx
      have HX := Lib.hid hx
      have HM := Lib.hid hm
      obtain ⟨fn, tmps, assign, body, hy, hRd⟩ := HY.out O _ x wr hJs hpx
      have hy' : (Instr.yield l #[nptr NB x]).run Try.prog wr = .ok (.round l fn tmps assign body) wr := hy
      have hcap1 : 1 ≤ cap := by omega
      have K1 := Lib.hid hSb
      have K2 := Lib.hid hNs
      have K3 := Lib.hid hkl
      clear hy hpx hx hm hdrop hcells hQu hQ2 hJs hSb hNs hkl
      rcases hv2 with ⟨hc1, rfl⟩ | ⟨hc1, rfl⟩
      all_goals
        gi_wp2
        refine hRd.mono ?_
        rintro e W3 (⟨rfl, hJ3, hk3⟩ | ⟨rfl, hJx3⟩)
        · have hk3' : Keeps O wr W3 := hk3.fewer fun k h => .inr h
          have K1' := Lib.hid (show Blk W3 W.heap.size 127 (seenC (bfs g k)) from (hk3'.2 _ K1.out.lt hOS).trans K1.out)
          have hWl3 : W.heap.size < W3.heap.size := by have := hk3'.1; omega
          have KQ := Lib.hid (HQ2.out.kept (hk3'.fewer fun k h => h.1) fun k _ h => h)
          have KN := K2.out.kept hk3 fun i hi => .inl (hR i hi)
          have KN' := Lib.hid KN
          obtain ⟨T, tv, F2, hd⟩ := disp2 (NB := NB) hv hxl
          have x2 : W3.cell? ⟨nb NB x, 2, none⟩ = some (.iface T tv) := by have := (KN x hxl).cell 2; rw [hd.val] at this; simpa using this
          have hlook := hd.look
          have hent := hd.enter
          have HD := Lib.hid hd.goes
          clear hd KN hk3 hk3' hc0
          gi_wp2
          refine ⟨trivial, (callsIn_wide.2 (HD.out W3)).mono ?_⟩
          rintro e W4 ⟨A, rfl, hB4, hrow⟩
          have hs4 := hB4.size
          obtain ⟨d, hd⟩ : ∃ d, d = (nxt g x).length := ⟨_, rfl⟩
          have hd2 : d ≤ 2 := hd ▸ nxt_two hv hxl
          rw [← hd] at hrow ⊢
          obtain ⟨tb, htb, hrow⟩ : ∃ tb, W3.heap.size ≤ tb ∧ (0 < d → A = some ⟨tb, 0, none⟩ ∧ Blk W4 tb 61 ((nxt g x).map (nptr NB)).toArray) := by
            by_cases h0 : 0 < d
            · obtain ⟨b, h1, h2, h3⟩ := hrow h0
              exact ⟨b, h2, fun _ => ⟨h1, h3⟩⟩
            · exact ⟨_, Nat.le_refl _, fun h => absurd h h0⟩
          have htake : (bfs g k).take k ++ [x] = (bfs g k).take (k + 1) := by rw [List.take_succ_eq_append_getElem hlt, ← HX.out]
          rw [htake] at hJ3
          have hJ4 := Lib.hid (HJ.out O _ W3 W4 hJ3 (Turns.of_below hB4))
          have KN4 := Lib.hid (KN'.out.below hB4)
          have KS4 := Lib.hid (K1'.out.below hB4 hWl3)
          have KQ4 := Lib.hid (KQ.out.kept (O' := fun k => more O W3 W4 k ∧ k ≠ W.heap.size ∧ k ≠ tb) (Turns.keeps (O := fun _ => False) (Turns.of_below hB4) fun _ _ h => h) fun k hk h => ⟨.inl h.1, h.2, by omega⟩)
          have HOW := Lib.hid hOW
          have HROW := Lib.hid hrow
          have HDD := Lib.hid hd
          have HLEN := Lib.hid hlen
          clear hJ3 hB4 hrow hd htake hOW x2 hlook hent
          gi_wp2
          gi_loopw [4, 33] (fun q i wr => ∃ (O' : Nat → Prop) (j : Nat) (out : List Nat), j ≤ d ∧ i = .int .i64 j ∧ Hid (out = stepL (bfs g k) ((nxt g x).take j)) ∧ J O' ((bfs g k).take (k + 1)) wr ∧ Blk wr W.heap.size 127 (seenC out) ∧ O' W.heap.size ∧
            Que wr 61 1 (fun k => O' k ∧ k ≠ W.heap.size ∧ k ≠ tb) q (out.length - (k + 1)) ((out.drop (k + 1)).map (nptr NB)) ∧ NodesIn wr NB g ∧ (0 < d → Blk wr tb 61 ((nxt g x).map (nptr NB)).toArray) ∧
            W4.heap.size ≤ wr.heap.size ∧ ∀ k, O' k → W.heap.size ≤ k) (fun _ i _ => d - (intOf i).toNat)
          case atStart =>
            refine ⟨_, 0, bfs g k, Nat.zero_le _, rfl, rfl, hJ4.out, KS4.out, .inl hOS, ?_, KN4.out, fun h => (HROW.out h).2, Nat.le_refl _, fun k hk => ?_⟩
            · have e : (bfs g k).length - (k + 1) = m := by have := HM.out; omega
              rw [e]; exact KQ4.out
            · rcases hk with h | h
              · exact HOW.out k h
              · omega
          case round =>
            obtain ⟨O', j, out, hj, rfl, HOUT, hJj, hSj, hOSj, hQj, hNj, hTj, hsj, hOWj⟩ := hrel
            obtain ⟨B2, off2, cap2, rfl, _⟩ := hQj.cells
            have K4j := Lib.hid hNj
            have K5j := Lib.hid hTj
            have K6j := Lib.hid hQj
            have K7j := Lib.hid hOWj
            have hole : k + 1 ≤ out.length := by
              have h1 := (stepL_prefix ((nxt g x).take j) (bfs g k)).length_le
              rw [← HOUT.out] at h1; omega
            have hol : out.length ≤ g.length := by rw [HOUT.out]; exact step_len hv hxl (List.take_prefix _ _).subset
            by_cases hjd : j < d
            · have HJD := Lib.hid hjd
              obtain ⟨t, ht⟩ : ∃ t, t = (nxt g x)[j]'(by have := HDD.out; omega) := ⟨_, rfl⟩
              have htl : t < g.length := ht ▸ nxt_lt hv hxl (List.getElem_mem _)
              obtain ⟨hA, hTB⟩ := HROW.out (by omega)
              have htbl := hTB.lt
              have cT : wr.cell? ⟨tb, j, none⟩ = some (nptr NB t) := by
                rw [(hTj (by omega)).cell j, List.getElem?_toArray, List.getElem?_map, List.getElem?_eq_getElem (by have := HDD.out; omega), Option.map_some, ht]
              have nI : wr.cell? ⟨nb NB t, 0, none⟩ = some (.int .i64 t) := by have := (hNj t htl).cell 0; simpa using this
              have cS : wr.cell? ⟨W.heap.size, t, none⟩ = some (.bool (decide (t ∈ out))) := (hSj.cell t).trans (seenC_get _ (by omega))
              have fS := hSj.frozen t
              have t26 : t < 26 := by omega
              have K1j := Lib.hid hSj
              have HT := Lib.hid (show stepL (bfs g k) ((nxt g x).take (j + 1)) = if t ∈ out then out else out ++ [t] by
                rw [List.take_succ_eq_append_getElem (by have := HDD.out; omega), ← ht, stepL_snoc, ← HOUT.out])
              subst hA
              clear ht hNj hTj hQj hOWj hSj
              by_cases hin : t ∈ out
              · rw [decide_eq_true hin] at cS
                rw [if_pos hin] at HT
                clear hin
                gi_wp2
                go_roundw
                case rel => exact ⟨O', j + 1, out, by have := HJD.out; omega, by go_num, HT.out.symm, hJj, K1j.out, hOSj, K6j.out, K4j.out, K5j.out, hsj, K7j.out⟩
                case measure => have := HJD.out; simp [intOf]; omega
              · rw [decide_eq_false hin] at cS
                rw [if_neg hin] at HT
                clear hin
                have hk : Keeps (fun k => O' k ∧ k ≠ W.heap.size ∧ k ≠ tb) wr ((wr.setCell ⟨W.heap.size, t, none⟩ (.bool true)).alloc (.cells #[nptr NB t] 61)) :=
                  (Turns.keeps (Turns.setCell (O := fun k => k = W.heap.size) (p := ⟨W.heap.size, t, none⟩) rfl (.bool true)) fun k h => h.2.1).trans (Turns.keeps (O := fun _ => False) (Turns.alloc _ _ _) fun _ _ h => h)
                have HQ6 := Lib.hid (K6j.out.kept hk fun k _ h => h)
                have HNEW := Lib.hid (show ∀ j u, [nptr NB t][j]? = some u → ((wr.setCell ⟨W.heap.size, t, none⟩ (.bool true)).alloc (.cells #[nptr NB t] 61)).cell? ((⟨wr.heap.size, 0, none⟩ : Addr).add j) = some u from by
                  have := cell_one_new (wr.setCell ⟨W.heap.size, t, none⟩ (.bool true)) (nptr NB t) 61
                  rwa [show (wr.setCell ⟨W.heap.size, t, none⟩ (.bool true)).heap.size = wr.heap.size from by simp] at this)
                clear hk
                gi_wp2_with (gi_at_builtin; refine wpListIn_append_que _ rfl _ _ 57 rfl 61 i0 (.pointer none) 1 Try.underlying57 hi0 hz0 hz1 (by rw [hz2]; decide) rfl (fun k => O' k ∧ k ≠ W.heap.size ∧ k ≠ tb) (.slice (some ⟨B2, off2, none⟩) (out.length - (k + 1)) cap2) (out.length - (k + 1)) ((out.drop (k + 1)).map (nptr NB)) rfl HQ6.out ⟨wr.heap.size, 0, none⟩ 1 1 [nptr NB t] rfl rfl HNEW.out (by simp [Value.oneCell']) (by omega) ?_; intro v' w1 hq' hT')
                have T0 : Turns O' wr ((wr.setCell ⟨W.heap.size, t, none⟩ (.bool true)).alloc (.cells #[nptr NB t] 61)) :=
                  (Turns.setCell (O := O') (p := ⟨W.heap.size, t, none⟩) hOSj (.bool true)).trans ((Turns.alloc O' _ _).wider fun k h => .inl h)
                have T1 : Turns O' wr w1 := T0.trans (hT'.wider fun k h => .inl h.1)
                have hwA : ((wr.setCell ⟨W.heap.size, t, none⟩ (.bool true)).alloc (.cells #[nptr NB t] 61)).heap.size = wr.heap.size + 1 := by simp
                go_roundw
                case rel =>
                  refine ⟨more O' wr w1, j + 1, out ++ [t], by have := HJD.out; omega, by go_num, HT.out.symm, HJ.out O' _ wr w1 hJj T1, ?_, .inl hOSj, ?_, fun i hi => ?_, fun h => ?_, ?_, ?_⟩
                  · rw [← seenC_set]
                    exact (hT'.block _ (by rw [hwA]; omega) fun h => h.2.1 rfl).trans ((K1j.out.set_ t (.bool true)).alloc _)
                  · have e1 : (out ++ [t]).length - (k + 1) = out.length - (k + 1) + 1 := by rw [List.length_append, List.length_singleton]; exact Nat.sub_add_comm hole
                    have e2 : ((out ++ [t]).drop (k + 1)).map (nptr NB) = (out.drop (k + 1)).map (nptr NB) ++ [nptr NB t] := by rw [List.drop_append_of_le_length hole, List.map_append]; rfl
                    rw [e1, e2]
                    refine Que.kept (O' := fun k => more O' wr w1 k ∧ k ≠ W.heap.size ∧ k ≠ tb) hq' (Keeps.refl _ _) fun q _ h => ?_
                    rcases h with h | h
                    · exact ⟨.inl h.1, h.2⟩
                    · rw [hwA] at h
                      exact ⟨.inr ⟨by omega, h.2⟩, by omega, by omega⟩
                  · exact (T1.block _ (K4j.out i hi).lt fun h => by have := K7j.out _ h; have := HNL.out i hi; omega).trans (K4j.out i hi)
                  · have h1 : Blk (wr.setCell ⟨W.heap.size, t, none⟩ (.bool true)) tb 61 ((nxt g x).map (nptr NB)).toArray := (Below.heap_setCell _ _ _ _ (by show tb ≠ W.heap.size; omega)).trans (K5j.out h)
                    exact (hT'.block _ (by rw [hwA]; omega) fun h => h.2.2 rfl).trans (h1.alloc _)
                  · have := T1.size; omega
                  · intro q h
                    rcases h with h | h
                    · exact K7j.out q h
                    · omega
                case measure => have := HJD.out; simp [intOf]; omega
            · have hjd' : j = d := by omega
              have HB1 := Lib.hid (show out = bfs g (k + 1) by rw [HOUT.out, bfs_step hlt, ← HX.out, List.take_of_length_le (by have := HDD.out; omega)])
              have K1j := Lib.hid hSj
              clear hNj hTj hQj hOWj hSj
              gi_wp2
              gi_roundg (g.length - (k + 1))
              case measure => have := HLEN.out; omega
              case rel =>
                refine ⟨O', k + 1, rfl, by rw [← HB1.out]; exact hole, ?_, by rw [← HB1.out]; exact K1j.out, hOSj, ?_, K4j.out, by omega, K7j.out⟩
                · have : (bfs g (k + 1)).take (k + 1) = (bfs g k).take (k + 1) := by
                    obtain ⟨r, hr⟩ := bfs_prefix g k
                    rw [← hr, List.take_append_of_le_length (by omega)]
                  rw [this]; exact hJj
                · rw [← HB1.out]
                  exact Que.kept (O' := fun k => O' k ∧ k ≠ W.heap.size) K6j.out (Keeps.refl _ _) fun q _ h => ⟨h.1, h.2.1⟩
        · gi_wp2
          refine bodyPost_ret (results_none rfl _ _ _) rfl ?_
          exact ⟨⟨_, rfl⟩, .inr ⟨_, HPX.out, hJx3⟩⟩
    · have hq0 : (bfs g k).length - k = 0 := by omega
      have hre : (bfs g k).take k = reach g := by rw [List.take_of_length_le (by omega)]; exact reach_done (by omega) (by omega)
      rw [hq0]
      rw [hre] at hJs
      clear hcells hQu
      gi_wp2
      go_end0
      exact ⟨⟨_, rfl⟩, .inl ⟨_, _, rfl, hJs⟩⟩
end Go.Proofs.Yteodlcgmncchpaa
