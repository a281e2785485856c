/-
  Contracts: slices.Backward at nodes; a node appended to the way order.
-/
import Derived.Test.YtdolbmonmkjajaaSpreadFrom
import Derived.Deep.RegionLaw
import Derived.Test.YtdolbmonmkjajaaSpecDom
import Derived.Test.YtdolbmonmkjajaaReachedNodes
namespace Go.Proofs.Ytdolbmonmkjajaa
open Go.RowKit Go.Sort Go.Shelf

/-- The places and the elements of a list, the last first. -/
def backZ (ts : List Nat) : List (Nat × Nat) := ((List.range ts.length).map fun k => (k, ts.getD k 0)).reverse

theorem backZ_length (ts : List Nat) : (backZ ts).length = ts.length := by simp [backZ]
theorem backZ_snd (ts : List Nat) : (backZ ts).map (·.2) = ts.reverse := by
  unfold backZ
  rw [List.map_reverse, List.map_map]
  congr 1
  refine List.ext_getElem (by simp) fun i h1 h2 => ?_
  simp only [List.getElem_map, List.getElem_range, Function.comp]
  rw [List.getD_eq_getElem?_getD, List.getElem?_eq_getElem h2]; rfl
theorem backZ_get {ts : List Nat} {m : Nat} (h : m < ts.length) : (backZ ts)[ts.length - (m + 1)]? = some (m, ts[m]) := by
  unfold backZ
  rw [List.getElem?_reverse (by simp; omega)]
  simp only [List.length_map, List.length_range]
  rw [show ts.length - 1 - (ts.length - (m + 1)) = m by omega, List.getElem?_map, List.getElem?_range h]
  simp only [Option.map_some]
  rw [List.getD_eq_getElem?_getD, List.getElem?_eq_getElem h]; rfl

section
attribute [local go_sem] Oper.semAt_some

set_option maxRecDepth 100000 in
set_option maxHeartbeats 2000000 in
theorem backward_own (n NB TB cap : Nat) (A : Option Addr) (ts : List Nat) (R : Nat → Prop) (w : World) (hn : 1 ≤ n) (htl : ts.length ≤ 1048576)
    (hTB : w.cell? ⟨TB, 0, none⟩ = some (.slice A ts.length cap)) (hA : PtsI w A NB ts) (hTl : TB < w.heap.size) (hRT : R TB) (hRA : ∀ b off, 0 < ts.length → A = some ⟨b, off, none⟩ → R b) :
    SeqOwn Fence.wide n Try.prog 87 #[.pointer (some ⟨TB, 0, none⟩)] (fun p : Nat × Nat => #[.int .i64 p.1, nptr NB p.2]) R (fun _ => True) (fun pre x => pre ++ [x] <+: backZ ts)
      (fun xs => xs = backZ ts) (fun pre => pre <+: backZ ts) w := by
  intro l J Jx W hW hJ _ hY h0
  have hKW : Keeps R w W := ⟨hW.size, fun k hk _ => hW.block k hk⟩
  have ct := (hW.cell (p := ⟨TB, 0, none⟩) hTl).trans hTB
  have HA := Lib.hid hA
  have HY := Lib.hid hY
  have HKW := Lib.hid hKW
  have HRA := Lib.hid hRA
  have HTB := Lib.hid hTB
  clear hTB hA hW hY hJ hKW hRA
  refine callsIn_of_wp Try.func87 rfl trivial ?_ rfl
  simp only [Try.ntmps87, List.size_toArray, List.length_cons, List.length_nil, Nat.reduceAdd, Nat.reduceSub, Array.replicate_succ, Array.replicate_zero, List.push_toArray, List.append_toArray, List.nil_append, List.cons_append]
  gi_wp2_with fail
  gi_loopg [3] ts.length (fun gk iv wr => ∃ (m : Nat) (z : Int), gk = m ∧ iv = .int .i64 z ∧ z = (m : Int) - 1 ∧ m ≤ ts.length ∧ J (fun _ => False) ((backZ ts).take (ts.length - m)) wr ∧ Keeps R w wr)
  case atStart => exact ⟨ts.length, _, rfl, rfl, rfl, Nat.le_refl _, by rw [Nat.sub_self]; exact h0, HKW.out⟩
  case round =>
    obtain ⟨m, z, hgk, rfl, hz, hm, hJs, hKR⟩ := hrel
    have hgk' := hgk.symm
    subst hgk'
    cases m with
    | zero =>
      obtain rfl : z = -1 := by omega
      clear hz hgk hm
      have hre : (backZ ts).take (ts.length - 0) = backZ ts := List.take_of_length_le (by rw [backZ_length]; omega)
      rw [hre] at hJs
      gi_wp2_with fail
      go_end0
      exact ⟨⟨_, rfl⟩, .inl ⟨_, _, rfl, hJs⟩⟩
    | succ m =>
      obtain rfl : z = (m : Int) := by omega
      clear hz hgk
      have hml : m < ts.length := by omega
      obtain ⟨x, hx⟩ : ∃ x, x = ts[m] := ⟨_, rfl⟩
      obtain ⟨b, off, hAe, hbl, hc⟩ := HA.out (by omega)
      subst hAe
      have hRb := HRA.out b off (by omega) rfl
      have cT : wr.cell? ⟨TB, 0, none⟩ = some (.slice (some ⟨b, off, none⟩) ts.length cap) := (World.cell?_of_block (hKR.2 TB hTl hRT)).trans HTB.out
      have cX : wr.cell? ⟨b, off + m, none⟩ = some (nptr NB x) := by
        rw [World.cell?_of_block (hKR.2 b hbl hRb), hc m hml, hx]
      have hpx : (backZ ts).take (ts.length - (m + 1)) ++ [(m, x)] = (backZ ts).take (ts.length - m) := by
        have h1 := backZ_get hml
        rw [show ts.length - m = ts.length - (m + 1) + 1 by omega, List.take_add_one, h1, hx]; rfl
      obtain ⟨fn, tmps, assign, body, hy, hRd⟩ := HY.out _ _ (m, x) wr hJs (by rw [hpx]; exact List.take_prefix _ _)
      have hy' : (Instr.yield l #[.int .i64 m, nptr NB x]).run Try.prog wr = .ok (.round l fn tmps assign body) wr := hy
      have HPX := Lib.hid hpx
      have HKR := Lib.hid hKR
      clear hy hx hc hpx hJs hKR
      gi_wp2_with fail
      refine hRd.mono ?_
      rintro e W3 (⟨rfl, hJ3, hk3⟩ | ⟨rfl, hJx3⟩)
      · rw [HPX.out] at hJ3
        have HK3 := Lib.hid (HKR.out.trans (hk3.fewer fun b h => .inl h))
        clear hk3 hRd
        gi_wp2_with fail
        gi_roundg m
        case measure => omega
        case rel => exact ⟨m, _, rfl, rfl, by omega, by omega, hJ3, HK3.out⟩
      · rw [HPX.out] at hJx3
        gi_wp2_with fail
        refine bodyPost_ret (results_none rfl _ _ _) rfl ?_
        exact ⟨⟨_, rfl⟩, .inr ⟨_, List.take_prefix _ _, hJx3⟩⟩
end

/-- The iterator's maker. -/
theorem backward_any (v : Value) (w : World) (hv : v.oneCell' = true) :
    Calls Try.prog 76 #[v] w fun e w' =>
      e = .returned (.func (.func 87) #[] #[.pointer (some ⟨w.heap.size, 0, none⟩)]) ∧ w' = w.alloc (.cells #[v] 58) := by
  go_enter Try.func76, Try.ntmps76
  go_wp2
  go_ret
  exact ⟨rfl, rfl⟩

/-- append, as one step of a region that draws. -/
theorem step_append_row {P : Program} {w : World} {ops : Array Oper} {o : Oper} {a : Act} {K : Act → World → Prop} {Q : Exit → Act → World → Prop} {E : Prop}
    (hg : o.guard = none) (s x : Operand) (t : TypeId) (hop : o.op = Op.call { callee := Callee.builtin Builtin.append, args := #[s, x], argTypes := #[t, t] })
    (e : TypeId) (i : TypeInfo) (z : Value) (size : Nat) (ht : P.underlying t = some (.slice e)) (hi : P.info? e = some i) (hz : i.zero = some z) (hsize : i.size = size) (hby : i.bytes ≤ 1024) (hzs : z.cells.size = size)
    (O : Nat → Prop) (v : Value) (k : Nat) (xs : List Value) (hs : a.eval s = v) (hq : Row w e size O v k xs) (ad : Addr) (m c : Nat) (news : List Value) (hx : a.eval x = .slice (some ad) m c) (hl : news.length = m * size)
    (hc : ∀ j u, news[j]? = some u → w.cell? (ad.add j) = some u) (h1c : ∀ u ∈ news, u.oneCell' = true) (b1 : k + m ≤ 1048576) (hm : 0 < m)
    (hK : ∀ v' w', Que w' e size (more O w w') v' (k + m) (xs ++ news) → Turns O w w' → K (a.put o.dst v') w') :
    if Region.wanted o (yielded ops a.tmps) = true then Oper.wp P o a w K Q else E := by
  have hw : Region.wanted o (yielded ops a.tmps) = true := by simp [Region.wanted, hg]
  rw [if_pos hw]
  obtain ⟨v', w', hrun, r1, r2⟩ := run_append_row (P := P) w t o.type e i z size ht hi hz hsize hby hzs O v k xs hq ad m c news hl hc h1c b1 hm
  unfold Oper.wp
  simp [execOp, hop, resolve, invoke, builtin, hs, hx, hrun, Result.andThen]
  exact hK v' w' r1 r2

def PutPost (NB WB : Nat) (tv mv : Value) (i k : Nat) (xs : List Value) (O : Nat → Prop) (w : World) (e : Ending) (w' : World) : Prop :=
  e = .returned (.tuple #[]) ∧ ∃ q', Turns (fun b => O b ∨ b = WB) w w' ∧ Blk w' WB 66 #[tv, q', mv] ∧ Row w' 69 1 (more O w w') q' (k + 1) (xs ++ [nptr NB i])

set_option maxRecDepth 100000 in
set_option maxHeartbeats 2000000 in
theorem behind_any (NB OB WB : Nat) (tv q mv : Value) (i k : Nat) (xs : List Value) (O : Nat → Prop) (w : World) (hO : Blk w OB 49 #[.pointer (some ⟨WB, 0, none⟩)]) (hW : Blk w WB 66 #[tv, q, mv])
    (hR : Row w 69 1 O q k xs) (hOO : ¬ O OB) (hOW : ¬ O WB) (hk : k + 1 ≤ 1048576) (hne : OB ≠ WB) :
    Calls Try.prog 55 #[nptr NB i, .pointer (some ⟨OB, 0, none⟩)] w (PutPost NB WB tv mv i k xs O w) := by
  obtain ⟨i0, hi0, hz0, hz1, hz2⟩ := info_parts info_ptr
  have c0 : w.cell? ⟨OB, 0, none⟩ = some (.pointer (some ⟨WB, 0, none⟩)) := hO.cell 0
  have c1 : w.cell? ⟨WB, 1, none⟩ = some q := hW.cell 1
  have f1 := hW.frozen 1
  have hOl := hO.lt
  have hWl := hW.lt
  have HO := Lib.hid hO
  have HW := Lib.hid hW
  have HROW := Lib.hid (show Row (w.drew.alloc (.cells #[nptr NB i] 69)) 69 1 O q k xs from
    hR.kept ((Turns.keeps (O := fun _ => False) (Turns.drew _ w) fun _ _ h => h).trans (Turns.keeps (O := fun _ => False) (Turns.alloc _ _ _) fun _ _ h => h)) fun _ _ h => h)
  have HNEW := Lib.hid (cell_one_new w.drew (nptr NB i) 69)
  clear hO hW hR
  go_enter Try.func55, Try.ntmps55
  go_wp2_with fail
  go_region_law ((refine step_append_row (by rfl) _ _ _ (by rfl) 69 i0 (.pointer none) 1 Try.underlying58 hi0 hz0 hz1 (by rw [hz2]; decide) rfl O q k xs (by rfl) HROW.out ⟨w.heap.size, 0, none⟩ 1 1 [nptr NB i] (by rfl) (by rfl) HNEW.out (by simp [Value.oneCell']) (by omega) (by decide) ?_; intro v' w1 hq' hT'; obtain ⟨B', off', cap', rfl, _⟩ := hq'.cells; have k2 : Blk w1 WB 66 #[tv, q, mv] := (hT'.block _ (by simp; omega) hOW).trans (HW.out.drew.alloc _); have k3 : Blk w1 OB 49 #[.pointer (some ⟨WB, 0, none⟩)] := (hT'.block _ (by simp; omega) hOO).trans (HO.out.drew.alloc _); have c2 : w1.cell? ⟨WB, 1, none⟩ = some q := k2.cell 1; have c3 : w1.cell? ⟨OB, 0, none⟩ = some (.pointer (some ⟨WB, 0, none⟩)) := k3.cell 0; have f2 := k2.frozen 1; have HQQ := Lib.hid hq'; have HTT := Lib.hid hT'; have HK2 := Lib.hid k2; clear k2 k3 hq' hT'))
  all_goals
    go_wp2_with fail
    go_end0
    have hsA : (w.alloc (.cells #[nptr NB i] 69)).drew.heap.size = w.heap.size + 1 := by simp
    have TA : Turns (fun b => O b ∨ b = WB) w (w.alloc (.cells #[nptr NB i] 69)).drew := (Turns.alloc _ w _).trans ((Turns.drew (fun b => O b ∨ b = WB) _).wider fun k hk => .inl hk)
    have TB : Turns (fun b => O b ∨ b = WB) w w1 := TA.trans (HTT.out.wider fun k h => .inl (.inl h))
    have TC := TB.trans ((Turns.setCell (O := fun b => O b ∨ b = WB) (p := ⟨WB, 1, none⟩) (.inr rfl) (.slice (some ⟨B', off', none⟩) (k + 1) cap')).wider fun k h => .inl h)
    have h1s := HTT.out.size
    rw [hsA] at h1s
    refine ⟨rfl, _, TC, by simpa using HK2.out.set_ 1 (.slice (some ⟨B', off', none⟩) (k + 1) cap'), .inr (HQQ.out.kept (Turns.keeps (Turns.setCell (O := fun b => b = WB) (p := ⟨WB, 1, none⟩) rfl _) fun b hb e => ?_) fun b hb h => ?_)⟩
    · subst e
      rcases hb with hb | hb
      · exact hOW hb
      · rw [hsA] at hb; omega
    · rcases h with h | h
      · exact .inl h
      · rw [hsA] at h
        exact .inr ⟨by omega, by simp; omega⟩
end Go.Proofs.Ytdolbmonmkjajaa

/-
  Contract of the closure that goes through a block and all behind it.
-/
namespace Go.Proofs.Ytdolbmonmkjajaa
open Go.RowKit Go.Sort Go.Shelf

theorem visits_gone {g : List Bl} (hv : validB g = true) {m i : Nat} (hr : Rch g [] i) : ∀ (ts s d : List Nat), (∀ t ∈ ts, t ∈ nxt g i) → Seen g s → g.length ≤ m + s.length → (∀ x ∈ d, x < g.length) → d.length ≤ s.length →
    Gone g s d (visits (nxt g) m (s, d) ts).1 (visits (nxt g) m (s, d) ts).2
  | [], s, d, _, hs, _, hd, hl => .refl hs hd hl
  | t :: ts, s, d, hts, hs, hm, hd, hl => by
    rw [visits_cons]
    by_cases ht : t ∈ s
    · rw [if_pos ht]; exact visits_gone hv hr ts s d (fun x hx => hts x (List.mem_cons_of_mem _ hx)) hs hm hd hl
    · rw [if_neg ht]
      have G := visit_gone hv (m := m) ht (.step hr (hts t (by simp)) (by simp)) hs hm hd hl
      exact G.trans (visits_gone hv hr ts _ _ (fun x hx => hts x (List.mem_cons_of_mem _ hx)) G.ok (by have := G.pre.length_le; omega) G.lt G.len)

/-- Blocks that are not turned. -/
structure Apart (NB : Nat) (g : List Bl) (VB BB OB : Nat) (T : Nat → Prop) : Prop where
  vis : ¬ T VB
  beh : ¬ T BB
  ord : ¬ T OB
  nodes : ∀ i, i < g.length → ¬ T (nb NB i)

/-- What has been begun and what has been put, as it lies. -/
structure DfsAt (w : World) (NB : Nat) (g : List Bl) (SB VB BB OB WB : Nat) (tv mv : Value) (T : Nat → Prop) (s d : List Nat) : Prop where
  seen : Blk w SB 118 (seenC s)
  vis : Boxed w VB 86 (.func (.func 75) #[] #[.pointer (some ⟨SB, 0, none⟩), .pointer (some ⟨VB, 0, none⟩), .pointer (some ⟨BB, 0, none⟩)])
  beh : Boxed w BB 86 (.func (.func 55) #[] #[.pointer (some ⟨OB, 0, none⟩)])
  ord : Blk w OB 49 #[.pointer (some ⟨WB, 0, none⟩)]
  store : ∃ q, Blk w WB 66 #[tv, q, mv] ∧ Row w 69 1 (fun b => T b ∧ b ≠ SB ∧ b ≠ WB) q d.length (d.reverse.map (nptr NB))
  nodes : NodesIn w NB g
  ownS : T SB
  ownW : T WB
  apart : Apart NB g VB BB OB T
  ne : SB ≠ WB

section
variable {NB : Nat} {g : List Bl} {SB VB BB OB WB : Nat} {tv mv : Value}

/-- What goes on elsewhere turns nothing here. -/
theorem DfsAt.turn {w w' : World} {T T' O : Nat → Prop} {s d : List Nat} (h : DfsAt w NB g SB VB BB OB WB tv mv T s d) (hT : Turns O w w') (h1 : ∀ b, b < w.heap.size → O b → ¬ T b)
    (h2 : ∀ b, b < w.heap.size → T b → T' b) (hp : Apart NB g VB BB OB T') (ho : Apart NB g VB BB OB O) : DfsAt w' NB g SB VB BB OB WB tv mv T' s d := by
  obtain ⟨q, hq, hr⟩ := h.store
  have k : ∀ b, b < w.heap.size → T b → w'.heap[b]? = w.heap[b]? := fun b hb ht => hT.block b hb fun ho => h1 b hb ho ht
  exact ⟨(k _ h.seen.lt h.ownS).trans h.seen, (hT.block _ h.vis.lt ho.vis).trans h.vis, (hT.block _ h.beh.lt ho.beh).trans h.beh, (hT.block _ h.ord.lt ho.ord).trans h.ord,
    ⟨q, (k _ hq.lt h.ownW).trans hq, hr.kept ⟨hT.size, fun b hb ht => k b hb ht.1⟩ fun b hb ht => ⟨h2 b hb ht.1, ht.2⟩⟩, fun i hi => (hT.block _ (h.nodes i hi).lt (ho.nodes i hi)).trans (h.nodes i hi),
    h2 _ h.seen.lt h.ownS, h2 _ hq.lt h.ownW, hp, h.ne⟩

theorem Apart.none : Apart NB g VB BB OB (fun _ => False) := ⟨id, id, id, fun _ _ => id⟩

theorem DfsAt.below {w w' : World} {T : Nat → Prop} {s d : List Nat} (h : DfsAt w NB g SB VB BB OB WB tv mv T s d) (hb : Below w.heap.size w w') : DfsAt w' NB g SB VB BB OB WB tv mv T s d :=
  h.turn (O := fun _ => False) (T' := T) (Turns.of_below hb) (fun _ _ e => e.elim) (fun _ _ e => e) h.apart .none

theorem DfsAt.wider {w : World} {T T' : Nat → Prop} {s d : List Nat} (h : DfsAt w NB g SB VB BB OB WB tv mv T s d) (h2 : ∀ b, b < w.heap.size → T b → T' b) (hp : Apart NB g VB BB OB T') : DfsAt w NB g SB VB BB OB WB tv mv T' s d :=
  h.turn (O := fun _ => False) (Turns.refl _ w) (fun _ _ e => e.elim) h2 hp .none

/-- One more is begun. -/
theorem DfsAt.begin {w : World} {T : Nat → Prop} {s d : List Nat} (h : DfsAt w NB g SB VB BB OB WB tv mv T s d) (i : Nat) :
    DfsAt (w.setCell ⟨SB, i, none⟩ (.bool true)) NB g SB VB BB OB WB tv mv T (s ++ [i]) d := by
  obtain ⟨q, hq, hr⟩ := h.store
  have o : ∀ b, b ≠ SB → (w.setCell ⟨SB, i, none⟩ (.bool true)).heap[b]? = w.heap[b]? := fun b hb => Below.heap_setCell _ _ _ _ hb
  refine ⟨?_, (o VB fun e => h.apart.vis (e ▸ h.ownS)).trans h.vis, (o BB fun e => h.apart.beh (e ▸ h.ownS)).trans h.beh, (o OB fun e => h.apart.ord (e ▸ h.ownS)).trans h.ord, ⟨q, (o _ (Ne.symm h.ne)).trans hq, hr.kept ⟨by simp, fun b _ ht => o b ht.2.1⟩ fun b _ ht => ht⟩,
    fun j hj => (o (nb NB j) fun e => h.apart.nodes j hj (e ▸ h.ownS)).trans (h.nodes j hj), h.ownS, h.ownW, h.apart, h.ne⟩
  rw [← seenC_set]
  exact h.seen.set_ i (.bool true)

/-- One more is put. -/
theorem DfsAt.put {w w' : World} {T : Nat → Prop} {s d : List Nat} {q' : Value} {i : Nat} (h : DfsAt w NB g SB VB BB OB WB tv mv T s d) (hT : Turns (fun b => (T b ∧ b ≠ SB ∧ b ≠ WB) ∨ b = WB) w w')
    (hq : Blk w' WB 66 #[tv, q', mv]) (hr : Row w' 69 1 (more (fun b => T b ∧ b ≠ SB ∧ b ≠ WB) w w') q' (d.length + 1) (d.reverse.map (nptr NB) ++ [nptr NB i])) (hWl : WB < w.heap.size) :
    DfsAt w' NB g SB VB BB OB WB tv mv (more T w w') s (i :: d) := by
  have hap : Apart NB g VB BB OB (fun b => (T b ∧ b ≠ SB ∧ b ≠ WB) ∨ b = WB) :=
    ⟨fun e => h.apart.vis (e.elim (·.1) fun e => e ▸ h.ownW), fun e => h.apart.beh (e.elim (·.1) fun e => e ▸ h.ownW), fun e => h.apart.ord (e.elim (·.1) fun e => e ▸ h.ownW), fun i hi e => h.apart.nodes i hi (e.elim (·.1) fun e => e ▸ h.ownW)⟩
  refine ⟨(hT.block _ h.seen.lt fun e => e.elim (fun e => e.2.1 rfl) h.ne).trans h.seen, (hT.block _ h.vis.lt hap.vis).trans h.vis, (hT.block _ h.beh.lt hap.beh).trans h.beh, (hT.block _ h.ord.lt hap.ord).trans h.ord,
    ⟨q', hq, ?_⟩, fun i hi => (hT.block _ (h.nodes i hi).lt (hap.nodes i hi)).trans (h.nodes i hi), .inl h.ownS, .inl h.ownW,
    ⟨fun e => e.elim h.apart.vis fun e => by have := h.vis.lt; omega, fun e => e.elim h.apart.beh fun e => by have := h.beh.lt; omega, fun e => e.elim h.apart.ord fun e => by have := h.ord.lt; omega, fun i hi e => e.elim (h.apart.nodes i hi) fun e => by have := (h.nodes i hi).lt; omega⟩, h.ne⟩
  rw [List.length_cons, List.reverse_cons, List.map_append]
  refine hr.kept (Keeps.refl _ _) fun b _ hb => ?_
  rcases hb with hb | hb
  · exact ⟨.inl hb.1, hb.2⟩
  · exact ⟨.inr hb, by have := h.seen.lt; omega, by omega⟩
end

abbrev visF (SB VB BB : Nat) : Array Value := #[.pointer (some ⟨SB, 0, none⟩), .pointer (some ⟨VB, 0, none⟩), .pointer (some ⟨BB, 0, none⟩)]

def VisitPost (NB : Nat) (g : List Bl) (SB VB BB OB WB : Nat) (tv mv : Value) (T : Nat → Prop) (s d : List Nat) (w : World) (e : Ending) (w' : World) : Prop :=
  e = .returned (.tuple #[]) ∧ Turns T w w' ∧ DfsAt w' NB g SB VB BB OB WB tv mv (more T w w') s d

attribute [local go_sem] Oper.semAt_some

set_option maxRecDepth 100000 in
set_option maxHeartbeats 4000000 in
theorem visit_any (NB SB VB BB OB WB : Nat) (tv mv : Value) (g : List Bl) (hv : validB g = true) : ∀ (m i : Nat) (s d : List Nat) (T : Nat → Prop) (w : World), DfsAt w NB g SB VB BB OB WB tv mv T s d → (∀ b, T b → b < w.heap.size) →
    i ∉ s → Rch g [] i → Seen g s → g.length ≤ m + s.length → (∀ x ∈ d, x < g.length) → d.length ≤ s.length →
    Calls Try.prog 75 (#[nptr NB i] ++ visF SB VB BB) w (VisitPost NB g SB VB BB OB WB tv mv T (visit (nxt g) m i (s, d)).1 (visit (nxt g) m i (s, d)).2 w)
  | 0, i, s, d, _, _, _, _, hi, hr, hs, hm, _, _ => by
    have := (hs.snoc (hr.lt hv) hi).len
    simp at this; omega
  | m + 1, i, s, d, T, w, h, hTl, hi, hr, hs, hm, hd, hl => by
    have IH := Lib.hid (visit_any NB SB VB BB OB WB tv mv g hv m)
    have h26 := (valid_iff.1 hv).2.1
    have hil := hr.lt hv
    obtain ⟨TT, vv, F2, hdsp⟩ := disp2 (NB := NB) hv hil
    have x0 : w.cell? ⟨nb NB i, 0, none⟩ = some (.int .i64 i) := by have := (h.nodes i hil).cell 0; simpa using this
    have x2 : w.cell? ⟨nb NB i, 2, none⟩ = some (.iface TT vv) := by have := (h.nodes i hil).cell 2; rw [hdsp.val] at this; simpa using this
    have hlook := hdsp.look
    have hent := hdsp.enter
    have HD := Lib.hid hdsp.goes
    have cS : w.cell? ⟨SB, i, none⟩ = some (.bool (decide (i ∈ s))) := (h.seen.cell i).trans (seenC_get _ (by omega))
    have fS := h.seen.frozen i
    have hSl := h.seen.lt
    have i0 : (0 : Int) ≤ (i : Int) := by omega
    have i1 : (i : Int) < 26 := by omega
    have H1 := Lib.hid (h.begin i)
    have HT1 := Lib.hid (Turns.setCell (O := T) (A := w) (p := ⟨SB, i, none⟩) h.ownS (.bool true))
    have x2' : (w.setCell ⟨SB, i, none⟩ (.bool true)).cell? ⟨nb NB i, 2, none⟩ = some (.iface TT vv) :=
      (World.cell?_of_block (Below.heap_setCell _ _ _ _ (by show nb NB i ≠ SB; intro e; exact h.apart.nodes i hil (e ▸ h.ownS)))).trans x2
    have hs1 : (w.setCell ⟨SB, i, none⟩ (.bool true)).heap.size = w.heap.size := by simp
    have HAP := Lib.hid h.apart
    have HVL := Lib.hid (show VB < w.heap.size ∧ BB < w.heap.size ∧ OB < w.heap.size ∧ ∀ j, j < g.length → nb NB j < w.heap.size from ⟨h.vis.lt, h.beh.lt, h.ord.lt, fun j hj => (h.nodes j hj).lt⟩)
    have HS := Lib.hid (hs.snoc hil hi)
    have HR := Lib.hid hr
    have HTL := Lib.hid hTl
    have HV := Lib.hid hv
    have HDL := Lib.hid hd
    have hent2 : ∀ args w, (callFunc 75 args).run Try.prog w = .ok (.enter 75 args) w := enters_of Try.func75 (by kernel_rfl) rfl
    have hent3 : ∀ args w, (callFunc 55 args).run Try.prog w = .ok (.enter 55 args) w := enters_of Try.func55 (by kernel_rfl) rfl
    clear hdsp h hTl hi hr hs hd
    refine (callsIn_wide (n := 4)).1 ?_
    refine callsIn_of_wp_marks Try.func75 rfl trivial ?_ rfl
    simp only [Try.ntmps75, visF, List.size_toArray, List.length_cons, List.length_nil, Nat.reduceAdd, Nat.reduceSub, Array.replicate_succ, Array.replicate_zero, List.push_toArray, List.append_toArray, List.nil_append, List.cons_append]
    refine wpIn_mono (Q := calm _) ?_ calm_le
    gi_wp2_with fail
    generalize w.setCell ⟨SB, i, none⟩ (.bool true) = W1 at H1 HT1 x2' hs1 ⊢
    refine ⟨trivial, (callsIn_wide.2 (HD.out W1)).mono ?_⟩
    rintro e W2 ⟨A, rfl, hB2, hrow⟩
    have H2 := Lib.hid (H1.out.below hB2)
    have HT2 := Lib.hid (HT1.out.trans ((Turns.of_below (O := fun _ => False) hB2).wider fun _ e => e.elim))
    have HROW := Lib.hid hrow
    have hs2 := hB2.size
    clear hB2 hrow x0 x2 x2' cS fS hlook hent
    gi_wp2_with fail
    refine ⟨trivial, (callsIn_wide.2 (backward_any (.slice A (nxt g i).length (nxt g i).length) W2 rfl)).mono ?_⟩
    rintro e W3 ⟨rfl, hW3⟩
    have hb3 : Below W2.heap.size W2 W3 := by rw [hW3]; exact (Below.refl _ _).alloc (Nat.le_refl _) _
    have hs3 : W3.heap.size ≤ W2.heap.size + 1 := by rw [hW3]; simp
    have hs4 : W2.heap.size + 1 ≤ W3.heap.size := by rw [hW3]; simp
    have kT : Boxed W3 W2.heap.size 58 (.slice A (nxt g i).length (nxt g i).length) := by rw [hW3]; exact Boxed.new W2 _ _
    have H3 := Lib.hid (H2.out.below hb3)
    have HT3 := Lib.hid (HT2.out.trans ((Turns.of_below (O := fun _ => False) hb3).wider fun _ e => e.elim))
    have hn2 : (nxt g i).length ≤ 2 := by rw [nxt_length hil]; exact nxt_two' HV.out hil
    have hPA : PtsI W3 A NB (nxt g i) := fun h => by
      obtain ⟨b, rfl, hb, hk⟩ := HROW.out h
      refine ⟨b, 0, rfl, by have := hk.lt; omega, fun k hk2 => ?_⟩
      rw [Nat.zero_add, (hk.below hb3 hk.lt).cell, List.getElem?_toArray, List.getElem?_map, List.getElem?_eq_getElem hk2]; rfl
    have HSEQ := Lib.hid (backward_own 3 NB W2.heap.size (nxt g i).length A (nxt g i) (fun b => W1.heap.size ≤ b ∧ b < W3.heap.size) W3 (by decide) (by omega) kT.cell hPA (by omega) ⟨by omega, by omega⟩
      (fun b off h e => by
        obtain ⟨b', e', hb, hk⟩ := HROW.out h
        rw [e] at e'
        simp only [Option.some.injEq, Addr.mk.injEq] at e'
        have := hk.lt
        exact ⟨by omega, by omega⟩))
    have HGO := Lib.hid (fun ts (h : ∀ t ∈ ts, t ∈ nxt g i) => visits_gone HV.out (m := m) HR.out ts (s ++ [i]) d h HS.out (by simp; omega) HDL.out (by simp; omega))
    clear hW3 hb3 kT hPA
    gi_wp2_with fail
    refine wpIn_rangeFunc_mine rfl (by decide) (gf := 87) (lb := #[.pointer (some ⟨W2.heap.size, 0, none⟩)]) rfl trivial (enters_of Try.func87 (by kernel_rfl) rfl) HSEQ.out (Below.refl _ _) (fun _ => rfl) (fun k hk => hk.2)
      (fun O pre W => DfsAt W NB g SB VB BB OB WB tv mv (fun b => T b ∨ (W3.heap.size ≤ b ∧ ¬ O b)) (visits (nxt g) m (s ++ [i], d) (pre.map (·.2))).1 (visits (nxt g) m (s ++ [i], d) (pre.map (·.2))).2 ∧ Turns T w W ∧ W3.heap.size ≤ W.heap.size)
      (fun _ _ _ => False)
      ?hI (fun _ _ _ _ _ h _ => h) (fun _ _ _ _ => trivial) ?h0
      (fun x => { tmps := #[nptr NB i, .pointer (some ⟨SB, 0, none⟩), .pointer (some ⟨VB, 0, none⟩), .pointer (some ⟨BB, 0, none⟩), undef, undef, nptr NB x.2, nptr NB i,
          .pointer (some ⟨nb NB i, 0, none⟩), .pointer (some ⟨nb NB i, 0, none⟩), .int .i64 i, .pointer (some ⟨SB, i, none⟩), nptr NB i, .pointer (some ⟨nb NB i, 0, none⟩), .pointer (some ⟨nb NB i, 2, none⟩),
          .iface TT vv, .slice A (nxt g i).length (nxt g i).length, .func (.func 87) #[] #[.pointer (some ⟨W2.heap.size, 0, none⟩)], .int .i64 x.1, nptr NB x.2, undef,
          undef, undef, undef, undef, undef, undef, undef, undef, undef, undef, undef, undef], defers := [] }) ?assign ?body ?done ?stop
    case hI =>
      rintro O pre X Y hle hO ⟨h1, h2, h3⟩ hT
      have hVL := HVL.out
      refine ⟨h1.turn hT (fun b hb ho h => ?_) (fun b hb h => ?_) ⟨?_, ?_, ?_, ?_⟩ ⟨fun h => ?_, fun h => ?_, fun h => ?_, fun j hj h => ?_⟩, h2.trans (hT.wider fun k hk => ?_), Nat.le_trans h3 hT.size⟩
      · rcases h with h | h
        · have := HTL.out b h; have := hO b ho; omega
        · exact h.2 ho
      · rcases h with h | h
        · exact .inl h
        · exact .inr ⟨h.1, fun e => e.elim h.2 fun e => by omega⟩
      · exact fun e => e.elim HAP.out.vis fun e => by omega
      · exact fun e => e.elim HAP.out.beh fun e => by omega
      · exact fun e => e.elim HAP.out.ord fun e => by omega
      · exact fun j hj e => e.elim (HAP.out.nodes j hj) fun e => by have := hVL.2.2.2 j hj; omega
      · have := hO _ h; omega
      · have := hO _ h; omega
      · have := hO _ h; omega
      · have := hO _ h; have := hVL.2.2.2 j hj; omega
      · have := hO k hk
        exact .inr ⟨by omega, by omega⟩
    case h0 =>
      have hVL := HVL.out
      refine ⟨H3.out.wider (fun b _ h => .inl h) ⟨?_, ?_, ?_, ?_⟩, HT3.out, Nat.le_refl _⟩
      · exact fun e => e.elim HAP.out.vis fun e => by omega
      · exact fun e => e.elim HAP.out.beh fun e => by omega
      · exact fun e => e.elim HAP.out.ord fun e => by omega
      · exact fun j hj e => e.elim (HAP.out.nodes j hj) fun e => by have := hVL.2.2.2 j hj; omega
    case assign =>
      intro l x W K hK
      gi_wp2
      exact hK
    case body =>
      rintro l O pre ⟨ti, t⟩ W hle2 hO ⟨h1, h2, h3⟩ hx
      have hpre : pre.map (·.2) ++ [t] <+: (nxt g i).reverse := by
        have := hx.map (·.2)
        rw [List.map_append, backZ_snd] at this; exact this
      have htm : t ∈ nxt g i := List.mem_reverse.1 (hpre.subset (by simp))
      have hpm : ∀ y ∈ pre.map (·.2), y ∈ nxt g i := fun y hy => List.mem_reverse.1 (hpre.subset (List.mem_append_left _ hy))
      have htl := nxt_lt HV.out hil htm
      have G := HGO.out (pre.map (·.2)) hpm
      have hsn := visits_snoc (nxt g) m (s ++ [i], d) t (pre.map (·.2))
      have hmap : (pre ++ [(ti, t)]).map (·.2) = pre.map (·.2) ++ [t] := by simp
      obtain ⟨vs, hvs⟩ : ∃ v, visits (nxt g) m (s ++ [i], d) (pre.map (·.2)) = v := ⟨_, rfl⟩
      obtain ⟨s1, d1⟩ := vs
      rw [hvs] at G hsn h1
      have G : Gone g (s ++ [i]) d s1 d1 := G
      have h1 : DfsAt W NB g SB VB BB OB WB tv mv (fun b => T b ∨ (W3.heap.size ≤ b ∧ ¬ O b)) s1 d1 := h1
      have x0 : W.cell? ⟨nb NB t, 0, none⟩ = some (.int .i64 t) := by have := (h1.nodes t htl).cell 0; simpa using this
      have cS : W.cell? ⟨SB, t, none⟩ = some (.bool (decide (t ∈ s1))) := (h1.seen.cell t).trans (seenC_get _ (by omega))
      have j0 : (0 : Int) ≤ (t : Int) := by omega
      have j1 : (t : Int) < 26 := by omega
      have cV := h1.vis.cell
      have hSl2 := h1.seen.lt
      have H4 := Lib.hid h1
      have HT4 := Lib.hid h2
      have HMAP := Lib.hid hmap
      by_cases hts : t ∈ s1
      · rw [decide_eq_true hts] at cS
        have HE := Lib.hid (hsn.trans (if_pos hts))
        clear hpre htm hpm G hsn hmap hvs h1 h2 hx hts
        gi_wp2_with fail
        refine ⟨Keeps.refl _ _, ?_, HT4.out, h3⟩
        rw [HMAP.out, HE.out]; exact H4.out
      · rw [decide_eq_false hts] at cS
        have HE := Lib.hid (hsn.trans (if_neg hts))
        have hD2 : DfsAt W NB g SB VB BB OB WB tv mv (fun b => (T b ∨ (W3.heap.size ≤ b ∧ ¬ O b)) ∧ b < W.heap.size) s1 d1 :=
          h1.wider (fun b hb h => ⟨h, hb⟩) ⟨fun e => h1.apart.vis e.1, fun e => h1.apart.beh e.1, fun e => h1.apart.ord e.1, fun j hj e => h1.apart.nodes j hj e.1⟩
        have HC := Lib.hid (IH.out t s1 d1 _ W hD2 (fun b h => h.2) hts (.step HR.out htm (by simp)) G.ok (by have := G.pre.length_le; simp at this; omega) G.lt G.len)
        clear hpre htm hpm G hsn hmap hvs h1 h2 hx hts hD2
        gi_wp2_with fail
        refine ⟨trivial, ((callsIn_wide.2 HC.out).inRound l).mono ?_⟩
        rintro e W' ⟨rfl, hT', hD'⟩
        have HT5 := Lib.hid hT'
        have HD5 := Lib.hid hD'
        have h5s := hT'.size
        clear hT' hD'
        gi_wp2_with fail
        refine ⟨HT5.out.keeps fun k h h' => ?_, ?_, HT4.out.trans (HT5.out.wider fun b h => ?_), by omega⟩
        · obtain ⟨h', _⟩ := h'
          rcases h with h | h
          · rcases h' with h' | h'
            · have := HTL.out k h'; omega
            · omega
          · rcases h' with h' | h'
            · have := HTL.out k h'; have := hO k h; omega
            · exact h'.2 h
        · rw [HMAP.out, HE.out]
          refine HD5.out.wider (fun b hb h => ?_) H4.out.apart
          rcases h with h | h
          · exact h.1
          · exact .inr ⟨by omega, fun ho => by have := hO b ho; omega⟩
        · rcases h.1 with h' | h'
          · exact .inl h'
          · exact .inr ⟨by omega, h.2⟩
    case done =>
      rintro D O xs W rfl hO rfl ⟨h1, h2, h3⟩ hOD hK
      have hvis := visit_succ (nxt g) m i (s, d)
      have G := HGO.out (nxt g i).reverse fun t ht => List.mem_reverse.1 ht
      obtain ⟨vs, hvs⟩ : ∃ v, visits (nxt g) m (s ++ [i], d) (nxt g i).reverse = v := ⟨_, rfl⟩
      obtain ⟨s1, d1⟩ := vs
      rw [backZ_snd] at h1
      rw [hvs] at G h1
      have hvis : visit (nxt g) (m + 1) i (s, d) = (s1, i :: d1) := by
        rw [hvis]; show ((visits (nxt g) m (s ++ [i], d) (nxt g i).reverse).1, i :: (visits (nxt g) m (s ++ [i], d) (nxt g i).reverse).2) = _; rw [hvs]
      have G : Gone g (s ++ [i]) d s1 d1 := G
      have h1 : DfsAt W NB g SB VB BB OB WB tv mv (fun b => T b ∨ (W3.heap.size ≤ b ∧ ¬ O b)) s1 d1 := h1
      have h1 : DfsAt W NB g SB VB BB OB WB tv mv (fun b => (T b ∨ (W3.heap.size ≤ b ∧ ¬ O b)) ∧ b < W.heap.size) s1 d1 :=
        h1.wider (fun b hb h => ⟨h, hb⟩) ⟨fun e => h1.apart.vis e.1, fun e => h1.apart.beh e.1, fun e => h1.apart.ord e.1, fun j hj e => h1.apart.nodes j hj e.1⟩
      have hd1 : d1.length ≤ 26 := by have := G.len; have := G.ok.len; omega
      have cB := h1.beh.cell
      obtain ⟨q, hq, hrow⟩ := h1.store
      have hOWne : OB ≠ WB := fun e => h1.apart.ord (e ▸ h1.ownW)
      have HP := Lib.hid (behind_any NB OB WB tv q mv i d1.length (d1.reverse.map (nptr NB)) _ W h1.ord hq hrow (fun e => h1.apart.ord e.1) (fun e => e.2.2 rfl) (by omega) hOWne)
      have H4 := Lib.hid h1
      have HT4 := Lib.hid h2
      have HVIS := Lib.hid hvis
      have HK := Lib.hid hK
      have hWl := hq.lt
      have hDl := (Array.getElem?_eq_some_iff.1 hK).1
      clear hvis G hvs h1 h2 hq hrow hK
      gi_wp2_with fail
      refine ⟨trivial, (callsIn_wide.2 HP.out).mono ?_⟩
      rintro e W5 ⟨rfl, q', hT5, hq5, hr5⟩
      have h5s := hT5.size
      have hK5 : W5.heap[W3.heap.size]? = some (.deferred (some [])) := (hT5.block _ hDl fun e => by
          rcases e with e | e
          · rcases e.1.1 with e | e
            · have := HTL.out _ e; omega
            · exact e.2 hOD
          · subst e
            rcases H4.out.ownW.1 with e | e
            · have := HTL.out _ e; omega
            · exact e.2 hOD).trans HK.out
      have HD5 := Lib.hid (H4.out.put hT5 hq5 hr5 hWl)
      have HT5 := Lib.hid hT5
      have HK5 := Lib.hid hK5
      clear hT5 hq5 hr5 hK5
      gi_wp2_with fail
      refine ⟨by simp, .inl ⟨_, _, rfl, run_takeDeferred HK5.out, ?_⟩⟩
      have hVL := HVL.out
      have T5 : Turns T w W5 := HT4.out.trans (HT5.out.wider fun b h => by
        rcases h with h | h
        · rcases h.1.1 with h' | h'
          · exact .inl h'
          · exact .inr ⟨by omega, h.1.2⟩
        · subst h
          rcases H4.out.ownW.1 with h' | h'
          · exact .inl h'
          · exact .inr ⟨by omega, hWl⟩)
      have T6 : Turns T w (W5.putObj W3.heap.size (.deferred none)) := T5.trans ((Turns.putObj (O := fun b => b = W3.heap.size) (l := W3.heap.size) rfl _).wider fun b h => .inr ⟨by omega, by omega⟩)
      refine ⟨_, results_none rfl _ _ _, rfl, T6, ?_⟩
      rw [HVIS.out]
      refine HD5.out.turn (Turns.putObj (O := fun b => b = W3.heap.size) (l := W3.heap.size) rfl _) (fun b hb e h => ?_) (fun b hb h => ?_) ⟨fun e => e.elim HAP.out.vis fun e => ?_, fun e => e.elim HAP.out.beh fun e => ?_, fun e => e.elim HAP.out.ord fun e => ?_, fun j hj e => e.elim (HAP.out.nodes j hj) fun e => ?_⟩ ⟨fun e => ?_, fun e => ?_, fun e => ?_, fun j hj e => ?_⟩
      · subst e
        rcases h with h | h
        · rcases h.1 with h | h
          · have := HTL.out _ h; omega
          · exact h.2 hOD
        · omega
      · rcases h with h | h
        · rcases h.1 with h' | h'
          · exact .inl h'
          · exact .inr ⟨by omega, by simpa using hb⟩
        · exact .inr ⟨by omega, by simpa using hb⟩
      · omega
      · omega
      · omega
      · have := hVL.2.2.2 j hj; omega
      · have e' : VB = W3.heap.size := e
        omega
      · have e' : BB = W3.heap.size := e
        omega
      · have e' : OB = W3.heap.size := e
        omega
      · have e' : nb NB j = W3.heap.size := e
        have := hVL.2.2.2 j hj; omega
    case stop =>
      rintro D c pre W _ _ h _
      exact h.elim
end Go.Proofs.Ytdolbmonmkjajaa
